package tree_test

import (
	"bytes"
	"maps"
	"math"
	"math/rand"
	"slices"
	"strings"
	"testing"

	"gablet/api"
	"gablet/block"
	"gablet/device"
	"gablet/pages"
	"gablet/tree"
)

// What the chapter says of a node's bytes.
const (
	room      = 503 // behind 2 bytes of a block's body
	pairMore  = 4
	childMore = 6
)

// ahead is how many blocks of a device are ahead of the pages, and as many are behind them.
const ahead = 3

// The states of pages.
const (
	free    = 0
	old     = 1
	fresh   = 2
	dropped = 3
)

// wood is a tree with its pages and its device.
type wood struct {
	*tree.Tree
	p    *pages.Pages
	d    *device.Device
	from int
}

// model are the pairs that a root is to have.
type model map[string]string

// with is a model with a pair more, or another value.
func (m model) with(key, value string) model {
	m = maps.Clone(m)
	m[key] = value
	return m
}

// without is a model without a key.
func (m model) without(key string) model {
	m = maps.Clone(m)
	delete(m, key)
	return m
}

// keys are a model's, rising.
func (m model) keys() []string { return slices.Sorted(maps.Keys(m)) }

// pairs are a model's, rising, a key and a value by turns.
func (m model) pairs() []string {
	l := []string{}
	for _, key := range m.keys() {
		l = append(l, key, m[key])
	}
	return l
}

// list are a model's pairs as Build takes them.
func (m model) list() []api.Pair {
	l := []api.Pair{}
	for _, key := range m.keys() {
		l = append(l, api.Pair{Key: []byte(key), Value: []byte(m[key])})
	}
	return l
}

// flat are pairs, a key and a value by turns.
func flat(l []api.Pair) []string {
	out := []string{}
	for _, pair := range l {
		out = append(out, string(pair.Key), string(pair.Value))
	}
	return out
}

// planted answers a tree over so many pages, with blocks ahead of them and behind them that are full of letters, or ends the test.
func planted(t testing.TB, n int) wood {
	t.Helper()
	d, e := device.New(min(n+2*ahead, api.MaxBlocks))
	p, f := pages.New(n)
	if e != api.OK || f != api.OK {
		t.Fatalf("a device, and %d pages: %d, %d", n, e, f)
	}
	from := min(ahead, d.Size()-n)
	x, e := tree.New(d, p, from)
	if x == nil || e != api.OK {
		t.Fatalf("P7.1: New at %d: %d", from, e)
	}
	w := wood{x, p, d, from}
	for k := range d.Size() {
		if !w.own(k) {
			told(t, "Write", d.Write(k, bytes.Repeat([]byte("other"), 103)[:512]), api.OK)
		}
	}
	told(t, "Flush", d.Flush(), api.OK)
	return w
}

// own tells whether a block is a page's.
func (w wood) own(k int) bool { return k >= w.from && k < w.from+w.p.Size() }

// told holds an error against the one that is wanted.
func told(t testing.TB, what string, got, want api.Errno) {
	t.Helper()
	if got != want {
		t.Errorf("%s: %d and not %d", what, got, want)
	}
}

// put answers the root behind a Put that there is room for, or ends the test.
func (w wood) put(t testing.TB, root int, key, value string) int {
	t.Helper()
	next, e := w.Put(root, []byte(key), []byte(value))
	if e != api.OK || next < 0 || next >= w.p.Size() {
		t.Fatalf("P7.3: Put of %q: %d, %d", key, next, e)
	}
	return next
}

// cut answers the root behind a Cut of a key that is there, or ends the test.
func (w wood) cut(t testing.TB, root int, key string) int {
	t.Helper()
	next, is, e := w.Cut(root, []byte(key))
	if e != api.OK || !is || next < tree.None || next >= w.p.Size() {
		t.Fatalf("P7.3: Cut of %q: %d, %v, %d", key, next, is, e)
	}
	return next
}

// build answers the root of a model's pairs, or ends the test.
func (w wood) build(t testing.TB, m model) int {
	t.Helper()
	root, e := w.Build(m.list())
	if e != api.OK || root < tree.None || root >= w.p.Size() {
		t.Fatalf("P7.4: Build of %d: %d, %d", len(m), root, e)
	}
	return root
}

// settle makes all that stands sure, and all pages old that are used.
func (w wood) settle(t testing.TB) {
	t.Helper()
	told(t, "Flush", w.d.Flush(), api.OK)
	told(t, "Settle", w.p.Settle(), api.OK)
}

// states are those of all pages.
func (w wood) states() string {
	var l []byte
	for k := range w.p.Size() {
		l = append(l, '0'+w.p.State(k))
	}
	return string(l)
}

// blocks are what stands in all blocks.
func (w wood) blocks(t testing.TB) []string {
	t.Helper()
	var l []string
	for k := range w.d.Size() {
		b, e := w.d.Read(k)
		told(t, "Read", e, api.OK)
		l = append(l, string(b))
	}
	return l
}

// used are the pages that are not free, and those of them that are dropped.
func (w wood) used() (all, gone []int) {
	for k := range w.p.Size() {
		if w.p.State(k) != free {
			all = append(all, k)
		}
		if w.p.State(k) == dropped {
			gone = append(gone, k)
		}
	}
	return all, gone
}

// leave takes pages until so many are free, and answers them.
func (w wood) leave(t testing.TB, n int) []int {
	t.Helper()
	var l []int
	for w.p.Free() > n {
		k, e := w.p.Take()
		told(t, "Take", e, api.OK)
		l = append(l, k)
	}
	return l
}

// walk answers the pages of a root.
func (w wood) walk(t testing.TB, what string, root int) []int {
	t.Helper()
	l, e := w.Walk(root)
	if e != api.OK {
		t.Errorf("P7.2: %s: Walk of %d: %d", what, root, e)
	}
	return l
}

// without are the numbers of a list that another one has not.
func without(l, others []int) []int {
	return slices.DeleteFunc(slices.Clone(l), func(k int) bool { return slices.Contains(others, k) })
}

// twig is a node as it stands in a page: how many nodes lie below it, and its entries' keys, with their values or their pages.
type twig struct {
	level  int
	keys   []string
	values []string
	pages  []int
}

// number is one of some bytes, the highest first.
func number(b []byte) int {
	n := 0
	for _, one := range b {
		n = n*256 + int(one)
	}
	return n
}

// at tells the node of a page, taken off its block by other ways than the tree's own.
func (w wood) at(t testing.TB, page int) twig {
	t.Helper()
	b, e := w.d.Read(w.from + page)
	told(t, "Read", e, api.OK)
	_, body, e := block.Open(b)
	if e != api.OK || len(body) < 2 || len(body) > 505 {
		t.Fatalf("page %d: no sealed block (%d, %d bytes)", page, e, len(body))
	}
	n := twig{level: number(body[:2])}
	for rest := body[2:]; len(rest) > 0; {
		size := number(rest[:2])
		n.keys = append(n.keys, string(rest[2:2+size]))
		rest = rest[2+size:]
		if n.level > 0 {
			n.pages = append(n.pages, number(rest[:4]))
			rest = rest[4:]
			continue
		}
		size = number(rest[:2])
		n.values = append(n.values, string(rest[2:2+size]))
		rest = rest[2+size:]
	}
	return n
}

// bytes are how many of the room a node's entries take.
func (n twig) bytes() int {
	sum := 0
	for i, key := range n.keys {
		if n.level > 0 {
			sum += childMore + len(key)
		} else {
			sum += pairMore + len(key) + len(n.values[i])
		}
	}
	return sum
}

// grown is how a root's nodes lie.
type grown struct {
	pages  []int    // of all its nodes
	pairs  []string // of all its leaves
	levels [][]twig // its nodes by their levels, from the leaves on up, in order
}

// height is how many nodes lie one below the other.
func (g grown) height() int { return len(g.levels) }

// grown tells how a root's nodes lie, and checks all that the chapter's words say of a root.
func (w wood) grown(t testing.TB, what string, root int) grown {
	t.Helper()
	var g grown
	if root == tree.None {
		return g
	}
	g.levels = make([][]twig, w.at(t, root).level+1)
	w.climb(t, what, root, &g)
	slices.Sort(g.pages)
	if len(slices.Compact(slices.Clone(g.pages))) != len(g.pages) {
		t.Errorf("%s: a page stands in the root twice: %v", what, g.pages)
	}
	return g
}

// climb adds the node of a page, and all below it, and answers the least key.
func (w wood) climb(t testing.TB, what string, page int, g *grown) string {
	t.Helper()
	n := w.at(t, page)
	g.pages = append(g.pages, page)
	g.levels[n.level] = append(g.levels[n.level], n)
	if len(n.keys) == 0 || n.level > 0 && len(n.keys) < 2 {
		t.Fatalf("%s: a node of level %d with %d entries", what, n.level, len(n.keys))
	}
	if n.bytes() > room || !slices.IsSorted(n.keys) || len(slices.Compact(slices.Clone(n.keys))) != len(n.keys) {
		t.Errorf("%s: a node of %d bytes, with the keys %.20q", what, n.bytes(), n.keys)
	}
	for i, child := range n.pages {
		if w.at(t, child).level != n.level-1 {
			t.Fatalf("%s: leaves that don't lie equally deep", what)
		}
		if least := w.climb(t, what, child, g); least != n.keys[i] {
			t.Errorf("%s: a child's key %q, and the least key below it %q", what, n.keys[i], least)
		}
	}
	if n.level == 0 {
		for i, key := range n.keys {
			g.pairs = append(g.pairs, key, n.values[i])
		}
	}
	return n.keys[0]
}

// stands holds all that can be told of a root against a model, and answers how its nodes lie.
func (w wood) stands(t testing.TB, what string, root int, m model) grown {
	t.Helper()
	w.tells(t, what, root, m)
	for key, value := range m {
		if got, is, e := w.Get(root, []byte(key)); string(got) != value || !is || e != api.OK {
			t.Errorf("P7.2: %s: Get of %q: %.9q, %v, %d", what, key, got, is, e)
		}
	}
	g := w.grown(t, what, root)
	if want := m.pairs(); !slices.Equal(g.pairs, want) {
		t.Errorf("%s: the leaves have %.40q and not %.40q", what, g.pairs, want)
	}
	if l := w.walk(t, what, root); !slices.Equal(l, g.pages) {
		t.Errorf("P7.2: %s: Walk %v and not %v", what, l, g.pages)
	}
	return g
}

// tells holds the pairs of a root against a model.
func (w wood) tells(t testing.TB, what string, root int, m model) {
	t.Helper()
	l, e := w.Scan(root, nil, nil)
	if want := m.pairs(); e != api.OK || !slices.Equal(flat(l), want) {
		t.Errorf("%s: Scan: %.40q, %d and not %.40q", what, flat(l), e, want)
	}
}

// alone checks that the pages that are not free are a root's, and those that are dropped.
func (w wood) alone(t testing.TB, what string, root int) {
	t.Helper()
	all, gone := w.used()
	if l := w.walk(t, what, root); !slices.Equal(l, without(all, gone)) {
		t.Errorf("P7.6: %s: the pages %v, dropped %v, and the root's %v", what, all, gone, l)
	}
}

// unturned answers a check that neither the pages nor the blocks are others than now.
func (w wood) unturned(t testing.TB) func(what string) {
	t.Helper()
	states, blocks := w.states(), w.blocks(t)
	return func(what string) {
		t.Helper()
		if got := w.states(); got != states {
			t.Errorf("R2: %s: the pages' states %s and not %s", what, got, states)
		}
		if !slices.Equal(w.blocks(t), blocks) {
			t.Errorf("R2: %s: a block is written", what)
		}
	}
}

// text are bytes of a length, others for each n, and the same each time.
func text(n, length int) string {
	b := make([]byte, length)
	rand.New(rand.NewSource(int64(1000*n + length))).Read(b)
	return string(b)
}

// name is a key of a length, 3 at least: they rise with n.
func name(n, length int) string {
	return string([]byte{byte(n >> 16), byte(n >> 8), byte(n)}) + strings.Repeat("k", length-3)
}

// some are n pairs, of keys and values of a length, with room for others between the keys.
func some(n, key, value int) model {
	m := model{}
	for i := range n {
		m[name(2*i+1, key)] = text(i, value)
	}
	return m
}

// mixed are n pairs of keys and values of all lengths.
func mixed(n int) model {
	m := model{}
	dice := rand.New(rand.NewSource(int64(n)))
	for i := 0; len(m) < n; i++ {
		m[text(i, 1+dice.Intn(api.MaxKey))] = text(-i, dice.Intn(api.MaxValue+1))
	}
	return m
}

// shuffled are some keys in an order of no rule.
func shuffled(l []string) []string {
	l = slices.Clone(l)
	rand.New(rand.NewSource(int64(len(l)))).Shuffle(len(l), func(i, j int) { l[i], l[j] = l[j], l[i] })
	return l
}

// orders are some in which keys may come.
func orders(l []string) map[string][]string {
	back := slices.Clone(l)
	slices.Reverse(back)
	var inward []string
	for i := range l {
		if i%2 == 0 {
			inward = append(inward, l[i/2])
		} else {
			inward = append(inward, l[len(l)-1-i/2])
		}
	}
	outward := slices.Clone(inward)
	slices.Reverse(outward)
	return map[string][]string{"rising": l, "falling": back, "inward": inward, "outward": outward, "shuffled": shuffled(l)}
}

// wrongRoots are numbers that are neither None nor one of so many pages.
func wrongRoots(n int) []int {
	return []int{-2, -3, -n, n, n + 1, 2*n + 1, n + 256, n + 65536, 1 << 32, math.MaxInt, math.MaxInt - 1, math.MinInt, math.MinInt + 1}
}

// wrongKeys are those that may not be.
func wrongKeys() [][]byte {
	return [][]byte{nil, {}, make([]byte, api.MaxKey+1), make([]byte, api.MaxKey+2), make([]byte, 255), make([]byte, 256), make([]byte, 257), make([]byte, 65536), make([]byte, 70000)}
}

// wrongValues are those that may not be.
func wrongValues() [][]byte {
	return [][]byte{make([]byte, api.MaxValue+1), make([]byte, api.MaxValue+2), make([]byte, 255), make([]byte, 256), make([]byte, 512), make([]byte, 65536), make([]byte, 70000)}
}

// call is one that is handed a root, with all that it answers: those that a zero value is wanted of are zero.
type call struct {
	what string
	do   func(w wood, root int) (zero bool, e api.Errno)
}

// calls are all that are handed a root, with arguments that may be.
func calls(key string) []call {
	k := []byte(key)
	return []call{
		{"Get", func(w wood, root int) (bool, api.Errno) {
			v, is, e := w.Get(root, k)
			return len(v) == 0 && !is, e
		}},
		{"Put", func(w wood, root int) (bool, api.Errno) {
			next, e := w.Put(root, k, []byte("v"))
			return next == 0, e
		}},
		{"Cut", func(w wood, root int) (bool, api.Errno) {
			next, is, e := w.Cut(root, k)
			return next == 0 && !is, e
		}},
		{"Scan", func(w wood, root int) (bool, api.Errno) {
			l, e := w.Scan(root, nil, nil)
			return len(l) == 0, e
		}},
		{"Walk", func(w wood, root int) (bool, api.Errno) {
			l, e := w.Walk(root)
			return len(l) == 0, e
		}},
	}
}

// refused checks that each call that is handed a root answers an error, and nothing else.
func (w wood) refused(t testing.TB, what string, root int, key string, want api.Errno) {
	t.Helper()
	for _, c := range calls(key) {
		if zero, e := c.do(w, root); e != want || !zero {
			t.Errorf("%s: %s of %d: %d and not %d, zero %v", what, c.what, root, e, want, zero)
		}
	}
}

func TestNumbersThatAreGiven(t *testing.T) {
	if api.OK != 0 || api.ErrArg != 1 || api.ErrNil != 2 || api.ErrFull != 7 || api.ErrPower != 8 || api.ErrSpoil != 9 {
		t.Error("the errors' numbers")
	}
	if api.MaxKey != 32 || api.MaxValue != 128 || api.MaxBlocks != 4096 || block.Most != 505 || tree.None != -1 {
		t.Error("the limits")
	}
}

func TestTheChaptersExamples(t *testing.T) {
	d, _ := device.New(50)
	p, _ := pages.New(40)
	x, e := tree.New(d, p, 10)
	if x == nil || e != api.OK {
		t.Fatalf("New: %d", e)
	}
	w := wood{x, p, d, 10}
	root := w.put(t, tree.None, "a", "1")
	if v, is, e := x.Get(root, []byte("a")); string(v) != "1" || !is || e != api.OK {
		t.Errorf("Get of a: %q, %v, %d", v, is, e)
	}
	if v, is, e := x.Get(root, []byte("b")); len(v) != 0 || is || e != api.OK {
		t.Errorf("Get of b: %q, %v, %d", v, is, e)
	}
	if next, is, e := x.Cut(root, []byte("b")); next != root || is || e != api.OK {
		t.Errorf("Cut of b: %d, %v, %d", next, is, e)
	}
	if next, is, e := x.Cut(root, []byte("a")); next != tree.None || !is || e != api.OK {
		t.Errorf("Cut of a: %d, %v, %d", next, is, e)
	}
	m := model{}
	root = tree.None
	for n := range 30 {
		m = m.with(text(n, 5), text(n, 100))
		root = w.put(t, root, text(n, 5), text(n, 100))
	}
	w.stands(t, "30 keys", root, m)
	if l := w.walk(t, "30 keys", root); len(l) < 8 {
		t.Errorf("Walk: %v", l)
	}
}

// P7.1

func TestNewOfNoDeviceOrNoPages(t *testing.T) {
	d, _ := device.New(20)
	p, _ := pages.New(10)
	for _, from := range []int{0, -1, 10, 11, math.MaxInt, math.MinInt} {
		for _, c := range []struct {
			d *device.Device
			p *pages.Pages
		}{{nil, p}, {d, nil}, {nil, nil}} {
			if x, e := tree.New(c.d, c.p, from); x != nil || e != api.ErrNil {
				t.Errorf("P7.1: New at %d: %d", from, e)
			}
		}
	}
}

func TestNewAtEachPlace(t *testing.T) {
	for _, c := range []struct{ blocks, pages int }{{20, 10}, {10, 10}, {1, 1}, {2, 1}, {10, 11}, {1, 4096}, {4096, 1}, {4096, 4096}, {4096, 4000}} {
		d, _ := device.New(c.blocks)
		p, _ := pages.New(c.pages)
		most := c.blocks - c.pages
		for _, from := range []int{0, 1, most - 1, most, most + 1, most + 2, -1, -2, -most, c.blocks, c.blocks + 1, math.MaxInt, math.MaxInt - c.pages, math.MaxInt - c.pages + 1, math.MinInt, math.MinInt + 1} {
			want := api.OK
			if from < 0 || from > most {
				want = api.ErrArg
			}
			if x, e := tree.New(d, p, from); e != want || (x != nil) != (want == api.OK) {
				t.Errorf("P7.1: New of %d blocks, %d pages at %d: %d and not %d", c.blocks, c.pages, from, e, want)
			}
		}
	}
}

func TestNewOfADeviceWithoutPower(t *testing.T) {
	d, _ := device.New(20)
	p, _ := pages.New(10)
	told(t, "Off", d.Off(), api.OK)
	if x, e := tree.New(d, p, 10); x == nil || e != api.OK {
		t.Errorf("P7.1: New without power: %d", e)
	}
}

func TestPagesAreTheBlocksFromTheirPlaceOn(t *testing.T) {
	for _, from := range []int{0, 1, 7, 8} {
		d, _ := device.New(20)
		p, _ := pages.New(12)
		x, e := tree.New(d, p, from)
		if e != api.OK {
			t.Fatalf("P7.1: New at %d: %d", from, e)
		}
		w := wood{x, p, d, from}
		was := w.blocks(t)
		m := some(33, 32, 128) // 11 leaves and their root
		root := w.build(t, m)
		w.stands(t, "Build", root, m)
		for k, b := range w.blocks(t) {
			_, _, e := block.Open([]byte(b))
			if w.own(k) && e != api.OK {
				t.Errorf("Words: the block %d, of a page, is not sealed: %d", k, e)
			}
			if !w.own(k) && b != was[k] {
				t.Errorf("Words: the block %d, which is no page's, is written", k)
			}
		}
	}
}

func TestTwoTreesOverTheSamePages(t *testing.T) {
	w := planted(t, 30)
	m := mixed(40)
	root := w.build(t, m)
	x, e := tree.New(w.d, w.p, w.from)
	told(t, "P7.1: New", e, api.OK)
	other := wood{x, w.p, w.d, w.from}
	other.stands(t, "R5: another tree", root, m)
	key := m.keys()[3]
	root = other.cut(t, root, key)
	w.stands(t, "R5: the tree", root, m.without(key))
}

// P7.2

func TestRootsThatAreNotThere(t *testing.T) {
	w := planted(t, 20)
	m := some(30, 10, 40)
	root := w.build(t, m)
	check := w.unturned(t)
	for _, wrong := range wrongRoots(20) {
		w.refused(t, "P7.2: a wrong root", wrong, m.keys()[0], api.ErrArg)
	}
	told(t, "Off", w.d.Off(), api.OK)
	for _, wrong := range wrongRoots(20) {
		w.refused(t, "P7.2: a wrong root, without power", wrong, m.keys()[0], api.ErrArg)
	}
	told(t, "On", w.d.On(9, 9, 9, 9, 9, 9, 9, 9, 9, 9), api.OK)
	check("wrong roots")
	w.stands(t, "behind wrong roots", root, m)
}

func TestTheFirstAndTheLastPageAsRoots(t *testing.T) {
	for _, k := range []int{0, 1, 18, 19} {
		w := planted(t, 20)
		for n := range k {
			told(t, "Use", w.p.Use(n), api.OK)
		}
		root := w.put(t, tree.None, "a", "1")
		if root != k {
			t.Errorf("P7.3: the root is %d and not %d", root, k)
		}
		w.stands(t, "P7.2: a root at the bounds", root, model{"a": "1"})
	}
}

func TestNoneHasNothing(t *testing.T) {
	for _, power := range []bool{true, false} {
		w := planted(t, 20)
		if !power {
			told(t, "Off", w.d.Off(), api.OK)
		}
		if v, is, e := w.Get(tree.None, []byte("a")); len(v) != 0 || is || e != api.OK {
			t.Errorf("P7.2: Get of None: %q, %v, %d", v, is, e)
		}
		if l, e := w.Scan(tree.None, nil, nil); len(l) != 0 || e != api.OK {
			t.Errorf("P7.2: Scan of None: %d, %d", len(l), e)
		}
		if l, e := w.Walk(tree.None); len(l) != 0 || e != api.OK {
			t.Errorf("P7.2: Walk of None: %v, %d", l, e)
		}
		if next, is, e := w.Cut(tree.None, []byte("a")); next != tree.None || is || e != api.OK {
			t.Errorf("P7.3: Cut of None: %d, %v, %d", next, is, e)
		}
		if next, e := w.Build(nil); next != tree.None || e != api.OK {
			t.Errorf("P7.4: Build of nothing: %d, %d", next, e)
		}
		if w.p.Free() != 20 {
			t.Errorf("P7.3: %d pages are free", w.p.Free())
		}
	}
}

func TestKeysAndValuesThatMayNotBe(t *testing.T) {
	w := planted(t, 20)
	m := some(30, 10, 40)
	root := w.build(t, m)
	check := w.unturned(t)
	for _, at := range []int{root, tree.None, 99} {
		for _, key := range wrongKeys() {
			for _, c := range calls(string(key))[:3] {
				if zero, e := c.do(w, at); e != api.ErrArg || !zero {
					t.Errorf("P7.2, P7.3: %s of a key of %d bytes: %d, zero %v", c.what, len(key), e, zero)
				}
			}
		}
		for _, value := range wrongValues() {
			if next, e := w.Put(at, []byte("a"), value); next != 0 || e != api.ErrArg {
				t.Errorf("P7.3: Put of a value of %d bytes: %d, %d", len(value), next, e)
			}
		}
		if next, e := w.Put(at, nil, make([]byte, 129)); next != 0 || e != api.ErrArg {
			t.Errorf("P7.3: Put of neither: %d, %d", next, e)
		}
	}
	check("keys and values that may not be")
}

func TestKeysAndValuesAtTheBounds(t *testing.T) {
	for _, key := range []int{1, 2, 31, 32} {
		for _, value := range []int{0, 1, 2, 127, 128} {
			w := planted(t, 20)
			m := some(10, 5, 20).with(text(key, key), text(value, value))
			root := w.put(t, w.build(t, some(10, 5, 20)), text(key, key), text(value, value))
			w.stands(t, "P7.3: at the bounds", root, m)
			root = w.cut(t, root, text(key, key))
			w.stands(t, "P7.3: at the bounds", root, some(10, 5, 20))
		}
	}
}

func TestKeysOfNoughtsAndOfOnes(t *testing.T) {
	w := planted(t, 40)
	m, root := model{}, tree.None
	for _, key := range []string{"\x00", "\x00\x00", strings.Repeat("\x00", 32), "\xff", strings.Repeat("\xff", 32), "a", "a\x00", "ab", "b", "\x7f", "\x80"} {
		m = m.with(key, text(len(key), 120))
		root = w.put(t, root, key, text(len(key), 120))
		w.stands(t, "P7.3: noughts and ones", root, m)
	}
	for _, key := range m.keys() {
		if key != "a" {
			m, root = m.without(key), w.cut(t, root, key)
			w.stands(t, "P7.3: noughts and ones", root, m)
		}
	}
}

func TestWhatMayNotBeIsAheadOfThePower(t *testing.T) {
	w := planted(t, 20)
	root := w.build(t, some(30, 10, 40))
	told(t, "Off", w.d.Off(), api.OK)
	for _, key := range wrongKeys() {
		for _, c := range calls(string(key))[:3] {
			if zero, e := c.do(w, root); e != api.ErrArg || !zero {
				t.Errorf("P7.2: %s of a key of %d bytes: %d, zero %v", c.what, len(key), e, zero)
			}
		}
	}
	if _, e := w.Put(root, []byte("a"), make([]byte, 129)); e != api.ErrArg {
		t.Errorf("P7.3: Put of a value that may not be, without power: %d", e)
	}
	if _, e := w.Build([]api.Pair{{}}); e != api.ErrArg {
		t.Errorf("P7.4: Build of a key that may not be, without power: %d", e)
	}
}

func TestWithoutPower(t *testing.T) {
	w := planted(t, 20)
	m := some(30, 10, 40)
	root := w.build(t, m)
	w.settle(t)
	states := w.states()
	told(t, "Off", w.d.Off(), api.OK)
	w.refused(t, "P7.2: without power", root, m.keys()[0], api.ErrPower)
	for k := range 20 {
		w.refused(t, "P7.2: without power", k, "x", api.ErrPower)
	}
	if next, e := w.Put(tree.None, []byte("a"), nil); next != 0 || e != api.ErrPower {
		t.Errorf("P7.3: Put without power: %d, %d", next, e)
	}
	if next, e := w.Build(m.list()[:1]); next != 0 || e != api.ErrPower {
		t.Errorf("P7.4: Build without power: %d, %d", next, e)
	}
	if got := w.states(); got != states {
		t.Errorf("P7.3: without power: the pages' states %s and not %s", got, states)
	}
	told(t, "On", w.d.On(), api.OK)
	w.stands(t, "behind On", root, m)
}

// scanned holds a Scan against a model.
func (w wood) scanned(t testing.TB, root int, m model, from, to []byte) {
	t.Helper()
	want := []string{}
	for _, key := range m.keys() {
		if key >= string(from) && (len(to) == 0 || key < string(to)) {
			want = append(want, key, m[key])
		}
	}
	if l, e := w.Scan(root, from, to); e != api.OK || !slices.Equal(flat(l), want) {
		t.Errorf("P7.2: Scan from %q to %q: %.40q, %d and not %.40q", from, to, flat(l), e, want)
	}
}

func TestScanFromEachPlaceToEachPlace(t *testing.T) {
	for _, m := range []model{{}, {"k": ""}, some(3, 4, 5), some(11, 32, 128), some(24, 20, 100), mixed(25)} {
		w := planted(t, 60)
		root := w.build(t, m)
		bounds := [][]byte{nil, {}, {0}, {0xff}, bytes.Repeat([]byte{0xff}, 33), make([]byte, 40), bytes.Repeat([]byte("k"), 600)}
		for _, key := range m.keys() {
			b := []byte(key)
			bounds = append(bounds, b, append(slices.Clone(b), 0), b[:len(b)-1])
		}
		for _, from := range bounds {
			for _, to := range bounds {
				w.scanned(t, root, m, from, to)
			}
		}
	}
}

func TestGetAndScanLookAtNothingThatIsBeside(t *testing.T) {
	w := planted(t, 300)
	m := some(600, 32, 128)
	root := w.build(t, m)
	g := w.stands(t, "Build", root, m)
	leaves := map[string]int{} // the pages of the leaves, by their least keys
	for _, k := range g.pages {
		if n := w.at(t, k); n.level == 0 {
			leaves[n.keys[0]] = k
		}
	}
	for _, at := range []int{0, 1, 2, 99, 100, 198, 199} {
		leaf := g.levels[0][at]
		own, _ := w.d.Read(w.from + leaves[leaf.keys[0]])
		whole := map[int][]byte{}
		for _, k := range leaves {
			whole[k], _ = w.d.Read(w.from + k)
			w.written(t, k, make([]byte, 512))
		}
		w.written(t, leaves[leaf.keys[0]], own)
		for _, key := range leaf.keys {
			if v, is, e := w.Get(root, []byte(key)); string(v) != m[key] || !is || e != api.OK {
				t.Errorf("P7.2: Get of %q, all others spoilt: %.9q, %v, %d", key, v, is, e)
			}
		}
		last := leaf.keys[len(leaf.keys)-1]
		w.scanned(t, root, m, []byte(leaf.keys[0]), []byte(last+"x"))
		w.scanned(t, root, m, []byte(last), []byte(last+"x"))
		if at < 199 {
			w.scanned(t, root, m, []byte(leaf.keys[0]), []byte(g.levels[0][at+1].keys[0]))
		} else {
			w.scanned(t, root, m, []byte(leaf.keys[0]), nil)
		}
		for k, b := range whole {
			w.written(t, k, b)
		}
	}
}

func TestGetOfEachKeyAndOfThoseBeside(t *testing.T) {
	for _, m := range []model{{"k": "v"}, some(3, 4, 5), some(40, 32, 128), some(200, 31, 100), mixed(90)} {
		w := planted(t, 200)
		root := w.build(t, m)
		for _, key := range m.keys() {
			for _, beside := range []string{key, key + "\x00", key[:len(key)-1], key[:len(key)-1] + "\x00", key[:len(key)-1] + "\xff", "\x00", "\xff"} {
				if len(beside) < 1 || len(beside) > 32 {
					continue
				}
				want, there := m[beside]
				if v, is, e := w.Get(root, []byte(beside)); string(v) != want || is != there || e != api.OK {
					t.Errorf("P7.2: Get of %q: %.9q, %v, %d", beside, v, is, e)
				}
			}
		}
	}
}

func TestWhatIsToldTurnsNothing(t *testing.T) {
	w := planted(t, 60)
	m := mixed(60)
	root := w.build(t, m)
	check := w.unturned(t)
	told(t, "Arm", w.d.Arm(0), api.OK)
	for range 2 {
		for _, key := range append(m.keys(), "no", "none") {
			w.Get(root, []byte(key))
			w.Scan(root, []byte(key), nil)
		}
		w.Walk(root)
	}
	if !w.d.Power() {
		t.Error("P7.2: Get, Scan or Walk writes")
	}
	check("Get, Scan and Walk")
}

// P7.2: ErrSpoil

// written writes a page's block.
func (w wood) written(t testing.TB, page int, b []byte) {
	t.Helper()
	told(t, "Write", w.d.Write(w.from+page, b), api.OK)
}

// sealed is a node's block of a body.
func sealed(t testing.TB, kind uint8, body string) []byte {
	t.Helper()
	b, e := block.Seal(kind, []byte(body))
	if e != api.OK {
		t.Fatalf("Seal: %d", e)
	}
	return b
}

func TestPagesThatAreNoNodes(t *testing.T) {
	w := planted(t, 20)
	root := w.build(t, some(30, 10, 40))
	dice := rand.New(rand.NewSource(1))
	blocks := [][]byte{make([]byte, 512), bytes.Repeat([]byte{0xff}, 512)}
	for range 20 {
		b := make([]byte, 512)
		dice.Read(b)
		blocks = append(blocks, b)
	}
	for kind := 1; kind < 256; kind++ {
		for _, body := range []string{"", "\x00", "\x00\x00", "ab", "abc", "\x00\x00\x00\x01k", strings.Repeat("\x00", 505), strings.Repeat("x", 505), text(kind, 300)} {
			blocks = append(blocks, sealed(t, uint8(kind), body))
		}
	}
	for _, b := range blocks {
		w.written(t, 19, b)
		check := w.unturned(t)
		w.refused(t, "P7.2: no node", 19, "a", api.ErrSpoil)
		check("no node")
	}
	for k := range 20 {
		if w.p.State(k) == free && k != 19 {
			w.refused(t, "P7.2: a page that was never written", k, "a", api.ErrSpoil)
		}
	}
	w.stands(t, "beside no node", root, some(30, 10, 40))
}

// spoilt holds what Get, Scan and Walk tell of a root of which one page is spoilt against what they may tell: what they did before, if they don't look at it, or ErrSpoil.
func (w wood) spoilt(t testing.TB, what string, root int, m model) {
	t.Helper()
	check := w.unturned(t)
	for _, c := range calls("a")[3:] {
		if zero, e := c.do(w, root); e != api.ErrSpoil || !zero {
			t.Errorf("P7.2: %s: %s: %d, zero %v", what, c.what, e, zero)
		}
	}
	met := 0
	for _, key := range m.keys() {
		v, is, e := w.Get(root, []byte(key))
		if e == api.ErrSpoil {
			met++
		}
		if e == api.OK && (string(v) != m[key] || !is) || e == api.ErrSpoil && (len(v) != 0 || is) || e != api.OK && e != api.ErrSpoil {
			t.Errorf("P7.2: %s: Get of %q: %.9q, %v, %d", what, key, v, is, e)
		}
	}
	if met == 0 {
		t.Errorf("P7.2: %s: no Get meets it", what)
	}
	check(what)
}

func TestEachPageOfARootSpoilt(t *testing.T) {
	w := planted(t, 80)
	m := some(150, 32, 128)
	root := w.build(t, m)
	if h := w.stands(t, "Build", root, m).height(); h != 3 {
		t.Fatalf("the test's own tree: %d levels", h)
	}
	w.settle(t)
	for _, k := range w.walk(t, "Build", root) {
		b, _ := w.d.Read(w.from + k)
		for _, wrong := range [][]byte{make([]byte, 512), sealed(t, b[0]+1, string(b[3:200])), sealed(t, b[0], "")} {
			w.written(t, k, wrong)
			w.spoilt(t, "a page that is no node", root, m)
		}
		w.written(t, k, b)
	}
	w.stands(t, "written back", root, m)
}

func TestPutAndCutOfASpoiltRoot(t *testing.T) {
	w := planted(t, 80)
	m := some(150, 32, 128)
	root := w.build(t, m)
	w.settle(t)
	was := w.states()
	for at, k := range w.walk(t, "Build", root) {
		b, _ := w.d.Read(w.from + k)
		w.written(t, k, make([]byte, 512))
		for i, key := range m.keys() {
			if (i+at)%5 > 0 {
				continue
			}
			check := w.unturned(t)
			_, _, f := w.Get(root, []byte(key))
			next, e := w.Put(root, []byte(key), []byte("v"))
			if f != api.OK && e != f || e != api.OK && (e != api.ErrSpoil || next != 0) {
				t.Errorf("P7.3: Put of key %d: %d, %d", i, next, e)
			}
			if e != api.OK {
				check("Put of a spoilt root")
			}
			told(t, "Back", w.p.Back(), api.OK)
			check = w.unturned(t)
			next, is, e := w.Cut(root, []byte(key))
			if f != api.OK && e != f || e != api.OK && (e != api.ErrSpoil || next != 0 || is) {
				t.Errorf("P7.3: Cut of key %d: %d, %v, %d", i, next, is, e)
			}
			if e != api.OK {
				check("Cut of a spoilt root")
			}
			told(t, "Back", w.p.Back(), api.OK)
		}
		w.written(t, k, b)
	}
	if got := w.states(); got != was {
		t.Errorf("P7.3: the pages' states %s and not %s", got, was)
	}
	w.stands(t, "written back", root, m)
}

func TestNodesOfWhichBitsWereTurned(t *testing.T) {
	w := planted(t, 20)
	m := some(12, 20, 100)
	root := w.build(t, m)
	for _, k := range w.walk(t, "Build", root) {
		whole, _ := w.d.Read(w.from + k)
		for bit := range 8 * 512 {
			b := slices.Clone(whole)
			b[bit/8] ^= 1 << (bit % 8)
			w.written(t, k, b)
			if l, e := w.Scan(root, nil, nil); len(l) != 0 || e != api.ErrSpoil {
				t.Errorf("P7.2: Scan with bit %d of page %d turned: %d, %d", bit, k, len(l), e)
			}
			if k == root && bit%64 == 0 {
				w.refused(t, "P7.2: a turned bit", root, m.keys()[0], api.ErrSpoil)
			}
		}
		w.written(t, k, whole)
	}
	w.stands(t, "turned back", root, m)
}

// wire are bytes with their length ahead of them.
func wire(s string) string { return string([]byte{byte(len(s) >> 8), byte(len(s))}) + s }

// level is what a node's body begins with.
func level(n int) string { return string([]byte{byte(n >> 8), byte(n)}) }

// wirePair is a pair in a leaf.
func wirePair(key, value string) string { return wire(key) + wire(value) }

// wireChild is a child in an inner node.
func wireChild(key string, page int) string {
	return wire(key) + string([]byte{byte(page >> 24), byte(page >> 16), byte(page >> 8), byte(page)})
}

func TestSealedBlocksThatTellNoNode(t *testing.T) {
	long, ab, leaf := strings.Repeat("k", 32), wirePair("a", "1")+wirePair("b", "2"), level(0)
	inner := level(1)
	for what, body := range map[string]string{
		"nothing":               "",
		"half a level":          "\x00",
		"a leaf of no pairs":    leaf,
		"a byte behind":         leaf + ab + "x",
		"two bytes behind":      leaf + ab + "\x00\x00",
		"a pair's key alone":    leaf + ab + wire("c"),
		"half a value's length": leaf + ab + wire("c") + "\x00",
		"a value cut off":       leaf + ab + wire("c") + "\x00\x05xxxx",
		"a key cut off":         leaf + ab + "\x00\x05c",
		"keys that fall":        leaf + wirePair("b", "2") + wirePair("a", "1"),
		"a key twice":           leaf + wirePair("a", "1") + wirePair("a", "2"),
		"a key of none":         leaf + wirePair("", "1") + ab,
		"a key of none alone":   leaf + wirePair("", "1"),
		"a key too long":        leaf + wirePair(long+"k", "1"),
		"a value too long":      leaf + wirePair("a", text(1, 129)),
		"one child":             inner + wireChild("a", 0),
		"no child":              inner,
		"children that fall":    inner + wireChild("b", 0) + wireChild("a", 1),
		"a child's key twice":   inner + wireChild("a", 0) + wireChild("a", 1),
		"a child's key of none": inner + wireChild("", 0) + wireChild("a", 1),
		"a child's long key":    inner + wireChild("a", 0) + wireChild(long+"k", 1),
		"a page that is not":    inner + wireChild("a", 0) + wireChild("b", 20),
		"a page far beyond":     inner + wireChild("a", 1<<31) + wireChild("b", 1),
		"a page of all ones":    inner + wireChild("a", 0) + wireChild("b", 1<<32-1),
		"a page cut off":        inner + wireChild("a", 0) + wireChild("b", 1)[:6],
	} {
		w := planted(t, 20)
		w.leave(t, 12)
		for page, key := range map[int]string{0: "a", 1: "b", 20: "b"} { // 20 is the block behind the pages
			w.written(t, page, sealed(t, 3, leaf+wirePair(key, "v")))
		}
		w.written(t, 7, sealed(t, 3, inner+wireChild("a", 0)+wireChild("b", 1)))
		w.stands(t, "the test's own root", 7, model{"a": "v", "b": "v"})
		w.written(t, 7, sealed(t, 3, body))
		check := w.unturned(t)
		w.refused(t, "P7.2: "+what, 7, "b", api.ErrSpoil)
		w.refused(t, "P7.2: "+what, 7, "a", api.ErrSpoil)
		check(what)
	}
}

func TestBlocksOfOtherKindsAreNoNodes(t *testing.T) {
	w := planted(t, 20)
	m := some(12, 20, 100)
	root := w.build(t, m)
	for _, k := range w.walk(t, "Build", root) {
		whole, _ := w.d.Read(w.from + k)
		_, body, _ := block.Open(whole)
		for kind := 1; kind < 256; kind++ {
			if uint8(kind) == whole[0] {
				continue
			}
			w.written(t, k, sealed(t, uint8(kind), string(body)))
			if l, e := w.Scan(root, nil, nil); len(l) != 0 || e != api.ErrSpoil {
				t.Errorf("P7.2: Scan with page %d of kind %d: %d, %d", k, kind, len(l), e)
			}
		}
		w.written(t, k, whole)
	}
	w.stands(t, "written back", root, m)
}

func TestNodesThatDontStandWhereTheirParentSays(t *testing.T) {
	leaf, inner := level(0), level(1)
	for what, c := range map[string]struct {
		at   int
		body string
	}{
		"another least key":          {1, leaf + wirePair("c", "")},
		"a least key ahead":          {1, leaf + wirePair("A", "") + wirePair("b", "")},
		"a key of the next one":      {1, leaf + wirePair("b", "") + wirePair("m", "")},
		"a key behind the next one":  {1, leaf + wirePair("b", "") + wirePair("z", "")},
		"a key that comes above":     {2, leaf + wirePair("m", "") + wirePair("s", "")},
		"an inner one as a leaf":     {1, inner + wireChild("b", 4) + wireChild("c", 2)},
		"an inner one with no leaf":  {1, level(2) + wireChild("b", 4) + wireChild("c", 2)},
		"a leaf as an inner one":     {5, leaf + wirePair("b", "") + wirePair("m", "")},
		"an inner one too high":      {5, level(2) + wireChild("b", 1) + wireChild("m", 2)},
		"one that is its own child":  {5, inner + wireChild("b", 5) + wireChild("m", 2)},
		"the root below itself":      {5, inner + wireChild("b", 7) + wireChild("m", 2)},
		"the root as it is":          {5, level(2) + wireChild("b", 5) + wireChild("s", 6)},
		"both children one":          {5, inner + wireChild("b", 1) + wireChild("m", 1)},
		"the child of another one":   {5, inner + wireChild("b", 1) + wireChild("s", 3)},
		"a level that wraps":         {1, level(65535) + wireChild("b", 1) + wireChild("c", 1)},
		"the root of too high level": {7, level(65535) + wireChild("b", 5) + wireChild("s", 6)},
	} {
		w := planted(t, 20)
		w.leave(t, 9)
		for page, body := range map[int]string{
			1: leaf + wirePair("b", "1") + wirePair("c", "2"),
			2: leaf + wirePair("m", "3"),
			3: leaf + wirePair("s", "4"),
			4: leaf + wirePair("u", "5"),
			5: inner + wireChild("b", 1) + wireChild("m", 2),
			6: inner + wireChild("s", 3) + wireChild("u", 4),
			7: level(2) + wireChild("b", 5) + wireChild("s", 6),
		} {
			w.written(t, page, sealed(t, 3, body))
		}
		m := model{"b": "1", "c": "2", "m": "3", "s": "4", "u": "5"}
		w.stands(t, what, 7, m)
		w.written(t, c.at, sealed(t, 3, c.body))
		w.spoilt(t, what, 7, m)
	}
}

func TestNodesCopiedToOtherPages(t *testing.T) {
	w := planted(t, 80)
	m := some(60, 32, 128)
	root := w.build(t, m)
	l := w.walk(t, "Build", root)
	whole := map[int][]byte{}
	for _, k := range l {
		whole[k], _ = w.d.Read(w.from + k)
	}
	for _, k := range l {
		for _, other := range l {
			if k == other || k == root {
				continue // another node in the root's page is another root
			}
			w.written(t, k, whole[other])
			if l, e := w.Scan(root, nil, nil); len(l) != 0 || e != api.ErrSpoil {
				t.Errorf("P7.2: Scan with page %d in page %d: %d, %d", other, k, len(l), e)
			}
			if l, e := w.Walk(root); len(l) != 0 || e != api.ErrSpoil {
				t.Errorf("P7.2: Walk with page %d in page %d: %v, %d", other, k, l, e)
			}
			w.written(t, k, whole[k])
		}
	}
	w.stands(t, "written back", root, m)
}
