package tree_test

import (
	"fmt"
	"math/rand"
	"slices"
	"strings"
	"testing"

	"gablet/api"
	"gablet/device"
	"gablet/pages"
	"gablet/tree"
)

// act is a Put or a Cut, and what it makes of a model.
type act struct {
	what string
	do   func(w wood, root int) (int, api.Errno)
	want func(m model) model
}

func putting(key, value string) act {
	return act{
		fmt.Sprintf("Put of %.9q, %d bytes", key, len(value)),
		func(w wood, root int) (int, api.Errno) { return w.Put(root, []byte(key), []byte(value)) },
		func(m model) model { return m.with(key, value) },
	}
}

func cutting(key string) act {
	return act{
		fmt.Sprintf("Cut of %.9q", key),
		func(w wood, root int) (int, api.Errno) {
			next, _, e := w.Cut(root, []byte(key))
			return next, e
		},
		func(m model) model { return m.without(key) },
	}
}

// bush is a node as a test wants it: with pairs, or with children.
type bush struct {
	pairs    []string // a key and a value by turns
	children []bush
}

// level is how many nodes lie below it.
func (b bush) level() int {
	if len(b.children) == 0 {
		return 0
	}
	return b.children[0].level() + 1
}

// least is the least key below it.
func (b bush) least() string {
	if len(b.children) == 0 {
		return b.pairs[0]
	}
	return b.children[0].least()
}

// model are the pairs below it.
func (b bush) model() model {
	m := model{}
	for i := 0; i < len(b.pairs); i += 2 {
		m[b.pairs[i]] = b.pairs[i+1]
	}
	for _, c := range b.children {
		for key, value := range c.model() {
			m[key] = value
		}
	}
	return m
}

// plant writes a bush to pages that it takes, and answers its root.
func (w wood) plant(t testing.TB, b bush) int {
	t.Helper()
	body := level(b.level())
	for i := 0; i < len(b.pairs); i += 2 {
		body += wirePair(b.pairs[i], b.pairs[i+1])
	}
	for _, c := range b.children {
		body += wireChild(c.least(), w.plant(t, c))
	}
	k, e := w.p.Take()
	told(t, "Take", e, api.OK)
	w.written(t, k, sealed(t, 3, body))
	return k
}

// grow answers a bush of a height, of keys that rise with n, its nodes with as few entries as may be, or some more.
func grow(height int, n *int, more func() int) bush {
	var b bush
	if height == 1 {
		for range min(1+more(), 3) {
			*n += 2
			b.pairs = append(b.pairs, name(*n, 3+29*(*n/2%2)), text(*n, 128))
		}
		return b
	}
	for range min(2+more(), 13) {
		b.children = append(b.children, grow(height-1, n, more))
	}
	return b
}

func few() int { return 0 }

// tried holds one call on a root, which was there when all settled, against all that the chapter says of it, with as many free pages as it wants, and fewer; and it lets the power go at each of its Writes. Behind it all is as it was.
func (w wood) tried(t testing.TB, root int, m model, g grown, a act) {
	t.Helper()
	states, blocks := w.states(), w.blocks(t)
	wanted := w.done(t, root, m, g, a, blocks)
	told(t, "Back", w.p.Back(), api.OK)
	if wanted > 2*g.height()+1 {
		t.Errorf("P7.3: %s: %d pages are taken, where %d nodes lie one below the other", a.what, wanted, g.height())
	}
	for _, n := range []int{0, 1, wanted - 1} {
		if n < 0 || n >= wanted {
			continue
		}
		w.leave(t, n)
		check := w.unturned(t)
		if next, e := a.do(w, root); next != 0 || e != api.ErrFull {
			t.Errorf("P7.3: %s with %d free pages: %d, %d", a.what, n, next, e)
		}
		check(a.what + ", too few free pages")
		told(t, "Back", w.p.Back(), api.OK)
	}
	for _, n := range []int{wanted, 2*g.height() + 1} {
		w.leave(t, n)
		next, e := a.do(w, root)
		told(t, "P7.3: "+a.what+" with enough free pages", e, api.OK)
		w.tells(t, a.what, next, a.want(m))
		told(t, "Back", w.p.Back(), api.OK)
	}
	w.darkened(t, root, m, a, wanted)
	if got := w.states(); got != states {
		t.Errorf("P7.3: %s: the pages' states %s and not %s", a.what, got, states)
	}
}

// done does one call on a root that was there when all settled, and answers how many pages are taken.
func (w wood) done(t testing.TB, root int, m model, g grown, a act, blocks []string) int {
	t.Helper()
	states := w.states()
	next, e := a.do(w, root)
	told(t, "P7.3: "+a.what, e, api.OK)
	after := w.grown(t, a.what, next)
	if want := a.want(m).pairs(); !slices.Equal(after.pairs, want) {
		t.Errorf("P7.3: %s: %.40q and not %.40q", a.what, after.pairs, want)
	}
	taken, gone := without(after.pages, g.pages), without(g.pages, after.pages)
	want := []byte(states)
	for _, k := range taken {
		want[k] = '0' + fresh
	}
	for _, k := range gone {
		want[k] = '0' + dropped
	}
	if got := w.states(); got != string(want) {
		t.Errorf("P7.3: %s: the pages' states %s and not %s", a.what, got, want)
	}
	for k, b := range w.blocks(t) {
		if b != blocks[k] && !slices.Contains(taken, k-w.from) {
			t.Errorf("P7.3: %s writes the block %d, which is no page that it takes", a.what, k)
		}
	}
	w.tells(t, "P7.5: behind "+a.what, root, m)
	return len(taken)
}

// darkened lets the power go at each Write of a call.
func (w wood) darkened(t testing.TB, root int, m model, a act, writes int) {
	t.Helper()
	states := w.states()
	told(t, "Flush", w.d.Flush(), api.OK)
	for n := range writes {
		told(t, "Arm", w.d.Arm(n), api.OK)
		if next, e := a.do(w, root); next != 0 || e != api.ErrPower || w.d.Power() {
			t.Errorf("P7.3: %s, the power goes at Write %d of %d: %d, %d", a.what, n, writes, next, e)
		}
		if got := w.states(); got != states {
			t.Errorf("P7.3: %s, the power goes at Write %d: the pages' states %s and not %s", a.what, n, got, states)
		}
		if w.d.Power() {
			continue
		}
		picks := make([]int, writes)
		for i := range picks {
			picks[i] = (n + i) % 2
		}
		told(t, "On", w.d.On(picks...), api.OK)
		w.tells(t, "P7.5: "+a.what+", behind On", root, m)
	}
	told(t, "Arm", w.d.Arm(writes), api.OK)
	next, e := a.do(w, root)
	told(t, "P7.3: "+a.what+", the power would go behind its last Write", e, api.OK)
	told(t, "Arm", w.d.Arm(-1), api.OK)
	w.tells(t, a.what, next, a.want(m))
	told(t, "Back", w.p.Back(), api.OK)
}

// P7.3

func TestPutInEachOrder(t *testing.T) {
	for _, m := range []model{some(40, 32, 128), some(90, 3, 0), some(60, 32, 0), mixed(70)} {
		for what, keys := range orders(m.keys()) {
			w := planted(t, 100)
			now, root := model{}, tree.None
			for _, key := range keys {
				now, root = now.with(key, m[key]), w.put(t, root, key, m[key])
				w.tells(t, what, root, now)
				w.alone(t, what, root)
			}
			w.stands(t, what, root, m)
			if _, gone := w.used(); len(gone) > 0 {
				t.Errorf("P7.3: %s: fresh pages %v are dropped and not free", what, gone)
			}
		}
	}
}

func TestCutInEachOrder(t *testing.T) {
	for _, m := range []model{some(40, 32, 128), some(90, 3, 0), some(60, 32, 0), mixed(70)} {
		for what, keys := range orders(m.keys()) {
			w := planted(t, 100)
			now, root := m, w.build(t, m)
			for _, key := range keys {
				now, root = now.without(key), w.cut(t, root, key)
				w.tells(t, what, root, now)
				w.grown(t, what, root)
				w.alone(t, what, root)
			}
			if root != tree.None || w.p.Free() != 100 {
				t.Errorf("P7.3: %s: all is cut, and the root is %d, %d pages are free", what, root, w.p.Free())
			}
		}
	}
}

func TestPutAndCutOfOldPages(t *testing.T) {
	for _, m := range []model{some(40, 32, 128), mixed(70)} {
		for what, keys := range orders(m.keys()) {
			w := planted(t, 100)
			now, root := model{}, tree.None
			for _, key := range keys {
				now, root = now.with(key, m[key]), w.put(t, root, key, m[key])
				w.alone(t, what, root)
				w.settle(t)
				w.alone(t, what, root)
			}
			w.stands(t, what, root, now)
			for _, key := range keys {
				now, root = now.without(key), w.cut(t, root, key)
				w.alone(t, what, root)
				w.settle(t)
				w.alone(t, what, root)
			}
			if root != tree.None || w.p.Free() != 100 {
				t.Errorf("P7.3: %s: all is cut, and the root is %d, %d pages are free", what, root, w.p.Free())
			}
		}
	}
}

func TestPutOfAKeyThatIsThere(t *testing.T) {
	for _, m := range []model{{"a": "1"}, some(3, 32, 128), some(40, 32, 128), mixed(70)} {
		w := planted(t, 150)
		root := w.build(t, m)
		for n, length := range []int{0, 128, 1, 127, 128, 0} {
			for _, key := range shuffled(m.keys()) {
				m, root = m.with(key, text(n, length)), w.put(t, root, key, text(n, length))
			}
			w.stands(t, "P7.3: other values", root, m)
			w.alone(t, "other values", root)
		}
		for _, key := range m.keys() {
			root = w.put(t, root, key, m[key])
			w.tells(t, "P7.3: the same value", root, m)
		}
	}
}

// inALeaf puts pairs of which each is told by its key's length and its value's, and answers how many pages they take.
func inALeaf(t *testing.T, sizes ...[2]int) int {
	t.Helper()
	w := planted(t, 20)
	m, root := model{}, tree.None
	for i, size := range sizes {
		m, root = m.with(text(i, size[0]), text(i, size[1])), w.put(t, root, text(i, size[0]), text(i, size[1]))
	}
	return len(w.stands(t, "P7.3: in a leaf", root, m).pages)
}

func TestALeafHasAsManyPairsAsGoIntoIt(t *testing.T) {
	for _, c := range []struct {
		want  int
		sizes [][2]int
	}{
		{1, [][2]int{{32, 128}}},
		{1, [][2]int{{32, 128}, {32, 128}, {32, 128}}},                          // 492 bytes
		{3, [][2]int{{32, 128}, {32, 128}, {32, 128}, {32, 128}}},               // 656
		{1, [][2]int{{32, 128}, {32, 128}, {32, 128}, {3, 4}}},                  // 503
		{3, [][2]int{{32, 128}, {32, 128}, {32, 128}, {3, 5}}},                  // 504
		{3, [][2]int{{32, 128}, {32, 128}, {32, 128}, {4, 4}}},                  // 504
		{3, [][2]int{{32, 128}, {32, 128}, {32, 128}, {8, 0}}},                  // 504
		{1, [][2]int{{10, 111}, {11, 110}, {12, 109}, {13, 111}}},               // 503
		{3, [][2]int{{10, 111}, {11, 110}, {12, 109}, {13, 112}}},               // 504
		{1, [][2]int{{32, 65}, {31, 66}, {30, 67}, {29, 68}, {28, 67}}},         // 503
		{3, [][2]int{{32, 65}, {31, 66}, {30, 67}, {29, 68}, {28, 67}, {1, 0}}}, // 508
	} {
		if got := inALeaf(t, c.sizes...); got != c.want {
			t.Errorf("Words: %v take %d pages and not %d", c.sizes, got, c.want)
		}
	}
}

func TestAValueThatGrowsInAFullLeaf(t *testing.T) {
	m := model{text(1, 32): text(1, 128), text(2, 32): text(2, 128), text(3, 32): text(3, 128), "abc": "1234"}
	for _, key := range m.keys() {
		for _, length := range []int{128, 0} {
			w := planted(t, 20)
			root := w.build(t, m)
			if len(w.walk(t, "full", root)) != 1 {
				t.Fatalf("P7.4: 503 bytes are more than a page")
			}
			w.settle(t)
			g := w.grown(t, "full", root)
			w.tried(t, root, m, g, putting(key, text(9, length)))
			w.tried(t, root, m, g, putting(key+"+"[:min(1, 32-len(key))], text(9, length)))
			w.tried(t, root, m, g, cutting(key))
		}
	}
}

func TestCutOfWhatIsNotThere(t *testing.T) {
	for _, m := range []model{{}, {"k": "v"}, some(3, 5, 9), some(40, 32, 128), mixed(70)} {
		for _, settled := range []bool{true, false} {
			w := planted(t, 100)
			root := w.build(t, m)
			if settled {
				w.settle(t)
			}
			check := w.unturned(t)
			told(t, "Arm", w.d.Arm(0), api.OK)
			for _, key := range append(m.keys(), "", "\xff") {
				for _, beside := range []string{key + "\x00", key[:max(len(key)-1, 0)], "\x00", "none"} {
					if _, is := m[beside]; is || len(beside) < 1 || len(beside) > 32 {
						continue
					}
					if next, is, e := w.Cut(root, []byte(beside)); next != root || is || e != api.OK {
						t.Errorf("P7.3: Cut of %q, which is not there: %d, %v, %d", beside, next, is, e)
					}
				}
			}
			if !w.d.Power() {
				t.Error("P7.3: a Cut of what is not there writes")
			}
			check("Cut of what is not there")
		}
	}
}

func TestCutWhatIsNotThereWithNoFreePage(t *testing.T) {
	w := planted(t, 30)
	m := some(40, 32, 128)
	root := w.build(t, m)
	w.leave(t, 0)
	check := w.unturned(t)
	if next, is, e := w.Cut(root, []byte("none")); next != root || is || e != api.OK {
		t.Errorf("P7.3: Cut of what is not there, with no free page: %d, %v, %d", next, is, e)
	}
	check("Cut of what is not there")
}

// edges are keys of a model, about its least and its greatest one, with some between.
func edges(m model) []string {
	keys := m.keys()
	if len(keys) < 12 {
		return keys
	}
	l := append(slices.Clone(keys[:4]), keys[len(keys)-4:]...)
	for i := range 4 {
		l = append(l, keys[(2*i+1)*len(keys)/8])
	}
	return l
}

// actsOn are calls on a root of a model: about each of some keys.
func actsOn(m model) []act {
	l := []act{putting("\x00", ""), putting("\x00", text(1, 128)), putting(strings.Repeat("\xff", 32), text(2, 128)), putting("\xff", "")}
	for i, key := range edges(m) {
		l = append(l, cutting(key), putting(key, text(i, 128)), putting(key, ""), putting((key + strings.Repeat("+", 32))[:32], text(i, 128)))
	}
	return l
}

func TestEachCallOnBuiltRoots(t *testing.T) {
	for _, m := range []model{{}, {"k": "v"}, some(3, 32, 128), some(4, 32, 128), some(39, 32, 128), some(40, 32, 128), some(120, 32, 128), some(100, 3, 0), mixed(80)} {
		w := planted(t, 80)
		root := w.build(t, m)
		w.settle(t)
		g := w.stands(t, "Build", root, m)
		for _, a := range actsOn(m) {
			w.tried(t, root, m, g, a)
		}
		w.stands(t, "behind all", root, m)
	}
}

func TestEachCallOnRootsOfFewEntries(t *testing.T) {
	for height := 1; height <= 7; height++ {
		n := 0
		b := grow(height, &n, few)
		w := planted(t, 160)
		root := w.plant(t, b)
		m := b.model()
		w.settle(t)
		g := w.stands(t, "few entries", root, m)
		if g.height() != height || len(g.pages) != 1<<height-1 {
			t.Fatalf("the test's own tree: %d levels", g.height())
		}
		for _, a := range actsOn(m) {
			w.tried(t, root, m, g, a)
		}
	}
}

func TestEachCallOnRootsOfSomeEntries(t *testing.T) {
	dice := rand.New(rand.NewSource(7))
	for seed := range 24 {
		n := 0
		most := 1 + seed%4*4
		b := grow(2+seed%3, &n, func() int {
			if dice.Intn(3) == 0 {
				return 0
			}
			return dice.Intn(most)
		})
		m := b.model()
		if len(m) > 600 {
			continue
		}
		w := planted(t, 2*len(m)+60)
		root := w.plant(t, b)
		w.settle(t)
		g := w.stands(t, "some entries", root, m)
		for i, a := range actsOn(m) {
			if i%3 == seed%3 || len(m) < 40 {
				w.tried(t, root, m, g, a)
			}
		}
	}
}

func TestTallRootsDownToNone(t *testing.T) {
	for _, height := range []int{8, 11} {
		n := 0
		b := grow(height, &n, few)
		w := planted(t, api.MaxBlocks-2*ahead)
		root := w.plant(t, b)
		m := b.model()
		w.settle(t)
		if h := w.stands(t, "tall", root, m).height(); h != height {
			t.Fatalf("the test's own tree: %d levels", h)
		}
		for i, key := range shuffled(m.keys()) {
			w.leave(t, 2*height+1)
			m, root = m.without(key), w.cut(t, root, key)
			if i%97 == 0 {
				if h := w.stands(t, "tall", root, m).height(); h > height {
					t.Errorf("P7.3: Cut makes %d levels of %d", h, height)
				}
			}
			w.settle(t)
		}
		if root != tree.None {
			t.Errorf("P7.3: all is cut, and the root is %d", root)
		}
	}
}

// leavesOf are leaves of some pairs each, all of the longest.
func leavesOf(n *int, sizes ...int) []bush {
	var l []bush
	for _, size := range sizes {
		var b bush
		for range size {
			*n += 2
			b.pairs = append(b.pairs, name(*n, 32), text(*n, 128))
		}
		l = append(l, b)
	}
	return l
}

func TestAnInnerNodeOfOneChildSharesWithAFullOne(t *testing.T) {
	for _, sizes := range [][]int{{2, 13}, {13, 2}, {13, 2, 13}, {2, 13, 13}, {13, 13, 2}, {2, 12}, {12, 2}, {2, 2, 13}} {
		n := 0
		var b bush
		at := 0
		for i, size := range sizes {
			if size == 2 {
				at = i
			}
			b.children = append(b.children, bush{children: leavesOf(&n, slices.Repeat([]int{1}, size)...)})
		}
		w := planted(t, 100)
		root := w.plant(t, b)
		m := b.model()
		w.settle(t)
		g := w.stands(t, "full ones", root, m)
		for _, leaf := range b.children[at].children {
			w.tried(t, root, m, g, cutting(leaf.least()))
		}
	}
}

func TestAnInnerNodeOfOneChildWhoseKeyIsLonger(t *testing.T) {
	long := strings.Repeat("k", 31)
	side := func(c string) bush {
		return bush{children: []bush{{pairs: []string{c, "1", c + long, "2"}}, {pairs: []string{c + "x", "3"}}}}
	}
	for _, b := range []bush{
		{children: []bush{side("a"), side("b")}},
		{children: []bush{side("a"), side("b"), side("c")}},
		{children: []bush{{children: []bush{side("a"), side("b")}}, {children: []bush{side("c"), side("d")}}}},
	} {
		w := planted(t, 60)
		root := w.plant(t, b)
		m := b.model()
		w.settle(t)
		g := w.stands(t, "short keys", root, m)
		for _, key := range m.keys() {
			w.tried(t, root, m, g, cutting(key))
		}
	}
}

func TestACutThatMakesAnInnerNodeTooLong(t *testing.T) {
	m, firsts := model{}, []string{}
	for i := range 71 {
		c := string([]byte{byte(2 * i)})
		firsts = append(firsts, c)
		m = m.with(c, text(i, 128)).with(c+strings.Repeat("m", 31), text(i, 128)).with(c+strings.Repeat("n", 31), text(i, 127))
	}
	w := planted(t, 220)
	root := w.build(t, m)
	w.settle(t)
	g := w.stands(t, "short keys", root, m)
	if g.height() != 2 || len(g.levels[0]) != 71 || g.levels[1][0].bytes() != 497 {
		t.Fatalf("the test's own tree: %d levels", g.height())
	}
	for _, key := range firsts {
		w.tried(t, root, m, g, cutting(key))
	}
	for i, key := range firsts {
		m, root = m.without(key), w.cut(t, root, key)
		g = w.stands(t, "a longer least key", root, m)
		if i == 0 && g.height() != 3 {
			t.Errorf("the test's own Cut: %d levels", g.height())
		}
	}
}

func TestLeavesThatBecomeTooSmall(t *testing.T) {
	w := planted(t, 200)
	m := some(200, 32, 100)
	root := w.build(t, m)
	for i, key := range m.keys() {
		if i%4 != 0 {
			m, root = m.without(key), w.cut(t, root, key)
		}
	}
	g := w.stands(t, "a quarter is left", root, m)
	for l, nodes := range g.levels {
		for i := range nodes[1:] {
			if nodes[i].bytes()+nodes[i+1].bytes() <= room && len(nodes) > 2 {
				t.Errorf("two nodes of level %d of %d and %d bytes stay", l, nodes[i].bytes(), nodes[i+1].bytes())
			}
		}
	}
	w.alone(t, "a quarter is left", root)
}

func TestNodesThatAreSplitAreHalved(t *testing.T) {
	for what, m := range map[string]model{"a leaf": some(63, 4, 0), "an inner node": some(300, 6, 60)} {
		for order, keys := range orders(m.keys()) {
			w := planted(t, 150)
			root := tree.None
			for _, key := range keys {
				next := w.put(t, root, key, m[key])
				if was, is := w.grown(t, what, root), w.grown(t, what, next); root != tree.None && is.height() > was.height() {
					for _, n := range is.levels[was.height()-1] {
						if n.bytes() < room/3 {
							t.Errorf("%s, %s: one of the halves has %d bytes", what, order, n.bytes())
						}
					}
				}
				root = next
			}
		}
	}
}

func TestTwoPutsOnOneOldRoot(t *testing.T) {
	w := planted(t, 100)
	m := some(40, 32, 128)
	root := w.build(t, m)
	w.settle(t)
	one := w.put(t, root, "one", "1")
	other := w.put(t, root, "other", "2")
	less := w.cut(t, root, m.keys()[0])
	w.stands(t, "P7.5: the old root", root, m)
	w.stands(t, "P7.3: one", one, m.with("one", "1"))
	w.stands(t, "P7.3: the other", other, m.with("other", "2"))
	w.stands(t, "P7.3: with less", less, m.without(m.keys()[0]))
}

func TestRootsWhosePagesAreFree(t *testing.T) {
	for _, m := range []model{{"a": "1"}, some(3, 32, 128), some(12, 32, 100), some(60, 32, 128), mixed(40)} {
		for _, key := range m.keys() {
			w := planted(t, 100)
			was := w.build(t, m)
			next := w.cut(t, was, key)
			if w.p.State(was) != free {
				t.Fatalf("P7.3: the page of what was is not free")
			}
			more := w.put(t, was, "more", text(1, 100))
			less := w.cut(t, was, m.keys()[len(m)/2])
			w.stands(t, "P7.3: with more", more, m.with("more", text(1, 100)))
			w.stands(t, "P7.3: with less", less, m.without(m.keys()[len(m)/2]))
			w.stands(t, "P7.3: what became of it first", next, m.without(key))
			w.stands(t, "P7.3: what was", was, m)
			for _, root := range []int{more, less, next} {
				for _, k := range without(w.walk(t, "a root", root), w.walk(t, "what was", was)) {
					if w.p.State(k) != fresh {
						t.Errorf("P7.3: the page %d of the root %d is %d and not fresh", k, root, w.p.State(k))
					}
				}
			}
		}
	}
}

func TestARootThatHasAllFreePages(t *testing.T) {
	w := planted(t, 30)
	m := some(40, 32, 128)
	was := w.build(t, m)
	next := w.cut(t, was, m.keys()[5])
	own := w.walk(t, "what was", was)
	for k := range 30 {
		if w.p.State(k) == free && !slices.Contains(own, k) {
			told(t, "Use", w.p.Use(k), api.OK)
		}
	}
	check := w.unturned(t)
	if root, e := w.Put(was, []byte("a"), nil); root != 0 || e != api.ErrFull {
		t.Errorf("P7.3: Put on a root that has all free pages: %d, %d", root, e)
	}
	check("Put on a root that has all free pages")
	w.stands(t, "P7.3: what was", was, m)
	w.stands(t, "P7.3: what became of it", next, m.without(m.keys()[5]))
}

func TestPartsOfARootAreRootsToo(t *testing.T) {
	w := planted(t, 100)
	m := some(60, 32, 128)
	root := w.build(t, m)
	w.settle(t)
	for _, k := range w.walk(t, "Build", root) {
		part := w.grown(t, "a part", k)
		own := model{}
		for i := 0; i < len(part.pairs); i += 2 {
			own[part.pairs[i]] = part.pairs[i+1]
		}
		g := w.stands(t, "P7.2: a part of a root", k, own)
		w.tried(t, k, own, g, putting("\xff\xff", "v"))
		w.tried(t, k, own, g, cutting(own.keys()[0]))
	}
}

func TestErrorsThatComeTogether(t *testing.T) {
	w := planted(t, 20)
	root := w.build(t, some(30, 10, 40))
	w.leave(t, 0)
	w.written(t, root, make([]byte, 512))
	if _, e := w.Put(root, nil, nil); e != api.ErrArg {
		t.Errorf("P7.3: Put of a wrong key on what is spoilt, with no free page: %d", e)
	}
	if _, e := w.Put(root, []byte("a"), nil); e != api.ErrSpoil {
		t.Errorf("P7.3: Put on what is spoilt, with no free page: %d", e)
	}
	if _, e := w.Put(tree.None, []byte("a"), nil); e != api.ErrFull {
		t.Errorf("P7.3: Put with no free page: %d", e)
	}
	if next, e := w.Build([]api.Pair{{Key: []byte("a")}}); next != 0 || e != api.ErrFull {
		t.Errorf("P7.4: Build with no free page: %d, %d", next, e)
	}
	if _, e := w.Build([]api.Pair{{Key: []byte("a")}, {}}); e != api.ErrArg {
		t.Errorf("P7.4: Build of a wrong key with no free page: %d", e)
	}
	told(t, "Off", w.d.Off(), api.OK)
	if _, e := w.Put(tree.None, []byte("a"), nil); e != api.ErrFull {
		t.Errorf("P7.3: Put with no free page and no power: %d", e)
	}
}

// P7.5

func TestWhatWasSettledStaysTold(t *testing.T) {
	for _, m := range []model{some(40, 32, 128), mixed(70), some(120, 3, 0)} {
		w := planted(t, 150)
		root := w.build(t, m)
		w.settle(t)
		states := w.states()
		now, next := m, root
		for i, key := range shuffled(m.keys()) {
			if i%2 == 0 {
				now, next = now.without(key), w.cut(t, next, key)
			} else {
				now, next = now.with(key, text(-i, 100)), w.put(t, next, key, text(-i, 100))
			}
			w.tells(t, "P7.5: since all settled", root, m)
			w.tells(t, "P7.3", next, now)
		}
		w.stands(t, "P7.5: since all settled", root, m)
		told(t, "Off", w.d.Off(), api.OK)
		told(t, "On", w.d.On(1, 0, 2, 1, 1, 0, 3, 1), api.OK)
		told(t, "Back", w.p.Back(), api.OK)
		w.stands(t, "P7.5: behind On", root, m)
		if got := w.states(); got != states {
			t.Errorf("P7.5: Back: the pages' states %s and not %s", got, states)
		}
		w.alone(t, "behind Back", root)
	}
}

func TestWhatWasSettledStaysToldWhenAllIsFull(t *testing.T) {
	w := planted(t, 40)
	m := some(40, 32, 128)
	root := w.build(t, m)
	w.settle(t)
	now, next := m, root
	for i := range 200 {
		key := m.keys()[i*7%40]
		after, e := w.Put(next, []byte(key), []byte(text(i, i%128)))
		if e == api.OK {
			now, next = now.with(key, text(i, i%128)), after
		} else if e != api.ErrFull || w.p.Free() >= 2*w.grown(t, "full", next).height()+1 {
			t.Errorf("P7.3: Put with %d free pages: %d", w.p.Free(), e)
		}
		w.tells(t, "P7.5", root, m)
		w.tells(t, "P7.3", next, now)
	}
	w.stands(t, "P7.5", root, m)
	w.stands(t, "P7.3", next, now)
}

// R4

func TestCallsOfNoTree(t *testing.T) {
	var w wood
	for _, root := range []int{tree.None, -2, 0, 1, 99} {
		for _, key := range []string{"a", "", strings.Repeat("k", 33)} {
			for _, c := range calls(key) {
				if zero, e := c.do(w, root); e != api.ErrNil || !zero {
					t.Errorf("R4: %s of no tree: %d, zero %v", c.what, e, zero)
				}
			}
		}
	}
	for _, l := range [][]api.Pair{nil, {{Key: []byte("a")}}, {{}}} {
		if root, e := w.Build(l); root != 0 || e != api.ErrNil {
			t.Errorf("R4: Build of no tree: %d, %d", root, e)
		}
	}
}

func TestTreesThatNobodyMadeDoNotPanic(t *testing.T) {
	w := wood{Tree: &tree.Tree{}}
	x, e := tree.New(&device.Device{}, &pages.Pages{}, 0)
	told(t, "R1: New of a device and pages that nobody made", e, api.OK)
	for _, w := range []wood{w, {Tree: x}} {
		for _, root := range []int{tree.None, -2, 0, 1} {
			for _, c := range calls("a") {
				c.do(w, root)
			}
		}
		w.Build([]api.Pair{{Key: []byte("a")}})
		w.Build(nil)
	}
}

// R3

// spare answers s in a list that has room behind its end, and all of that room with '#' where s is not.
func spare(s string) (b, whole []byte) {
	whole = []byte(s + strings.Repeat("#", 200))
	return whole[:len(s)], whole
}

// turnAll turns every byte of a list, and of the room behind its end.
func turnAll(b []byte) {
	b = b[:cap(b)]
	for i := range b {
		b[i] ^= 0xff
	}
}

func TestNothingHandedInIsKeptOrChanged(t *testing.T) {
	w := planted(t, 100)
	m := some(30, 20, 60)
	root := tree.None
	for key, value := range m {
		k, wholeKey := spare(key)
		v, wholeValue := spare(value)
		next, e := w.Put(root, k, v)
		told(t, "Put", e, api.OK)
		root = next
		w.Get(root, k)
		w.Scan(root, k, v)
		w.Cut(root, k)
		root, e = w.Put(root, k, v)
		told(t, "Put", e, api.OK)
		if string(wholeKey) != key+strings.Repeat("#", 200) || string(wholeValue) != value+strings.Repeat("#", 200) {
			t.Error("R3: what is handed in is changed")
		}
		turnAll(wholeKey)
		turnAll(wholeValue)
	}
	w.stands(t, "R3: turned behind Put", root, m)
	l := m.list()
	for i := range l {
		l[i].Key, _ = spare(string(l[i].Key))
		l[i].Value, _ = spare(string(l[i].Value))
	}
	kept := l[:len(l):len(l)]
	root, e := w.Build(kept[:20])
	told(t, "Build", e, api.OK)
	if !slices.Equal(flat(l), m.pairs()) {
		t.Error("R3: Build changes what is handed in")
	}
	for i := range l {
		turnAll(l[i].Key)
		turnAll(l[i].Value)
	}
	some := model{}
	for _, key := range m.keys()[:20] {
		some[key] = m[key]
	}
	w.stands(t, "R3: turned behind Build", root, some)
}

func TestNothingHandedOutIsShared(t *testing.T) {
	w := planted(t, 100)
	m := some(30, 20, 60)
	root := w.build(t, m)
	for key := range m {
		one, _, _ := w.Get(root, []byte(key))
		other, _, _ := w.Get(root, []byte(key))
		turnAll(one)
		if string(other) != m[key] {
			t.Error("R3: two answers of Get share their memory")
		}
	}
	l, _ := w.Scan(root, nil, nil)
	other, _ := w.Scan(root, nil, nil)
	for i := range l {
		turnAll(l[i].Key)
		if string(l[i].Value) != m[m.keys()[i]] {
			t.Error("R3: a key and a value share their memory")
		}
		turnAll(l[i].Value)
		for _, behind := range l[i+1:] {
			if _, is := m[string(behind.Key)]; !is {
				t.Fatal("R3: two pairs of an answer share their memory")
			}
		}
	}
	if !slices.Equal(flat(other), m.pairs()) {
		t.Error("R3: two answers of Scan share their memory")
	}
	walk, _ := w.Walk(root)
	again, _ := w.Walk(root)
	for i := range walk {
		walk[i] = -5
	}
	if slices.Contains(again, -5) {
		t.Error("R3: two answers of Walk share their memory")
	}
	w.stands(t, "R3: turned what was answered", root, m)
}
