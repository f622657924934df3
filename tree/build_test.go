package tree_test

import (
	"fmt"
	"math/rand"
	"slices"
	"strings"
	"testing"

	"gablet/api"
	"gablet/tree"
)

// tight checks that of two nodes that lie equally deep, one behind the other, what they have never goes into one.
func tight(t testing.TB, what string, g grown) {
	t.Helper()
	for l, nodes := range g.levels {
		for i := range nodes[:len(nodes)-1] {
			if sum := nodes[i].bytes() + nodes[i+1].bytes(); sum <= room {
				t.Errorf("P7.4: %s: two nodes of level %d have %d bytes", what, l, sum)
			}
		}
	}
}

// built builds a root of a model in new pages, and holds it against all that the chapter says of it.
func built(t testing.TB, what string, n int, m model) grown {
	t.Helper()
	w := planted(t, n)
	blocks := w.blocks(t)
	root := w.build(t, m)
	g := w.grown(t, what, root)
	if want := m.pairs(); !slices.Equal(g.pairs, want) {
		t.Errorf("P7.4: %s: %.40q and not %.40q", what, g.pairs, want)
	}
	w.tells(t, "P7.4: "+what, root, m)
	tight(t, what, g)
	w.alone(t, what, root)
	if (root == tree.None) != (len(m) == 0) {
		t.Errorf("P7.4: %s: the root of %d pairs is %d", what, len(m), root)
	}
	for k := range n {
		if s := w.p.State(k); s != free && s != fresh {
			t.Errorf("P7.4: %s: a page's state is %d", what, s)
		}
	}
	for k, b := range w.blocks(t) {
		if b != blocks[k] && !slices.Contains(g.pages, k-w.from) {
			t.Errorf("P7.4: %s: the block %d is written, which is no page that is taken", what, k)
		}
	}
	return g
}

// P7.4

func TestBuildOfSoManyPairs(t *testing.T) {
	for n := range 80 {
		built(t, fmt.Sprint(n, " long ones"), 60, some(n, 32, 128))
		built(t, fmt.Sprint(n, " short ones"), 60, some(n, 3, 0))
		built(t, fmt.Sprint(n, " of keys alone"), 60, some(n, 32, 0))
		built(t, fmt.Sprint(n, " mixed ones"), 60, mixed(n))
	}
}

func TestBuildOfAJustFullLeafAndOneMore(t *testing.T) {
	three := some(3, 32, 128) // 492 bytes
	for _, c := range []struct {
		key    string
		value  int
		leaves int
	}{
		{"\xff\xff\xff", 4, 1}, {"\xff\xff\xff", 5, 2}, {"\xff\xff\xff", 3, 1}, {"\xff", 6, 1}, {"\xff", 7, 2}, {strings.Repeat("\xff", 7), 0, 1}, {strings.Repeat("\xff", 8), 0, 2},
		{"\x00\x00\x00", 4, 1}, {"\x00\x00\x00", 5, 2}, {"\x00", 6, 1}, {"\x00", 7, 2},
	} {
		g := built(t, "about a full leaf", 20, three.with(c.key, text(1, c.value)))
		if len(g.levels[0]) != c.leaves || len(g.pages) != 2*c.leaves-1 {
			t.Errorf("P7.4: a pair of %d and %d bytes behind 492: %d leaves and not %d", len(c.key), c.value, len(g.levels[0]), c.leaves)
		}
	}
	full := three.with("\x01\x00\x00", "1234") // 503
	g := built(t, "a full leaf, and one more", 20, full.with("\x02\x00\x00", ""))
	if len(g.levels[0]) != 2 || g.levels[0][0].bytes() != room {
		t.Errorf("P7.4: a full leaf, and one more: %d leaves, the first of %d bytes", len(g.levels[0]), g.levels[0][0].bytes())
	}
}

func TestBuildAboutAFullInnerNode(t *testing.T) {
	for leaves := 1; leaves <= 45; leaves++ {
		g := built(t, fmt.Sprint(leaves, " leaves"), 80, some(3*leaves, 32, 128))
		want := 1
		for n := leaves; n > 1; n = (n + 12) / 13 { // 13 children of 38 bytes
			want++
		}
		if g.height() != want || len(g.levels[0]) != leaves {
			t.Errorf("P7.4: %d leaves: %d levels and not %d, %d leaves", leaves, g.height(), want, len(g.levels[0]))
		}
	}
	for leaves := 69; leaves <= 75; leaves++ { // 71 children of 7 bytes
		m := model{}
		for i := range leaves {
			c := string([]byte{byte(3 * i)})
			m = m.with(c, text(i, 128)).with(c+"b"+strings.Repeat("k", 30), text(i, 128)).with(c+"c"+strings.Repeat("k", 30), text(i, 128))
		}
		g := built(t, fmt.Sprint(leaves, " leaves"), 120, m)
		want := 2
		if leaves > 71 {
			want = 3
		}
		if g.height() != want || len(g.levels[0]) != leaves {
			t.Errorf("P7.4: %d leaves: %d levels and not %d", leaves, g.height(), want)
		}
	}
}

func TestBuildOfEachHeightThatThePagesAllow(t *testing.T) {
	for _, c := range []struct{ pairs, height int }{
		{1, 1}, {3, 1}, {4, 2}, {39, 2}, {40, 3}, {507, 3}, {508, 4}, {6591, 4}, {6592, 5}, {11000, 5},
	} {
		g := built(t, fmt.Sprint(c.pairs, " pairs"), api.MaxBlocks-2*ahead, some(c.pairs, 32, 128))
		if g.height() != c.height {
			t.Errorf("P7.4: %d pairs: %d levels and not %d", c.pairs, g.height(), c.height)
		}
	}
}

func TestBuildWithJustEnoughPages(t *testing.T) {
	for _, m := range []model{some(1, 3, 0), some(3, 32, 128), some(4, 32, 128), some(40, 32, 128), some(120, 32, 128), mixed(80)} {
		wanted := len(built(t, "enough", 100, m).pages)
		w := planted(t, 100)
		root := w.build(t, some(3, 4, 5))
		for n := range wanted {
			w.leave(t, n)
			check := w.unturned(t)
			if root, e := w.Build(m.list()); root != 0 || e != api.ErrFull {
				t.Errorf("P7.4: Build with %d pages of %d: %d, %d", n, wanted, root, e)
			}
			check("Build with too few pages")
			w.stands(t, "P7.4: another root", root, some(3, 4, 5))
			for k := range 100 {
				if k != root && w.p.State(k) == fresh {
					told(t, "Drop", w.p.Drop(k), api.OK)
				}
			}
		}
		w.leave(t, wanted)
		next := w.build(t, m)
		w.stands(t, "P7.4: just enough pages", next, m)
		if w.p.Free() != 0 {
			t.Errorf("P7.4: %d pages are free", w.p.Free())
		}
	}
}

func TestBuildOfMoreThanAllPages(t *testing.T) {
	w := planted(t, 30)
	check := w.unturned(t)
	if root, e := w.Build(some(4000, 32, 128).list()); root != 0 || e != api.ErrFull {
		t.Errorf("P7.4: Build of too much: %d, %d", root, e)
	}
	check("Build of too much")
}

func TestBuildOfWhatMayNotBe(t *testing.T) {
	w := planted(t, 100)
	m := some(40, 30, 100)
	root := w.build(t, m)
	check := w.unturned(t)
	refused := func(what string, l []api.Pair) {
		t.Helper()
		if root, e := w.Build(l); root != 0 || e != api.ErrArg {
			t.Errorf("P7.4: Build of %s: %d, %d", what, root, e)
		}
	}
	for at := range 40 {
		for _, key := range wrongKeys() {
			l := m.list()
			l[at].Key = key
			refused("a key that may not be", l)
		}
		for _, value := range wrongValues() {
			l := m.list()
			l[at].Value = value
			refused("a value that may not be", l)
		}
		if at == 0 {
			continue
		}
		l := m.list()
		l[at].Key = slices.Clone(l[at-1].Key)
		refused("a key that is there twice", l)
		l = m.list()
		l[at-1], l[at] = l[at], l[at-1]
		refused("keys that don't rise", l)
		l = m.list()
		l[at].Key = l[at-1].Key[:29]
		refused("a key that is shorter than the one ahead", l)
	}
	refused("falling keys", []api.Pair{{Key: []byte("b")}, {Key: []byte("a")}})
	refused("a longer one ahead", []api.Pair{{Key: []byte("a\x00")}, {Key: []byte("a")}})
	refused("no key", []api.Pair{{}})
	check("Build of what may not be")
	w.stands(t, "behind all", root, m)
}

func TestBuildAtTheBounds(t *testing.T) {
	for _, key := range []int{1, 2, 31, 32} {
		for _, value := range []int{0, 1, 127, 128} {
			built(t, "at the bounds", 20, model{text(1, key): text(2, value), "a": "b"})
		}
	}
	built(t, "keys that go on", 20, model{"a": "", "a\x00": "", "a\x00\x00": "", "ab": "", "b": "", "\xff": "", "\x00": ""})
}

func TestThePowerGoesAtEachWriteOfABuild(t *testing.T) {
	for _, m := range []model{some(1, 3, 0), some(4, 32, 128), some(60, 32, 128), mixed(50)} {
		w := planted(t, 120)
		was := some(20, 20, 60)
		root := w.build(t, was)
		w.settle(t)
		states := w.states()
		writes := len(built(t, "as it is", 100, m).pages)
		for n := range writes {
			told(t, "Arm", w.d.Arm(n), api.OK)
			if next, e := w.Build(m.list()); next != 0 || e != api.ErrPower || w.d.Power() {
				t.Errorf("P7.4: the power goes at Write %d of %d: %d, %d", n, writes, next, e)
			}
			if got := w.states(); got != states {
				t.Errorf("P7.4: the power goes at Write %d: the pages' states %s and not %s", n, got, states)
			}
			told(t, "On", w.d.On(1, 1, 0, 1, 0, 0, 1), api.OK)
			w.tells(t, "P7.5: behind On", root, was)
		}
		told(t, "Arm", w.d.Arm(writes), api.OK)
		next := w.build(t, m)
		told(t, "Arm", w.d.Arm(-1), api.OK)
		w.stands(t, "P7.4: the power would go behind the last Write", next, m)
		w.stands(t, "P7.5: the root that was", root, was)
	}
}

// Walks of many calls

// walk are many calls on one root, with what it had when all settled last.
type walk struct {
	t         *testing.T
	w         wood
	root, old int
	now, was  model
}

// step is one Put or Cut.
func (k *walk) step(a act) {
	k.t.Helper()
	h := k.w.grown(k.t, "a walk", k.root).height()
	room, check := k.w.p.Free(), k.w.unturned(k.t)
	next, e := a.do(k.w, k.root)
	switch {
	case e == api.OK:
		k.root, k.now = next, a.want(k.now)
	case e == api.ErrFull && room < 2*h+1 && next == 0:
		check(a.what)
	default:
		k.t.Fatalf("P7.3: %s with %d free pages: %d, %d", a.what, room, next, e)
	}
}

// settle makes what is now what was.
func (k *walk) settle() {
	k.w.settle(k.t)
	k.old, k.was = k.root, k.now
}

// back is the power's going, and coming with some of what was not sure.
func (k *walk) back(picks ...int) {
	told(k.t, "Off", k.w.d.Off(), api.OK)
	told(k.t, "On", k.w.d.On(picks...), api.OK)
	told(k.t, "Back", k.w.p.Back(), api.OK)
	k.root, k.now = k.old, k.was
}

// dark is a Put or a Cut in which the power goes, if it writes so much.
func (k *walk) dark(a act, n int, picks ...int) {
	told(k.t, "Arm", k.w.d.Arm(n), api.OK)
	states := k.w.states()
	next, e := a.do(k.w, k.root)
	if !k.w.d.Power() {
		if got := k.w.states(); e != api.ErrPower || next != 0 || got != states {
			k.t.Fatalf("P7.3: %s without power: %d, %d, the pages' states %s and not %s", a.what, next, e, got, states)
		}
		told(k.t, "On", k.w.d.On(picks...), api.OK)
	}
	told(k.t, "Arm", k.w.d.Arm(-1), api.OK)
	told(k.t, "Back", k.w.p.Back(), api.OK)
	k.root, k.now = k.old, k.was
}

// build is another root of the same pairs in the place of this one.
func (k *walk) build() {
	next, e := k.w.Build(k.now.list())
	if e != api.OK {
		return
	}
	g := k.w.grown(k.t, "Build", next)
	tight(k.t, "Build", g)
	for _, page := range k.w.walk(k.t, "a walk", k.root) {
		told(k.t, "Drop", k.w.p.Drop(page), api.OK)
	}
	k.root = next
}

// check holds all against the two models: each page is in the root that is, in the one that was, in both, or free.
func (k *walk) check() {
	k.t.Helper()
	k.w.tells(k.t, "P7.5", k.old, k.was)
	k.w.tells(k.t, "P7.3", k.root, k.now)
	now, was := k.w.grown(k.t, "now", k.root).pages, k.w.grown(k.t, "then", k.old).pages
	for page := range k.w.p.Size() {
		want := free
		switch is, were := slices.Contains(now, page), slices.Contains(was, page); {
		case is && were:
			want = old
		case is:
			want = fresh
		case were:
			want = dropped
		}
		if got := k.w.p.State(page); got != uint8(want) {
			k.t.Fatalf("P7.3, P7.6: the page %d is %d and not %d", page, got, want)
		}
	}
}

// walked does what some bytes say, three for each call.
func walked(t *testing.T, n int, calls []byte) {
	t.Helper()
	k := &walk{t: t, w: planted(t, n), root: tree.None, old: tree.None, now: model{}, was: model{}}
	for ; len(calls) >= 3; calls = calls[3:] {
		what, which, more := calls[0], int(calls[1]), int(calls[2])
		key := text(which, 1+which%32)
		value := text(more, more%129)
		switch {
		case what < 110:
			k.step(putting(key, value))
		case what < 150:
			k.step(cutting(key))
		case what < 220 && len(k.now) > 0:
			k.step(cutting(k.now.keys()[which%len(k.now)]))
		case what < 230:
			k.settle()
		case what < 235:
			k.back(which, more, which/2, more/2, which/4, more/4)
		case what < 245:
			k.dark(putting(key, value), more%7, which, more, which/2, more/2)
		case what < 252 && len(k.now) > 0:
			k.dark(cutting(k.now.keys()[which%len(k.now)]), more%7, which, more, which/2, more/2)
		default:
			k.build()
		}
		k.check()
	}
}

func TestWalksOfManyCalls(t *testing.T) {
	for seed := range 12 {
		calls := make([]byte, 3*500)
		rand.New(rand.NewSource(int64(seed))).Read(calls)
		walked(t, []int{3, 10, 30, 60, 150, 300}[seed%6], calls)
	}
}

func FuzzTree(f *testing.F) {
	f.Add(uint16(40), []byte("\x00aa\x00bb\xe1cc\x00dd\xc0ee\xe6\x01\x02\xff\x00\x00"))
	f.Add(uint16(5), []byte(strings.Repeat("\x01ax\x02by\x03cz\xf0\x01\x01", 9)))
	f.Fuzz(func(t *testing.T, n uint16, calls []byte) {
		walked(t, 1+int(n)%200, calls[:min(len(calls), 900)])
	})
}

// FuzzNodes lets any bytes stand in a root's pages: each call ends.
func FuzzNodes(f *testing.F) {
	f.Add([]byte(level(1)+wireChild("a", 1)+wireChild("b", 1)), []byte(level(0)+wirePair("a", "1")), "a")
	f.Add([]byte(level(2)+wireChild("a", 0)+wireChild("b", 1)), []byte(level(1)+wireChild("a", 0)+wireChild("b", 2)), "b")
	f.Fuzz(func(t *testing.T, one, other []byte, key string) {
		w := planted(t, 20)
		for k, body := range [][]byte{one, other, []byte(level(0) + wirePair("b", "2"))} {
			w.written(t, k, sealed(t, 3, string(body[:min(len(body), 505)])))
			told(t, "Use", w.p.Use(k), api.OK)
		}
		for root := range 3 {
			for _, c := range calls(key) {
				c.do(w, root)
			}
		}
	})
}
