package heap_test

import (
	"math"
	"math/rand"
	"slices"
	"testing"

	"gablet/api"
	"gablet/heap"
)

type thing struct {
	key  int64
	item int
}

// Keys and items at which a heap may go wrong: the bounds, and those beside them.
var (
	edgeKeys  = []int64{math.MinInt64, math.MinInt64 + 1, -1 << 32, -1, 0, 1, 1 << 31, 1 << 53, 1<<53 + 1, math.MaxInt64 - 1, math.MaxInt64}
	edgeItems = []int{math.MinInt, math.MinInt + 1, -1 << 32, -1, 0, 1, 1 << 31, 1 << 53, 1<<53 + 1, math.MaxInt - 1, math.MaxInt}
)

// order tells which of two comes first, in the chapter's words.
func order(a, b thing) int {
	switch {
	case a.key < b.key:
		return -1
	case a.key > b.key:
		return 1
	case a.item < b.item:
		return -1
	case a.item > b.item:
		return 1
	}
	return 0
}

// sorted are the same things in the order in which they must come.
func sorted(l []thing) []thing {
	return slices.SortedStableFunc(slices.Values(l), order)
}

// made answers a heap of these things, or ends the test.
func made(t *testing.T, l ...thing) *heap.Heap {
	t.Helper()
	h := heap.New()
	if h == nil {
		t.Fatal("P10.1: no heap")
	}
	push(t, h, l...)
	return h
}

// push pushes things one by one.
func push(t *testing.T, h *heap.Heap, l ...thing) {
	t.Helper()
	for _, x := range l {
		was := h.Len()
		if e := h.Push(x.key, x.item); e != api.OK {
			t.Errorf("P10.2: Push %v: %d", x, e)
		}
		if h.Len() != was+1 {
			t.Errorf("P10.1: behind Push %v: Len %d and not %d", x, h.Len(), was+1)
		}
	}
}

// told holds what Peek or Pop answered against what it must.
func told(t *testing.T, what string, key int64, item int, e api.Errno, want thing, f api.Errno) {
	t.Helper()
	if got := (thing{key, item}); got != want || e != f {
		t.Errorf("%s: %v, %d and not %v, %d", what, got, e, want, f)
	}
}

// popped holds what Peek (twice, for it turns nothing) and Pop answer against a thing, and Len against what it was.
func popped(t *testing.T, what string, h *heap.Heap, want thing) {
	t.Helper()
	was := h.Len()
	for range 2 {
		key, item, e := h.Peek()
		told(t, what+": Peek", key, item, e, want, api.OK)
	}
	if h.Len() != was {
		t.Errorf("%s: Len %d behind Peek, and %d ahead of it", what, h.Len(), was)
	}
	key, item, e := h.Pop()
	told(t, what+": Pop", key, item, e, want, api.OK)
	if h.Len() != was-1 {
		t.Errorf("%s: Len %d behind Pop, and %d ahead of it", what, h.Len(), was)
	}
}

// empty holds all that can be told of a heap without things.
func empty(t *testing.T, what string, h *heap.Heap) {
	t.Helper()
	for range 2 {
		key, item, e := h.Peek()
		told(t, what+": Peek of none", key, item, e, thing{}, api.ErrNone)
		key, item, e = h.Pop()
		told(t, what+": Pop of none", key, item, e, thing{}, api.ErrNone)
		if h.Len() != 0 {
			t.Errorf("%s: Len %d and not 0", what, h.Len())
		}
	}
}

// holds pops all things, which must be these, in order.
func holds(t *testing.T, what string, h *heap.Heap, l []thing) {
	t.Helper()
	if h.Len() != len(l) {
		t.Errorf("%s: Len %d and not %d", what, h.Len(), len(l))
	}
	for _, want := range sorted(l) {
		popped(t, what, h, want)
	}
	empty(t, what, h)
}

// lists answers all the lists of so many of some things.
func lists(n int, of ...thing) [][]thing {
	l := [][]thing{nil}
	for range n {
		var longer [][]thing
		for _, ahead := range l {
			for _, x := range of {
				longer = append(longer, append(slices.Clone(ahead), x))
			}
		}
		l = longer
	}
	return l
}

// orders answers all the orders in which things may come.
func orders(l []thing) [][]thing {
	if len(l) == 0 {
		return [][]thing{nil}
	}
	var all [][]thing
	for i, x := range l {
		left := slices.Delete(slices.Clone(l), i, i+1)
		for _, behind := range orders(left) {
			all = append(all, append([]thing{x}, behind...))
		}
	}
	return all
}

// rising are so many things in order.
func rising(n int) []thing {
	var l []thing
	for k := range n {
		l = append(l, thing{int64(k) - 7, -3 * k})
	}
	return l
}

// backwards are the same things, the last one first.
func backwards(l []thing) []thing {
	l = slices.Clone(l)
	slices.Reverse(l)
	return l
}

// edges are things of each key and each item of the bounds.
func edges() []thing {
	var l []thing
	for _, key := range edgeKeys {
		for _, item := range edgeItems {
			l = append(l, thing{key, item})
		}
	}
	return l
}

func TestNumbersThatAreGiven(t *testing.T) {
	if api.ErrNil != 2 || api.ErrNone != 4 || api.OK != 0 {
		t.Error("the errors' numbers")
	}
}

func TestTheChaptersExamples(t *testing.T) {
	h := made(t)
	for _, x := range []thing{{5, 1}, {3, 9}, {3, 2}} {
		if e := h.Push(x.key, x.item); e != api.OK {
			t.Errorf("Push %v: %d", x, e)
		}
	}
	for _, want := range []thing{{3, 2}, {3, 9}, {5, 1}} {
		key, item, e := h.Pop()
		told(t, "Pop", key, item, e, want, api.OK)
	}
	key, item, e := h.Pop()
	told(t, "Pop of none", key, item, e, thing{}, api.ErrNone)
}

// P10.1

func TestNewIsAHeapWithoutThings(t *testing.T) {
	empty(t, "P10.1", made(t))
	full := made(t, thing{1, 1}, thing{2, 2})
	empty(t, "P10.1: New beside another one", made(t))
	holds(t, "P10.1: the other one", full, []thing{{1, 1}, {2, 2}})
}

func TestLenCountsPushesLessPops(t *testing.T) {
	h := made(t)
	for k := range 100 {
		push(t, h, thing{int64(k % 3), k})
		if h.Len() != k+1 {
			t.Errorf("P10.1: Len %d of %d", h.Len(), k+1)
		}
	}
	for k := range 100 {
		h.Pop()
		if h.Len() != 99-k {
			t.Errorf("P10.1: Len %d of %d", h.Len(), 99-k)
		}
	}
	h.Pop()
	if h.Len() != 0 {
		t.Errorf("P10.1: Len %d behind a Pop of none", h.Len())
	}
}

func TestLenCountsTheSameThingEachTime(t *testing.T) {
	h := made(t)
	for k := range 50 {
		h.Push(0, 0)
		if h.Len() != k+1 {
			t.Errorf("P10.1: Len %d of the same thing %d times", h.Len(), k+1)
		}
	}
}

// P10.2

func TestOneThing(t *testing.T) {
	for _, x := range edges() {
		holds(t, "P10.2: one", made(t, x), []thing{x})
	}
}

func TestTheLesserOfTwoThings(t *testing.T) {
	for _, one := range edges() {
		for _, other := range edges() {
			h := made(t, one, other)
			first, second := one, other
			if order(other, one) < 0 {
				first, second = other, one
			}
			popped(t, "P10.2: the first", h, first)
			popped(t, "P10.2: the second", h, second)
			empty(t, "P10.2: two", h)
		}
	}
}

func TestKeysAndItemsOfTheBounds(t *testing.T) {
	all := edges()
	holds(t, "P10.2: rising", made(t, all...), all)
	holds(t, "P10.2: falling", made(t, backwards(all)...), all)
	dice := rand.New(rand.NewSource(10))
	for range 50 {
		dice.Shuffle(len(all), func(i, k int) { all[i], all[k] = all[k], all[i] })
		holds(t, "P10.2: mixed", made(t, all...), all)
	}
}

func TestOfOneKeyTheLeastItem(t *testing.T) {
	for _, key := range edgeKeys {
		h := made(t)
		for _, item := range []int{4, -9, 0, math.MaxInt, 7, math.MinInt, -1, 4, math.MaxInt} {
			push(t, h, thing{key, item})
		}
		for _, item := range []int{math.MinInt, -9, -1, 0, 4, 4, 7, math.MaxInt, math.MaxInt} {
			popped(t, "P10.2: of one key", h, thing{key, item})
		}
		empty(t, "P10.2: of one key", h)
	}
}

func TestTheKeyGoesAheadOfTheItem(t *testing.T) {
	h := made(t, thing{2, math.MinInt}, thing{1, math.MaxInt}, thing{-2, 5}, thing{-1, -5})
	for _, want := range []thing{{-2, 5}, {-1, -5}, {1, math.MaxInt}, {2, math.MinInt}} {
		popped(t, "P10.2: the key first", h, want)
	}
}

func TestTheSameThingSeveralTimes(t *testing.T) {
	for _, x := range edges() {
		var l []thing
		for range 9 {
			l = append(l, x)
			holds(t, "P10.2: the same", made(t, l...), l)
		}
	}
	h := made(t, thing{5, 5}, thing{4, 4}, thing{5, 5}, thing{4, 4}, thing{5, 5})
	for _, k := range []int{4, 4, 5, 5, 5} {
		popped(t, "P10.2: each as often", h, thing{int64(k), k})
	}
	empty(t, "P10.2: each as often", h)
}

func TestPopIsOneThingAlone(t *testing.T) {
	h := made(t, thing{1, 1}, thing{1, 1})
	popped(t, "P10.2: the first of the same", h, thing{1, 1})
	push(t, h, thing{1, 1})
	popped(t, "P10.2: the second of the same", h, thing{1, 1})
	popped(t, "P10.2: the third of the same", h, thing{1, 1})
	empty(t, "P10.2: the same", h)
}

func TestPeekAndPopOfNoThings(t *testing.T) {
	h := made(t)
	empty(t, "P10.2: a new one", h)
	for _, x := range edges() {
		push(t, h, x)
		popped(t, "P10.2: behind none", h, x)
		empty(t, "P10.2: whose last one was popped", h)
	}
	push(t, h, rising(20)...)
	holds(t, "P10.2: behind none", h, rising(20))
}

func TestPeekFollowsThePushes(t *testing.T) {
	h := made(t)
	first := thing{math.MaxInt64, math.MaxInt}
	for _, x := range []thing{{9, 9}, {9, 10}, {9, 8}, {10, 0}, {3, 3}, {4, 2}, {3, 3}, {-1, 9}, {0, 0}, {-1, -9}} {
		push(t, h, x)
		if order(x, first) < 0 {
			first = x
		}
		key, item, e := h.Peek()
		told(t, "P10.2: Peek behind Push", key, item, e, first, api.OK)
	}
}

// P10.3

func TestThingsInEachOrder(t *testing.T) {
	for n := range 8 {
		for _, l := range orders(rising(n)) {
			holds(t, "P10.3", made(t, l...), l)
		}
	}
	for n := range 6 {
		for _, l := range lists(n, thing{0, 0}, thing{0, 1}, thing{1, 0}, thing{1, 1}) {
			holds(t, "P10.3: some the same", made(t, l...), l)
		}
	}
}

func TestHeapsOfEachSize(t *testing.T) {
	dice := rand.New(rand.NewSource(101))
	for n := range 140 {
		l := rising(n)
		holds(t, "P10.3: rising", made(t, l...), l)
		holds(t, "P10.3: falling", made(t, backwards(l)...), l)
		dice.Shuffle(n, func(i, k int) { l[i], l[k] = l[k], l[i] })
		holds(t, "P10.3: mixed", made(t, l...), l)
		for k := range l {
			l[k].key %= 4
		}
		holds(t, "P10.3: of few keys", made(t, l...), l)
		for k := range l {
			l[k].item %= 5
		}
		holds(t, "P10.3: some the same", made(t, l...), l)
	}
}

func TestManyThings(t *testing.T) {
	const many = 200000
	for what, at := range map[string]func(k int) int{
		"rising":  func(k int) int { return k },
		"falling": func(k int) int { return many - 1 - k },
		"mixed":   func(k int) int { return k * 77773 % many }, // of no divisor with many: each number once
	} {
		h := made(t)
		for k := range many {
			if e := h.Push(int64(at(k)/3), at(k)); e != api.OK {
				t.Fatalf("P10.3: %s: Push: %d", what, e)
			}
		}
		for k := range many {
			if key, item, e := h.Pop(); key != int64(k/3) || item != k || e != api.OK {
				t.Fatalf("P10.3: %s: Pop %d: %d, %d, %d", what, k, key, item, e)
			}
		}
		empty(t, "P10.3: "+what, h)
	}
}

func TestPopBehindPushIsTheLesserOne(t *testing.T) {
	small := []thing{{0, 0}, {0, 1}, {1, 0}, {1, 1}}
	for n := range 5 {
		for _, l := range lists(n, small...) {
			for _, x := range small {
				popsTheLesser(t, l, x)
			}
		}
	}
	dice := rand.New(rand.NewSource(103))
	all := edges()
	for _, x := range all {
		l := make([]thing, 1+dice.Intn(20))
		for k := range l {
			l[k] = all[dice.Intn(len(all))]
		}
		popsTheLesser(t, l, x)
	}
}

// popsTheLesser asks one heap what would have been popped, and of another one of the same things what is popped behind a push.
func popsTheLesser(t *testing.T, l []thing, x thing) {
	t.Helper()
	want, left := x, slices.Clone(l)
	key, item, e := made(t, l...).Pop()
	if would := (thing{key, item}); e == api.OK && order(would, x) < 0 {
		want = would
		left[slices.Index(left, would)] = x
	}
	h := made(t, l...)
	push(t, h, x)
	popped(t, "P10.3: behind a push", h, want)
	holds(t, "P10.3: and what is left", h, left)
}

func TestPushesBetweenPops(t *testing.T) {
	h := made(t, thing{5, 0}, thing{7, 0}, thing{6, 0})
	popped(t, "P10.3", h, thing{5, 0})
	push(t, h, thing{1, 0}, thing{9, 0})
	popped(t, "P10.3", h, thing{1, 0})
	push(t, h, thing{6, -1})
	popped(t, "P10.3", h, thing{6, -1})
	push(t, h, thing{6, 1}, thing{6, 0})
	popped(t, "P10.3", h, thing{6, 0})
	popped(t, "P10.3", h, thing{6, 0})
	popped(t, "P10.3", h, thing{6, 1})
	push(t, h, thing{8, 0})
	popped(t, "P10.3", h, thing{7, 0})
	popped(t, "P10.3", h, thing{8, 0})
	popped(t, "P10.3", h, thing{9, 0})
	empty(t, "P10.3", h)
}

// As the layer of paths uses it: what is pushed is never less than what was popped last, so all pops rise.
func TestPopsRiseWhilePushesDo(t *testing.T) {
	dice := rand.New(rand.NewSource(13))
	h := made(t, thing{0, 0})
	last, left := thing{}, 1
	for range 5000 {
		key, item, e := h.Pop()
		now := thing{key, item}
		if e != api.OK || order(now, last) < 0 {
			t.Fatalf("P10.3: %v, %d behind %v", now, e, last)
		}
		last, left = now, left-1
		more := dice.Intn(3)
		if left == 0 {
			more++
		}
		for range more {
			push(t, h, thing{now.key + 1 + dice.Int63n(20), dice.Intn(40)})
			left++
		}
		if h.Len() != left {
			t.Fatalf("P10.1: Len %d and not %d", h.Len(), left)
		}
	}
}

// R1, R4 and R5

func TestCallsOfNoHeap(t *testing.T) {
	var none *heap.Heap
	for _, x := range edges() {
		if e := none.Push(x.key, x.item); e != api.ErrNil {
			t.Errorf("R4: Push %v: %d", x, e)
		}
		key, item, e := none.Peek()
		told(t, "R4: Peek", key, item, e, thing{}, api.ErrNil)
		key, item, e = none.Pop()
		told(t, "R4: Pop", key, item, e, thing{}, api.ErrNil)
		if none.Len() != 0 {
			t.Errorf("P10.1: of no heap: Len %d", none.Len())
		}
	}
}

func TestHeapsThatNobodyMadeDoNotPanic(t *testing.T) {
	for first := range 4 {
		h := new(heap.Heap)
		for k := range 8 {
			switch (first + k) % 4 {
			case 0:
				h.Push(math.MinInt64, math.MaxInt)
			case 1:
				h.Peek()
			case 2:
				h.Pop()
			case 3:
				h.Len()
			}
		}
	}
}

func TestHeapsDoNotHangTogether(t *testing.T) {
	one, other := made(t), made(t)
	push(t, one, thing{2, 2}, thing{1, 1})
	empty(t, "R5: the other", other)
	push(t, other, thing{0, 0})
	popped(t, "R5: one", one, thing{1, 1})
	push(t, one, thing{3, 3})
	push(t, other, thing{-5, 0}, thing{5, 0})
	holds(t, "R5: one", one, []thing{{2, 2}, {3, 3}})
	holds(t, "R5: the other", other, []thing{{-5, 0}, {0, 0}, {5, 0}})

	dice := rand.New(rand.NewSource(4))
	var walks [7]walk
	for k := range walks {
		walks[k] = walk{t: t, h: made(t)}
	}
	for range 7000 {
		w := &walks[dice.Intn(len(walks))]
		w.step(byte(dice.Intn(256)), thing{int64(dice.Intn(9)), dice.Intn(9)})
	}
	for k := range walks {
		holds(t, "R5: of seven", walks[k].h, walks[k].model)
	}
}

// Whole walks, held against a list that is sorted behind each push.

type walk struct {
	t     *testing.T
	h     *heap.Heap
	model []thing
}

func (w *walk) push(x thing) {
	w.t.Helper()
	push(w.t, w.h, x)
	w.model = sorted(append(w.model, x))
}

func (w *walk) first() (x thing, e api.Errno) {
	if len(w.model) == 0 {
		return thing{}, api.ErrNone
	}
	return w.model[0], api.OK
}

func (w *walk) peek() {
	w.t.Helper()
	want, f := w.first()
	key, item, e := w.h.Peek()
	told(w.t, "a walk: Peek", key, item, e, want, f)
}

func (w *walk) pop() {
	w.t.Helper()
	want, f := w.first()
	key, item, e := w.h.Pop()
	told(w.t, "a walk: Pop", key, item, e, want, f)
	if f == api.OK {
		w.model = w.model[1:]
	}
}

// step does one call, and looks behind it.
func (w *walk) step(call byte, x thing) {
	w.t.Helper()
	switch call % 8 {
	case 0:
		w.peek()
	case 1, 2, 3:
		w.pop()
	default:
		w.push(x)
	}
	if w.h.Len() != len(w.model) {
		w.t.Fatalf("a walk: Len %d and not %d", w.h.Len(), len(w.model))
	}
	w.peek()
}

// walked does what a list of bytes tells, and pops what is left.
func walked(t *testing.T, calls []byte) {
	w := &walk{t: t, h: made(t)}
	for i := 0; i+2 < len(calls); i += 3 {
		x := thing{int64(int8(calls[i+1])), int(int8(calls[i+2]))}
		if calls[i] >= 128 { // few keys and items, which come again and again, and those of the bounds
			x = thing{edgeKeys[int(calls[i+1])%len(edgeKeys)], edgeItems[int(calls[i+2])%len(edgeItems)]}
		}
		w.step(calls[i], x)
	}
	holds(t, "a walk's end", w.h, w.model)
}

func TestWalksOfManyCalls(t *testing.T) {
	dice := rand.New(rand.NewSource(11))
	for range 300 {
		calls := make([]byte, 3*(10+dice.Intn(400)))
		dice.Read(calls)
		if dice.Intn(2) == 0 { // more pops than pushes, so that it runs out again and again
			for i := 0; i < len(calls); i += 3 {
				calls[i] &= 0xfb
				if dice.Intn(5) < 2 {
					calls[i] |= 4
				}
			}
		}
		walked(t, calls)
	}
}

func FuzzHeap(f *testing.F) {
	f.Add([]byte("\x04\x05\x01\x04\x03\x09\x04\x03\x02\x01\x00\x00\x01\x00\x00\x01\x00\x00\x01\x00\x00"))
	f.Add([]byte("\x84\x00\x00\x84\x0a\x0a\x84\x00\x0a\x81\x00\x00\x00\x00\x00\x84\x0a\x00"))
	f.Fuzz(func(t *testing.T, calls []byte) {
		walked(t, calls)
	})
}
