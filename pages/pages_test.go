package pages_test

import (
	"math"
	"math/rand"
	"slices"
	"strings"
	"testing"

	"gablet/api"
	"gablet/pages"
)

// The states' numbers, as the chapter tells them.
const (
	free    = '0'
	old     = '1'
	fresh   = '2'
	dropped = '3'
)

// made answers so many pages, or ends the test.
func made(t *testing.T, n int) *pages.Pages {
	t.Helper()
	p, e := pages.New(n)
	if p == nil || e != api.OK {
		t.Fatalf("P6.1: New of %d: %d", n, e)
	}
	return p
}

// told holds an error against the one that is wanted.
func told(t *testing.T, what string, got, want api.Errno) {
	t.Helper()
	if got != want {
		t.Errorf("%s: %d and not %d", what, got, want)
	}
}

// taken holds what Take answers against a page, or an error.
func taken(t *testing.T, what string, p *pages.Pages, want int, e api.Errno) {
	t.Helper()
	if k, f := p.Take(); k != want || f != e {
		t.Errorf("%s: Take: %d, %d and not %d, %d", what, k, f, want, e)
	}
}

// states are those of all pages, a digit each.
func states(p *pages.Pages) string {
	var l []byte
	for k := range p.Size() {
		l = append(l, '0'+p.State(k))
	}
	return string(l)
}

// stands holds all that can be told of pages against their states, a digit each.
func stands(t *testing.T, what string, p *pages.Pages, want string) {
	t.Helper()
	n := 0
	for _, s := range want {
		if s == free {
			n++
		}
	}
	if got := states(p); got != want || p.Free() != n || p.Size() != len(want) {
		t.Errorf("%s: %.99s, Free %d, Size %d, and not %.99s, %d, %d", what, got, p.Free(), p.Size(), want, n, len(want))
	}
}

// inStates answers pages that stand in these states, a digit each, or ends the test.
func inStates(t *testing.T, want string) *pages.Pages {
	t.Helper()
	p := made(t, len(want))
	for k, s := range want {
		if s == old || s == dropped {
			told(t, "P6.2: Use", p.Use(k), api.OK)
		}
	}
	for range p.Free() {
		if _, e := p.Take(); e != api.OK {
			t.Fatalf("P6.2: Take: %d", e)
		}
	}
	for k, s := range want {
		if s == free || s == dropped {
			told(t, "P6.2: Drop", p.Drop(k), api.OK)
		}
	}
	if got := states(p); got != want {
		t.Fatalf("P6.2: %s and not %s", got, want)
	}
	return p
}

// allStates are all the states in which so many pages may stand.
func allStates(n int) []string {
	l := []string{""}
	for range n {
		var longer []string
		for _, s := range l {
			for _, one := range "0123" {
				longer = append(longer, s+string(one))
			}
		}
		l = longer
	}
	return l
}

// put is what stands there, but for one page.
func put(states string, k int, s byte) string {
	b := []byte(states)
	b[k] = s
	return string(b)
}

// turned is what stands there, with what each state becomes: a digit for each of the four.
func turned(states, to string) string {
	b := []byte(states)
	for k := range b {
		b[k] = to[b[k]-'0']
	}
	return string(b)
}

// wrongPages are numbers of which so many pages have none.
func wrongPages(n int) []int {
	return []int{-1, -2, -n, n, n + 1, 2 * n, n + 256, 1 << 32, math.MaxInt, math.MaxInt - 1, math.MinInt, math.MinInt + 1}
}

func TestNumbersThatAreGiven(t *testing.T) {
	if api.ErrArg != 1 || api.ErrNil != 2 || api.ErrState != 3 || api.ErrFull != 7 || api.OK != 0 {
		t.Error("the errors' numbers")
	}
	if api.MaxBlocks != 4096 {
		t.Error("the limit")
	}
}

func TestTheChaptersExamples(t *testing.T) {
	p := made(t, 3)
	told(t, "Use 1", p.Use(1), api.OK)
	taken(t, "the first", p, 0, api.OK)
	taken(t, "the second", p, 2, api.OK)
	taken(t, "the third", p, 0, api.ErrFull)

	told(t, "Drop 1", p.Drop(1), api.OK)
	told(t, "Drop 0", p.Drop(0), api.OK)
	if p.Free() != 1 {
		t.Errorf("Free: %d and not 1", p.Free())
	}
	taken(t, "behind Drop", p, 0, api.OK)
	told(t, "Settle", p.Settle(), api.OK)
	if p.Free() != 1 {
		t.Errorf("Free: %d and not 1", p.Free())
	}
	taken(t, "behind Settle", p, 1, api.OK)
}

// P6.1

func TestNewIsPagesThatAreFree(t *testing.T) {
	for _, n := range []int{1, 2, 3, 40, 255, 256, 257, 442, api.MaxBlocks - 1, api.MaxBlocks} {
		p := made(t, n)
		stands(t, "P6.1: New", p, strings.Repeat("0", n))
		for k := range n {
			taken(t, "P6.2", p, k, api.OK)
		}
		taken(t, "P6.2", p, 0, api.ErrFull)
	}
}

func TestNewOfTooFewOrTooMany(t *testing.T) {
	for _, n := range []int{0, -1, -2, -api.MaxBlocks, api.MaxBlocks + 1, api.MaxBlocks + 2, 2 * api.MaxBlocks, 1 << 16, 1 << 32, 1<<32 + 1, math.MaxInt, math.MinInt, math.MinInt + 1} {
		if p, e := pages.New(n); p != nil || e != api.ErrArg {
			t.Errorf("P6.1: New of %d: %d", n, e)
		}
	}
}

func TestStateOfEachPage(t *testing.T) {
	for _, n := range []int{1, 2, 40, api.MaxBlocks} {
		for _, k := range []int{0, n / 2, n - 1} {
			p := made(t, n)
			told(t, "P6.2: Use", p.Use(k), api.OK)
			stands(t, "P6.1", p, put(strings.Repeat("0", n), k, old))
		}
	}
}

func TestStateOfAPageThatIsNotThere(t *testing.T) {
	for _, s := range []string{"1", "2", "3", "11", "22", "33", "123", "3333333"} {
		p := inStates(t, s)
		for _, k := range wrongPages(len(s)) {
			if got := p.State(k); got != 0 {
				t.Errorf("P6.1: State %d of %d pages: %d", k, len(s), got)
			}
		}
		if got, want := p.State(len(s)-1), s[len(s)-1]-'0'; got != want {
			t.Errorf("P6.1: State of the last page: %d and not %d", got, want)
		}
	}
}

func TestFreeCountsWhatIsFreeAlone(t *testing.T) {
	for _, c := range []struct {
		states string
		want   int
	}{
		{"0", 1}, {"1", 0}, {"2", 0}, {"3", 0}, {"00", 2}, {"0123", 1}, {"3210", 1}, {"1111", 0}, {"3333", 0}, {"2222", 0}, {"0101", 2}, {"02300", 3},
	} {
		if got := inStates(t, c.states).Free(); got != c.want {
			t.Errorf("P6.1: Free of %s: %d and not %d", c.states, got, c.want)
		}
	}
}

func TestWhatIsToldTurnsNothing(t *testing.T) {
	for _, s := range allStates(3) {
		p := inStates(t, s)
		for range 3 {
			p.Free()
			p.Size()
			for k := -1; k <= 3; k++ {
				p.State(k)
			}
		}
		stands(t, "P6.1: told", p, s)
	}
}

// P6.2

func TestTakeIsTheLeastFreeOne(t *testing.T) {
	for _, s := range allStates(5) {
		p := inStates(t, s)
		want, e := slices.Index([]byte(s), free), api.OK
		after := s
		if want < 0 {
			want, e = 0, api.ErrFull
		} else {
			after = put(s, want, fresh)
		}
		taken(t, "P6.2: of "+s, p, want, e)
		stands(t, "P6.2: Take of "+s, p, after)
	}
}

func TestTakeWhenNoneIsFreeTurnsNothing(t *testing.T) {
	for _, s := range []string{"1", "2", "3", "123", "321", "3333", "2222", "1111"} {
		p := inStates(t, s)
		for range 3 {
			taken(t, "P6.2: of "+s, p, 0, api.ErrFull)
			stands(t, "P6.2: Take of "+s, p, s)
		}
	}
}

func TestTakeOfSeveralThatBecomeFree(t *testing.T) {
	p := inStates(t, "2212322")
	for _, k := range []int{5, 1, 3} {
		told(t, "P6.2: Drop", p.Drop(k), api.OK)
	}
	for _, k := range []int{1, 3, 5} {
		taken(t, "P6.2", p, k, api.OK)
	}
	taken(t, "P6.2", p, 0, api.ErrFull)
	stands(t, "P6.2", p, "2212322")
}

func TestTheFirstAndTheLastOfTheMost(t *testing.T) {
	p := made(t, api.MaxBlocks)
	for k := range api.MaxBlocks {
		taken(t, "P6.2", p, k, api.OK)
	}
	told(t, "P6.2: Drop of the last", p.Drop(api.MaxBlocks-1), api.OK)
	taken(t, "P6.2: the last", p, api.MaxBlocks-1, api.OK)
	told(t, "P6.3: Settle", p.Settle(), api.OK)
	told(t, "P6.2: Drop of the first", p.Drop(0), api.OK)
	told(t, "P6.2: Drop of the last", p.Drop(api.MaxBlocks-1), api.OK)
	taken(t, "P6.4", p, 0, api.ErrFull)
	told(t, "P6.3: Settle", p.Settle(), api.OK)
	taken(t, "P6.3: the first", p, 0, api.OK)
	taken(t, "P6.3: the last", p, api.MaxBlocks-1, api.OK)
	taken(t, "P6.3", p, 0, api.ErrFull)
}

func TestUseOfAPageInEachState(t *testing.T) {
	for _, s := range allStates(3) {
		for k := range s {
			p := inStates(t, s)
			if s[k] == free {
				told(t, "P6.2: Use of a free page", p.Use(k), api.OK)
				stands(t, "P6.2: Use of a free page", p, put(s, k, old))
			} else {
				told(t, "P6.2: Use of a page that is not free", p.Use(k), api.ErrState)
				stands(t, "P6.2: Use of a page that is not free", p, s)
			}
		}
	}
}

func TestDropOfAPageInEachState(t *testing.T) {
	for _, s := range allStates(3) {
		for k := range s {
			p := inStates(t, s)
			switch s[k] {
			case old:
				told(t, "P6.2: Drop of an old page", p.Drop(k), api.OK)
				stands(t, "P6.2: Drop of an old page", p, put(s, k, dropped))
			case fresh:
				told(t, "P6.2: Drop of a fresh page", p.Drop(k), api.OK)
				stands(t, "P6.2: Drop of a fresh page", p, put(s, k, free))
			default:
				told(t, "P6.2: Drop of a page that is free or dropped", p.Drop(k), api.ErrState)
				stands(t, "P6.2: Drop of a page that is free or dropped", p, s)
			}
		}
	}
}

func TestUseAndDropOfAPageThatIsNotThere(t *testing.T) {
	for _, s := range []string{"0", "1", "2", "3", "00", "11", "22", "33", "0123", "3210"} {
		p := inStates(t, s)
		for _, k := range wrongPages(len(s)) {
			told(t, "P6.2: Use of no page", p.Use(k), api.ErrArg)
			told(t, "P6.2: Drop of no page", p.Drop(k), api.ErrArg)
		}
		stands(t, "P6.2: refused", p, s)
	}
	p := made(t, api.MaxBlocks)
	told(t, "P6.2: Use of no page", p.Use(api.MaxBlocks), api.ErrArg)
	told(t, "P6.2: Drop of no page", p.Drop(api.MaxBlocks), api.ErrArg)
	told(t, "P6.2: Use of the last page", p.Use(api.MaxBlocks-1), api.OK)
	told(t, "P6.2: Drop of the last page", p.Drop(api.MaxBlocks-1), api.OK)
}

// P6.3

func TestSettleOfPagesInEachState(t *testing.T) {
	for n := 1; n <= 4; n++ {
		for _, s := range allStates(n) {
			p := inStates(t, s)
			want := turned(s, "0110")
			for range 2 { // the second one has nothing to do
				told(t, "P6.3: Settle", p.Settle(), api.OK)
				stands(t, "P6.3: Settle of "+s, p, want)
			}
			told(t, "P6.3: Back", p.Back(), api.OK)
			stands(t, "P6.3: Back behind Settle of "+s, p, want)
		}
	}
}

func TestBackOfPagesInEachState(t *testing.T) {
	for n := 1; n <= 4; n++ {
		for _, s := range allStates(n) {
			p := inStates(t, s)
			want := turned(s, "0101")
			for range 2 {
				told(t, "P6.3: Back", p.Back(), api.OK)
				stands(t, "P6.3: Back of "+s, p, want)
			}
			told(t, "P6.3: Settle", p.Settle(), api.OK)
			stands(t, "P6.3: Settle behind Back of "+s, p, want)
		}
	}
}

func TestSettleAndBackOfTheMost(t *testing.T) {
	for _, c := range []struct {
		what, want string
		do         func(p *pages.Pages) api.Errno
	}{
		{"P6.3: Settle", "0110", (*pages.Pages).Settle},
		{"P6.3: Back", "0101", (*pages.Pages).Back},
	} {
		s := make([]byte, api.MaxBlocks)
		rand.New(rand.NewSource(1)).Read(s)
		for k := range s {
			s[k] = '0' + s[k]%4
		}
		s[0], s[api.MaxBlocks-1] = dropped, fresh
		p := inStates(t, string(s))
		told(t, c.what, c.do(p), api.OK)
		stands(t, c.what, p, turned(string(s), c.want))
	}
}

// P6.4

func TestWhatWasOldIsNotTakenUntilAllSettle(t *testing.T) {
	for _, was := range allStates(4) {
		was = turned(was, "0110") // each of 0 and 1, some more than once
		p := inStates(t, was)
		for k := range was {
			if was[k] == old {
				told(t, "P6.2: Drop", p.Drop(k), api.OK)
			}
		}
		room := p.Free()
		for range 3 {
			for range room {
				if k, e := p.Take(); e != api.OK || was[k] != free {
					t.Fatalf("P6.4: of %s: Take: %d, %d", was, k, e)
				}
			}
			taken(t, "P6.4: of "+was, p, 0, api.ErrFull)
			for k := range was {
				if was[k] == free {
					told(t, "P6.2: Drop", p.Drop(k), api.OK)
				}
			}
		}
		told(t, "P6.3: Settle", p.Settle(), api.OK)
		stands(t, "P6.3: all were dropped", p, "0000")
	}
}

func TestBackIsAsIfNothingHadBeenTakenOrDropped(t *testing.T) {
	p := inStates(t, "01100110")
	for range 3 {
		taken(t, "P6.2", p, 0, api.OK)
		taken(t, "P6.2", p, 3, api.OK)
		told(t, "P6.2: Drop", p.Drop(1), api.OK)
		told(t, "P6.2: Drop", p.Drop(0), api.OK)
		told(t, "P6.2: Drop", p.Drop(6), api.OK)
		taken(t, "P6.2", p, 0, api.OK)
		stands(t, "P6.2", p, "23120130")
		told(t, "P6.3: Back", p.Back(), api.OK)
		stands(t, "P6.4: Back", p, "01100110")
	}
	told(t, "P6.2: Drop of what is old again", p.Drop(1), api.OK)
	told(t, "P6.2: Use of what is free again", p.Use(0), api.OK)
}

func TestWhatIsUsedIsOldBehindBack(t *testing.T) {
	p := made(t, 4)
	taken(t, "P6.2", p, 0, api.OK)
	told(t, "P6.2: Use", p.Use(2), api.OK)
	told(t, "P6.2: Use", p.Use(1), api.OK)
	told(t, "P6.2: Drop", p.Drop(2), api.OK)
	stands(t, "P6.2", p, "2130")
	told(t, "P6.3: Back", p.Back(), api.OK)
	stands(t, "P6.4: Back", p, "0110")
}

// R1, R4 and R5

func TestCallsOfNoPages(t *testing.T) {
	var none *pages.Pages
	if none.Size() != 0 || none.Free() != 0 {
		t.Errorf("P6.1: of no pages: Size %d, Free %d", none.Size(), none.Free())
	}
	taken(t, "R4", none, 0, api.ErrNil)
	for _, k := range append(wrongPages(1), 0, 1) {
		told(t, "R4: Use", none.Use(k), api.ErrNil)
		told(t, "R4: Drop", none.Drop(k), api.ErrNil)
		if none.State(k) != 0 {
			t.Errorf("P6.1: of no pages: State %d: %d", k, none.State(k))
		}
	}
	told(t, "R4: Settle", none.Settle(), api.ErrNil)
	told(t, "R4: Back", none.Back(), api.ErrNil)
}

func TestPagesThatNobodyMadeDoNotPanic(t *testing.T) {
	p := new(pages.Pages)
	for range 2 {
		for _, k := range append(wrongPages(1), 0) {
			p.Use(k)
			p.Drop(k)
			p.State(k)
		}
		p.Take()
		p.Settle()
		p.Back()
		p.Size()
		p.Free()
	}
}

func TestPagesShareNothing(t *testing.T) {
	one, other := made(t, 3), made(t, 3)
	told(t, "P6.2: Use", one.Use(1), api.OK)
	taken(t, "R5: another one's Take", other, 0, api.OK)
	taken(t, "R5: another one's Take", other, 1, api.OK)
	told(t, "P6.2: Drop", one.Drop(1), api.OK)
	told(t, "P6.3: Settle", other.Settle(), api.OK)
	stands(t, "R5: one", one, "030")
	stands(t, "R5: the other", other, "110")
	told(t, "P6.3: Back", one.Back(), api.OK)
	stands(t, "R5: one", one, "010")
	stands(t, "R5: the other", other, "110")
}

// Whole walks, held against pages that are told another way: of each whether the state of then has it, and whether that of now has it.

type walk struct {
	t         *testing.T
	p         *pages.Pages
	bare      *pages.Pages // nothing but Use and Settle is done to it: what Back must make of p
	then, now []bool
}

func (w *walk) states() string {
	var l []byte
	for k := range w.now {
		switch {
		case w.then[k] && w.now[k]:
			l = append(l, old)
		case w.then[k]:
			l = append(l, dropped)
		case w.now[k]:
			l = append(l, fresh)
		default:
			l = append(l, free)
		}
	}
	return string(l)
}

func (w *walk) is(k int) bool { return k >= 0 && k < len(w.now) }

func (w *walk) take() {
	for k := range w.now {
		if !w.then[k] && !w.now[k] {
			taken(w.t, "P6.2", w.p, k, api.OK)
			w.now[k] = true
			return
		}
	}
	taken(w.t, "P6.2", w.p, 0, api.ErrFull)
}

func (w *walk) use(k int) {
	switch {
	case !w.is(k):
		told(w.t, "P6.2: Use", w.p.Use(k), api.ErrArg)
	case w.then[k] || w.now[k]:
		told(w.t, "P6.2: Use", w.p.Use(k), api.ErrState)
	default:
		told(w.t, "P6.2: Use", w.p.Use(k), api.OK)
		w.bare.Use(k)
		w.then[k], w.now[k] = true, true
	}
}

func (w *walk) drop(k int) {
	switch {
	case !w.is(k):
		told(w.t, "P6.2: Drop", w.p.Drop(k), api.ErrArg)
	case !w.now[k]:
		told(w.t, "P6.2: Drop", w.p.Drop(k), api.ErrState)
	default:
		told(w.t, "P6.2: Drop", w.p.Drop(k), api.OK)
		w.now[k] = false
	}
}

func (w *walk) settle() {
	told(w.t, "P6.3: Settle", w.p.Settle(), api.OK)
	w.then = slices.Clone(w.now)
	w.bare = made(w.t, len(w.now))
	for k, is := range w.now {
		if is {
			w.bare.Use(k)
		}
	}
}

func (w *walk) back() {
	told(w.t, "P6.3: Back", w.p.Back(), api.OK)
	w.now = slices.Clone(w.then)
	if got, want := states(w.p), states(w.bare); got != want {
		w.t.Errorf("P6.4: Back: %s and not %s", got, want)
	}
}

// walked does what a list of bytes tells, and looks behind each call.
func walked(t *testing.T, n int, calls []byte) {
	w := &walk{t: t, p: made(t, n), bare: made(t, n), then: make([]bool, n), now: make([]bool, n)}
	for i := 0; i+1 < len(calls); i += 2 {
		k := int(calls[i+1])%(n+2) - 1
		switch calls[i] % 16 {
		case 0:
			w.settle()
		case 1:
			w.back()
		case 2, 3:
			w.use(k)
		case 4, 5, 6, 7, 8:
			w.drop(k)
		default:
			w.take()
		}
		stands(t, "a walk", w.p, w.states())
	}
}

func TestWalksOfManyCalls(t *testing.T) {
	dice := rand.New(rand.NewSource(6))
	for range 400 {
		calls := make([]byte, 20+dice.Intn(600))
		dice.Read(calls)
		walked(t, 1+dice.Intn(12), calls)
	}
}

func FuzzPages(f *testing.F) {
	f.Add(uint8(2), []byte("\x02\x02\x09\x00\x09\x00\x09\x00\x04\x02\x04\x01\x09\x00\x00\x00\x09\x00"))
	f.Add(uint8(3), []byte("\x09\x00\x00\x00\x04\x01\x09\x00\x01\x00\x09\x00"))
	f.Fuzz(func(t *testing.T, n uint8, calls []byte) {
		walked(t, 1+int(n)%12, calls)
	})
}
