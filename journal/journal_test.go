package journal_test

import (
	"bytes"
	"math"
	"math/rand"
	"slices"
	"strings"
	"testing"

	"gablet/api"
	"gablet/block"
	"gablet/device"
	"gablet/journal"
)

// mostSeq is the greatest number that a mark may be opened with.
const mostSeq = uint64(1) << 62

// ring are a journal's blocks.
type ring struct {
	d          *device.Device
	from, size int
}

// mark is where a string begins.
type mark struct {
	at  int
	seq uint64
}

// made answers blocks of a new device that has some more ahead of them and behind them.
func made(t *testing.T, size int) ring {
	t.Helper()
	return ring{newDevice(t, size+5), 3, size}
}

func newDevice(t *testing.T, blocks int) *device.Device {
	t.Helper()
	d, e := device.New(blocks)
	if e != api.OK {
		t.Fatalf("a device of %d blocks: %d", blocks, e)
	}
	return d
}

// text are bytes of a length, others for each n, and the same each time.
func text(n, length int) string {
	b := make([]byte, length)
	rand.New(rand.NewSource(int64(10000*n + length))).Read(b)
	return string(b)
}

// takes tells how many blocks a string takes.
func takes(s string) int {
	n := 2
	for length := len(s); length > 480; length -= 480 {
		n++
	}
	return n
}

// taken tells how many blocks all of these strings take.
func taken(l []string) int {
	n := 0
	for _, s := range l {
		n += takes(s)
	}
	return n
}

// behind is the mark behind strings that begin at m.
func (r ring) behind(m mark, l ...string) mark {
	return mark{(m.at + taken(l)) % r.size, m.seq + uint64(len(l))}
}

// told holds an error against the one that is wanted.
func told(t *testing.T, what string, got, want api.Errno) {
	t.Helper()
	if got != want {
		t.Errorf("%s: %d and not %d", what, got, want)
	}
}

// stands checks what a journal tells that holds these strings from m on.
func (r ring) stands(t *testing.T, what string, j *journal.Journal, m mark, held ...string) {
	t.Helper()
	at, seq := j.Mark()
	if want := r.behind(m, held...); at != want.at || seq != want.seq {
		t.Errorf("P5.3: %s: Mark %d, %d and not %d, %d", what, at, seq, want.at, want.seq)
	}
	if want := r.size - taken(held); j.Free() != want {
		t.Errorf("P5.2: %s: Free %d and not %d", what, j.Free(), want)
	}
}

// strs are lists of bytes as strings.
func strs(l [][]byte) []string {
	out := []string{}
	for _, b := range l {
		out = append(out, string(b))
	}
	return out
}

// open answers a journal and what it holds, or ends the test.
func (r ring) open(t *testing.T, what string, m mark) (*journal.Journal, []string) {
	t.Helper()
	j, l, e := journal.Open(r.d, r.from, r.size, m.at, m.seq)
	if j == nil || e != api.OK {
		t.Fatalf("P5.1: %s: Open at %d, %d: %d", what, m.at, m.seq, e)
	}
	return j, strs(l)
}

// opened answers a journal that is to hold just these strings, or ends the test.
func (r ring) opened(t *testing.T, what string, m mark, want ...string) *journal.Journal {
	t.Helper()
	j, l := r.open(t, what, m)
	if !slices.Equal(l, want) {
		t.Fatalf("P5.1: %s: Open at %d, %d: %.12q and not %.12q", what, m.at, m.seq, l, want)
	}
	r.stands(t, what, j, m, want...)
	return j
}

// appended appends strings that there is room for.
func appended(t *testing.T, what string, j *journal.Journal, l ...string) {
	t.Helper()
	for _, s := range l {
		told(t, "P5.2: "+what+": Append", j.Append([]byte(s)), api.OK)
	}
}

// crashed turns the power off, if it is on, and on.
func (r ring) crashed(t *testing.T, picks ...int) {
	t.Helper()
	if r.d.Power() {
		told(t, "Off", r.d.Off(), api.OK)
	}
	told(t, "On", r.d.On(picks...), api.OK)
}

// others fills all blocks that are not the journal's, and answers a check that they are as they were.
func (r ring) others(t *testing.T) func(what string) {
	t.Helper()
	own := func(k int) bool { return k >= r.from && k < r.from+r.size }
	full := func(k int) []byte { return bytes.Repeat([]byte{byte(k), 'o'}, api.BlockSize/2) }
	for k := range r.d.Size() {
		if !own(k) {
			r.d.Write(k, full(k))
		}
	}
	r.d.Flush()
	return func(what string) {
		t.Helper()
		for k := range r.d.Size() {
			if b, e := r.d.Read(k); !own(k) && (!bytes.Equal(b, full(k)) || e != api.OK) {
				t.Errorf("%s: block %d, which is not the journal's, is written", what, k)
			}
		}
	}
}

// someLengths are those about each edge of a string's pieces.
func someLengths() []int {
	return []int{0, 1, 2, 100, 479, 480, 481, 700, 959, 960, 961, 1439, 1440, 1441}
}

func TestNumbersThatAreGiven(t *testing.T) {
	if api.ErrArg != 1 || api.ErrNil != 2 || api.ErrState != 3 || api.ErrFull != 7 || api.ErrPower != 8 || api.OK != 0 {
		t.Error("the errors' numbers")
	}
	if journal.Chunk != 480 || api.BlockSize != 512 || api.MaxBlocks != 4096 {
		t.Error("the limits")
	}
}

func TestTheChaptersExamples(t *testing.T) {
	r := ring{newDevice(t, 20), 5, 10}
	begin, long := mark{0, 1}, text(1, 481)
	j := r.opened(t, "Open", begin)
	appended(t, "ab, and 481 bytes", j, "ab", long)
	if at, seq := j.Mark(); j.Free() != 5 || at != 5 || seq != 3 {
		t.Errorf("Free %d; Mark %d, %d", j.Free(), at, seq)
	}
	r.opened(t, "Open with 0, 1", begin, "ab", long)
	r.opened(t, "Open with 5, 3", mark{5, 3})
	told(t, "Append 1,921 bytes", j.Append(make([]byte, 1921)), api.ErrFull)
	told(t, "Append 1,920 bytes", j.Append(make([]byte, 1920)), api.OK)
	told(t, "Append nothing", j.Append(nil), api.ErrFull)
	told(t, "Forget", j.Forget(), api.OK)
	if j.Free() != 10 {
		t.Errorf("Free %d", j.Free())
	}
	told(t, "Append nothing", j.Append(nil), api.OK)
	if at, seq := j.Mark(); at != 2 || seq != 5 {
		t.Errorf("Mark %d, %d", at, seq)
	}
}

// P5.1

func TestBlocksOfSoManyBytes(t *testing.T) {
	for _, c := range []struct{ n, want int }{
		{0, 2}, {1, 2}, {2, 2}, {479, 2}, {480, 2}, {481, 3}, {482, 3}, {959, 3}, {960, 3}, {961, 4}, {1440, 4}, {1441, 5},
		{1 << 20, 2186}, {480 << 40, 1<<40 + 1}, {480<<40 + 1, 1<<40 + 2},
		{-1, 2}, {-2, 2}, {-479, 2}, {-480, 2}, {-481, 2}, {-1000, 2}, {math.MinInt, 2}, {math.MinInt + 1, 2},
		{math.MaxInt, math.MaxInt/480 + 2}, {math.MaxInt - 1, math.MaxInt/480 + 2}, {math.MaxInt - math.MaxInt%480, math.MaxInt/480 + 1},
	} {
		if n := journal.Blocks(c.n); n != c.want {
			t.Errorf("P5.1: Blocks of %d: %d and not %d", c.n, n, c.want)
		}
	}
	for n := range 5000 {
		if got := journal.Blocks(n); got != takes(strings.Repeat("x", n)) {
			t.Errorf("P5.1: Blocks of %d: %d", n, got)
		}
	}
}

// refused holds what Open answers against an error beside which all else is zero.
func refused(t *testing.T, d *device.Device, from, size, at int, seq uint64, want api.Errno) {
	t.Helper()
	if j, l, e := journal.Open(d, from, size, at, seq); j != nil || len(l) != 0 || e != want {
		t.Errorf("P5.1: Open of %d, %d, %d, %d: %d strings, %d and not %d", from, size, at, seq, len(l), e, want)
	}
}

// wrongOpens are numbers that no journal is opened with on a device of so many blocks: beyond each bound, and where both together overflow.
func wrongOpens(blocks int) []struct {
	from, size, at int
	seq            uint64
} {
	return []struct {
		from, size, at int
		seq            uint64
	}{
		{-1, 5, 0, 1}, {-5, 5, 0, 1}, {math.MinInt, 5, 0, 1}, {math.MinInt, math.MaxInt, 0, 1},
		{0, 1, 0, 1}, {0, 0, 0, 1}, {0, -1, 0, 1}, {0, math.MinInt, 0, 1}, {3, 1, 0, 1}, {blocks, 0, 0, 1}, {blocks + 1, -1, 0, 1}, {math.MaxInt, math.MinInt, 0, 1},
		{0, blocks + 1, 0, 1}, {1, blocks, 0, 1}, {blocks - 1, 2, 0, 1}, {blocks, 2, 0, 1}, {blocks + 1, 2, 0, 1}, {blocks - 4, 5, 0, 1},
		{math.MaxInt, 2, 0, 1}, {2, math.MaxInt, 0, 1}, {math.MaxInt, math.MaxInt, 0, 1}, {math.MaxInt - 1, 2, 0, 1}, {math.MaxInt - 3, 5, 0, 1}, {0, math.MaxInt, 0, 1},
		{0, 5, -1, 1}, {0, 5, 5, 1}, {0, 5, 6, 1}, {0, blocks, blocks, 1}, {0, 5, math.MaxInt, 1}, {0, 5, math.MinInt, 1}, {3, 2, 2, 1},
		{0, 5, 0, 0}, {0, 5, 0, mostSeq + 1}, {0, 5, 0, mostSeq + 2}, {0, 5, 0, 1 << 63}, {0, 5, 0, math.MaxUint64},
		{-1, 1, -1, 0}, {0, 5, 5, 0},
	}
}

func TestOpenOfWrongArguments(t *testing.T) {
	d := newDevice(t, 20)
	off := newDevice(t, 20)
	off.Off()
	for _, c := range wrongOpens(20) {
		refused(t, d, c.from, c.size, c.at, c.seq, api.ErrArg)
		refused(t, off, c.from, c.size, c.at, c.seq, api.ErrArg) // named ahead of the device's own
		refused(t, nil, c.from, c.size, c.at, c.seq, api.ErrNil)
		refused(t, new(device.Device), c.from, c.size, c.at, c.seq, api.ErrArg)
	}
	refused(t, nil, 0, 5, 0, 1, api.ErrNil)
	refused(t, new(device.Device), 0, 2, 0, 1, api.ErrArg)
	one := newDevice(t, 1)
	refused(t, one, 0, 1, 0, 1, api.ErrArg)
	refused(t, one, 0, 2, 0, 1, api.ErrArg)
}

func TestOpenThatIsRefusedTurnsNothing(t *testing.T) {
	r := ring{newDevice(t, 20), 0, 20}
	j := r.opened(t, "Open", mark{18, 4})
	appended(t, "a string", j, text(1, 500))
	for _, c := range wrongOpens(20) {
		refused(t, r.d, c.from, c.size, c.at, c.seq, api.ErrArg)
	}
	appended(t, "behind what was refused", j, "b")
	r.opened(t, "behind what was refused", mark{18, 4}, text(1, 500), "b")
}

func TestOpenAtTheBounds(t *testing.T) {
	for _, c := range []struct {
		blocks, from, size, at int
		seq                    uint64
	}{
		{2, 0, 2, 0, 1}, {2, 0, 2, 1, 1}, {2, 0, 2, 1, mostSeq}, {20, 0, 20, 0, 1}, {20, 0, 20, 19, mostSeq}, {20, 18, 2, 0, 1}, {20, 18, 2, 1, mostSeq - 1},
		{20, 0, 2, 1, 2}, {20, 15, 5, 4, mostSeq}, {20, 1, 19, 18, 7}, {3, 1, 2, 1, 1},
		{api.MaxBlocks, 0, api.MaxBlocks, api.MaxBlocks - 1, mostSeq}, {api.MaxBlocks, api.MaxBlocks - 2, 2, 1, 1}, {api.MaxBlocks, 1, api.MaxBlocks - 1, 300, 1 << 40},
	} {
		r, m := ring{newDevice(t, c.blocks), c.from, c.size}, mark{c.at, c.seq}
		j := r.opened(t, "at the bounds", m)
		appended(t, "at the bounds", j, "ab")
		r.stands(t, "at the bounds", j, m, "ab")
		r.crashed(t)
		r.opened(t, "at the bounds", m, "ab")
	}
}

func TestOpenWithoutPower(t *testing.T) {
	for _, size := range []int{2, 5, 20} {
		for at := range size {
			r := ring{newDevice(t, 20), 0, size}
			appended(t, "a string", r.opened(t, "Open", mark{at, 3}), "ab")
			r.d.Off()
			refused(t, r.d, 0, size, at, 3, api.ErrPower)
			refused(t, r.d, 0, size, 0, 9, api.ErrPower)
			r.d.On()
			r.opened(t, "the power is on again", mark{at, 3}, "ab")
		}
	}
}

func TestOpenTellsAllStringsInOrder(t *testing.T) {
	for _, size := range []int{2, 3, 7, 16} {
		for at := range size {
			for _, first := range someLengths() {
				r, m := made(t, size), mark{at, uint64(at*7 + 1)}
				check := r.others(t)
				j := r.opened(t, "a new device", m)
				held := []string{}
				for n, length := range []int{first, 0, 481, first, 1, 960, 0} {
					s := text(n, length)
					if takes(s) > j.Free() {
						continue
					}
					appended(t, "there is room", j, s)
					held = append(held, s)
					r.stands(t, "appended", j, m, held...)
				}
				r.opened(t, "opened again", m, held...)
				r.crashed(t, 1, 1, 1, 1)
				r.opened(t, "behind a crash", m, held...)
				check("strings of many lengths")
			}
		}
	}
}

func TestStringsHaveEachOfTheirBytes(t *testing.T) {
	r, m := made(t, 40), mark{33, 5}
	sealed := func(kind uint8, body string) string {
		b, e := block.Seal(kind, []byte(body))
		if e != api.OK {
			t.Fatal("a sealed block: ", e)
		}
		return string(b)
	}
	held := []string{
		strings.Repeat("\x00", 480), strings.Repeat("\x00", 481), strings.Repeat("\xff", 961), "\x00", "\xff", "same", "same", "",
		sealed(1, "ab"), sealed(2, ""), sealed(255, strings.Repeat("x", 505)), sealed(1, "")[:480],
	}
	j := r.opened(t, "Open", m)
	appended(t, "bytes of all kinds", j, held...)
	// The journal's own blocks, as they stand, are bytes like others.
	for _, k := range []int{36, 3, 5} {
		b, _ := r.d.Read(k)
		held = append(held, string(b))
		appended(t, "a block of its own", j, string(b))
	}
	r.opened(t, "bytes of all kinds", m, held...)
}

func TestWhatIsFoundGoesOn(t *testing.T) {
	r, m := made(t, 12), mark{9, 100}
	held := []string{}
	for n, length := range []int{0, 481, 480, 3, 1} {
		j := r.opened(t, "as it was left", m, held...)
		appended(t, "behind what was found", j, text(n, length))
		held = append(held, text(n, length))
		r.stands(t, "behind what was found", j, m, held...)
		r.opened(t, "opened", m, held...)
		r.opened(t, "opened twice", m, held...)
	}
	told(t, "P5.2: one more than there is room for", r.opened(t, "full but one", m, held...).Append(nil), api.ErrFull)
}

func TestOpenWithAMarkThatNothingBeganAt(t *testing.T) {
	held := []string{"a", text(1, 700), "", text(2, 480)}
	lay := func() (ring, mark) {
		r, m := made(t, 12), mark{7, 20}
		appended(t, "strings", r.opened(t, "Open", m), held...)
		return r, m
	}
	r, m := lay()
	began := map[mark]bool{}
	for n := range len(held) + 1 {
		began[r.behind(m, held[:n]...)] = true
	}
	for at := range r.size {
		for _, seq := range []uint64{1, 2, 19, 20, 21, 22, 23, 24, 25, 19 + 1<<32, 20 + 1<<32, 20 + 1<<8, 20 + 1<<16, mostSeq - 1, mostSeq} {
			if !began[mark{at, seq}] {
				r.opened(t, "a mark that nothing began at", mark{at, seq})
			}
		}
	}
	r.opened(t, "behind all", r.behind(m, held...))
	r.opened(t, "its own mark", m, held...)
}

func TestAJournalOnBlocksThatAnotherOneHad(t *testing.T) {
	for at := range 9 {
		for _, seq := range []uint64{50, 1 << 40, mostSeq} {
			r, m := made(t, 9), mark{at, seq}
			was := []string{"a", text(1, 900), ""}
			appended(t, "the one that was", r.opened(t, "Open", mark{4, 20}), was...)
			j := r.opened(t, "a number that was never used", m)
			held := []string{}
			for n, length := range []int{480, 0, 1000} {
				appended(t, "the one that is", j, text(n, length))
				held = append(held, text(n, length))
				r.opened(t, "the one that is", m, held...)
			}
		}
	}
}

func TestOpenOfBlocksThatNoJournalWrote(t *testing.T) {
	dice := rand.New(rand.NewSource(5))
	fills := []func(k int) []byte{
		func(k int) []byte { return []byte(text(k, api.BlockSize)) },
		func(k int) []byte { return bytes.Repeat([]byte{0xff}, api.BlockSize) },
	}
	for _, body := range []string{"", "\x00", strings.Repeat("\x00", 480), strings.Repeat("\x00", 505), strings.Repeat("\xff", 505), text(1, 22), text(2, 505)} {
		for kind := range 255 {
			fills = append(fills, func(int) []byte {
				b, _ := block.Seal(uint8(kind+1), []byte(body))
				return b
			})
		}
	}
	for range 200 {
		fills = append(fills, func(int) []byte {
			b, _ := block.Seal(uint8(1+dice.Intn(6)), []byte(text(dice.Intn(9999), dice.Intn(506))))
			return b
		})
	}
	for _, fill := range fills {
		r, m := made(t, 4), mark{1, 1}
		for k := range r.size {
			told(t, "a block", r.d.Write(r.from+k, fill(k)), api.OK)
		}
		r.d.Flush()
		j := r.opened(t, "blocks that no journal wrote", m)
		appended(t, "blocks that no journal wrote", j, "ab")
		r.opened(t, "blocks that no journal wrote", m, "ab")
	}
}

func TestOfTwoOfOneMarkTheLastOneHolds(t *testing.T) {
	r, m := made(t, 9), mark{6, 2}
	first, last := r.opened(t, "the first one", m), r.opened(t, "the last one", m)
	appended(t, "the first one", first, text(1, 1500))
	appended(t, "the last one", last, "ab")
	r.opened(t, "the last one's", m, "ab")
}

// P5.2

func TestAppendOfJustWhatIsFree(t *testing.T) {
	for size := 2; size < 9; size++ {
		for ahead := 0; ahead < size; ahead++ {
			if ahead == 1 {
				continue // no string takes one block
			}
			for at := range size {
				r, m := made(t, size), mark{at, 1}
				check := r.others(t)
				j, held := r.opened(t, "Open", m), []string{}
				if ahead > 0 {
					held = append(held, text(1, 480*(ahead-1)))
					appended(t, "what is ahead", j, held...)
				}
				most := 480 * (size - ahead - 1) // of one byte more it takes a block more
				for _, more := range []int{1, 2, 480, 481, 5000} {
					told(t, "P5.2: more than is Free", j.Append(make([]byte, most+more)), api.ErrFull)
					r.stands(t, "more than is Free", j, m, held...)
				}
				if most > 0 {
					appended(t, "just what is Free", j, text(2, most))
					held = append(held, text(2, most))
				}
				for _, length := range []int{0, 1, 480, 481, 5000} {
					if size-taken(held) < 2 {
						told(t, "P5.2: nothing is Free", j.Append(make([]byte, length)), api.ErrFull)
					}
				}
				r.stands(t, "just what is Free", j, m, held...)
				r.crashed(t)
				r.opened(t, "just what is Free", m, held...)
				check("just what is Free")
			}
		}
	}
}

func TestAppendThatIsRefusedTurnsNothing(t *testing.T) {
	r, m := made(t, 6), mark{5, 9}
	j := r.opened(t, "Open", m)
	appended(t, "a string", j, "ab")
	r.d.Arm(0)
	told(t, "P5.2: ErrFull is not counted by the device", j.Append(make([]byte, 1441)), api.ErrFull)
	if !r.d.Power() {
		t.Error("P5.2: the power went at an Append that is refused")
	}
	r.d.Off()
	told(t, "P5.2: ErrFull without power", j.Append(make([]byte, 1441)), api.ErrFull)
	r.crashed(t, 1, 1, 1, 1)
	r.stands(t, "refused", j, m, "ab")
	appended(t, "what was refused is not dead", j, "cd")
	appended(t, "up to the last block", j, "ef")
	r.opened(t, "refused", m, "ab", "cd", "ef")
}

func TestAJournalOfTwoBlocks(t *testing.T) {
	for at := range 2 {
		r, m := made(t, 2), mark{at, 1}
		j := r.opened(t, "Open", m)
		for n, length := range []int{480, 0, 1, 480} {
			told(t, "P5.2: of 481 bytes", j.Append(make([]byte, 481)), api.ErrFull)
			appended(t, "two blocks", j, text(n, length))
			told(t, "P5.2: nothing is Free", j.Append(nil), api.ErrFull)
			r.opened(t, "two blocks", m, text(n, length))
			told(t, "P5.3: Forget", j.Forget(), api.OK)
			m = r.behind(m, text(n, length))
			r.stands(t, "two blocks, forgotten", j, m)
			r.opened(t, "two blocks, forgotten", m)
		}
	}
}

func TestWhatIsAppendedIsSure(t *testing.T) {
	for _, length := range someLengths() {
		for pick := range 3 {
			r, m := made(t, 8), mark{6, 3}
			j := r.opened(t, "Open", m)
			appended(t, "sure", j, text(1, length))
			r.crashed(t, pick, pick, pick, pick)
			r.opened(t, "sure", m, text(1, length))
			appended(t, "sure, and not dead", j, "b") // the power went, but in no call of this journal
			r.crashed(t)
			r.opened(t, "sure", m, text(1, length), "b")
		}
	}
}

// armed appends a string while the device is armed, and answers what Append did.
func armed(j *journal.Journal, d *device.Device, n int, s string) api.Errno {
	d.Arm(n)
	e := j.Append([]byte(s))
	d.Arm(-1)
	return e
}

func TestAppendWritesFlushesWritesOneBlockMoreAndFlushes(t *testing.T) {
	blocks := func(r ring) []string {
		l := []string{}
		for k := range r.size {
			b, _ := r.d.Read(r.from + k)
			l = append(l, string(b))
		}
		return l
	}
	for _, length := range someLengths() {
		s := text(1, length)
		last := takes(s) + 1 // the last call: each block is written, and two times all is flushed
		left := func(n int, picks ...int) []string {
			r := made(t, 8)
			j := r.opened(t, "Open", mark{6, 3})
			told(t, "P5.2: the power goes", armed(j, r.d, n, s), api.ErrPower)
			r.crashed(t, picks...)
			return blocks(r)
		}
		if !slices.Equal(left(last-1), left(last-1, 1, 1, 1, 1, 1)) {
			t.Errorf("P5.2: of %d bytes: the power goes where one block more is to be written: others are loose", length)
		}
		differ := 0
		lost, kept := left(last), left(last, 1, 1, 1, 1, 1)
		for k := range lost {
			if lost[k] != kept[k] {
				differ++
			}
		}
		if differ != 1 {
			t.Errorf("P5.2: of %d bytes: the power goes at the last flush: %d blocks are loose", length, differ)
		}
		r := made(t, 8)
		told(t, "P5.2: armed for all of it", armed(r.opened(t, "Open", mark{6, 3}), r.d, last+1, s), api.OK)
	}
}

func TestADeadJournal(t *testing.T) {
	for n := range 5 {
		for _, off := range []bool{false, true} {
			r, m := made(t, 9), mark{7, 3}
			j := r.opened(t, "Open", m)
			appended(t, "ahead", j, "ab")
			if off {
				r.d.Off()
				told(t, "P5.2: without power", j.Append([]byte(text(1, 700))), api.ErrPower)
			} else {
				told(t, "P5.2: the power goes", armed(j, r.d, n, text(1, 700)), api.ErrPower)
			}
			dead := func(what string) {
				t.Helper()
				told(t, "P5.2: "+what+": Append", j.Append(nil), api.ErrState)
				told(t, "P5.2: "+what+": Append of too much", j.Append(make([]byte, 10000)), api.ErrState)
				told(t, "P5.3: "+what+": Forget", j.Forget(), api.ErrState)
				r.stands(t, what, j, m, "ab")
			}
			dead("dead, without power")
			r.crashed(t)
			dead("dead, with power")
			k := r.opened(t, "another one", m, "ab")
			appended(t, "another one", k, "cd")
			dead("dead, beside another one")
			r.opened(t, "another one", m, "ab", "cd")
		}
	}
}

// P5.3

func TestMarkGoesOnAroundTheRing(t *testing.T) {
	r := made(t, 7)
	j := r.opened(t, "Open", mark{5, mostSeq})
	is := func(at int, seq uint64, free int) {
		t.Helper()
		if a, s := j.Mark(); a != at || s != seq || j.Free() != free {
			t.Errorf("P5.3: Mark %d, %d, Free %d and not %d, %d, %d", a, s, j.Free(), at, seq, free)
		}
	}
	is(5, mostSeq, 7)
	appended(t, "up to the ring's end", j, "ab")
	is(0, mostSeq+1, 5)
	appended(t, "at the ring's beginning", j, text(1, 481))
	is(3, mostSeq+2, 2)
	told(t, "P5.3: Forget", j.Forget(), api.OK)
	is(3, mostSeq+2, 7)
	appended(t, "over the ring's end", j, text(1, 1441))
	is(1, mostSeq+3, 2)
	appended(t, "up to where it began", j, "")
	is(3, mostSeq+4, 0)
	told(t, "P5.3: Forget", j.Forget(), api.OK)
	told(t, "P5.3: Forget of nothing", j.Forget(), api.OK)
	is(3, mostSeq+4, 7)
	appended(t, "all of the ring", j, text(1, 2880))
	is(3, mostSeq+5, 0)
}

func TestForgetHoldsNothingAnyMore(t *testing.T) {
	r, old := made(t, 9), mark{8, 6}
	j := r.opened(t, "Open", old)
	told(t, "P5.3: Forget of nothing", j.Forget(), api.OK)
	r.stands(t, "nothing is forgotten", j, old)
	appended(t, "strings", j, "ab", text(1, 700))
	told(t, "P5.3: Forget", j.Forget(), api.OK)
	m := r.behind(old, "ab", text(1, 700))
	r.stands(t, "forgotten", j, m)
	r.opened(t, "the mark of Forget", m)
	r.opened(t, "what was ahead of Forget still stands while nothing is written", old, "ab", text(1, 700))
	appended(t, "behind Forget", j, "", "cd")
	r.stands(t, "behind Forget", j, m, "", "cd")
	r.crashed(t)
	r.opened(t, "the mark of Forget", m, "", "cd")
	told(t, "P5.3: Forget again", j.Forget(), api.OK)
	r.opened(t, "the mark of the last Forget", r.behind(m, "", "cd"))
}

func TestForgetWithoutPower(t *testing.T) {
	r, m := made(t, 9), mark{1, 1}
	j := r.opened(t, "Open", m)
	appended(t, "a string", j, "ab")
	r.d.Off()
	told(t, "P5.3: Forget without power", j.Forget(), api.OK)
	r.stands(t, "forgotten without power", j, r.behind(m, "ab"))
	r.d.On()
	r.opened(t, "forgotten without power", r.behind(m, "ab"))
	appended(t, "forgotten without power", j, "cd")
	r.opened(t, "forgotten without power", r.behind(m, "ab"), "cd")
}

func TestWhatWasForgottenDoesNotComeBack(t *testing.T) {
	for size := 2; size < 8; size++ {
		r, m := made(t, size), mark{size - 1, 1}
		check := r.others(t)
		j := r.opened(t, "Open", m)
		for lap := range 40 {
			held := []string{}
			for n, length := range []int{480 * (lap % 3), lap, 0} {
				s := text(lap+n, length)
				if takes(s) <= j.Free() && n <= lap%4 {
					appended(t, "a lap", j, s)
					held = append(held, s)
				}
				r.opened(t, "a lap", m, held...)
			}
			m = r.behind(m, held...)
			told(t, "P5.3: Forget", j.Forget(), api.OK)
			r.opened(t, "a lap that is forgotten", m)
			if lap%5 == 4 {
				j = r.opened(t, "a lap that is forgotten", m)
			}
		}
		check("laps")
	}
}

// P5.4

// past is what was done on a ring before the power goes: the mark of the beginning, and what is held.
type past func(t *testing.T, r ring, at int) (m mark, held []string)

func empty(t *testing.T, r ring, at int) (m mark, held []string) { return mark{at, 4}, nil }

func someHeld(t *testing.T, r ring, at int) (m mark, held []string) {
	m, held = mark{at, 4}, []string{"a", text(1, 480)}
	appended(t, "held", r.opened(t, "Open", m), held...)
	return m, held
}

// forgotten has its ring full of what was forgotten.
func forgotten(t *testing.T, r ring, at int) (m mark, held []string) {
	m = mark{at, 1}
	j := r.opened(t, "Open", m)
	for n := range 7 {
		appended(t, "forgotten", j, text(n, 480*(n%4)), text(n, n))
		m = r.behind(m, text(n, 480*(n%4)), text(n, n))
		told(t, "P5.3: Forget", j.Forget(), api.OK)
	}
	return m, nil
}

func forgottenAndHeld(t *testing.T, r ring, at int) (m mark, held []string) {
	m, _ = forgotten(t, r, at)
	held = []string{text(9, 481)}
	appended(t, "held", r.opened(t, "Open", m), held...)
	return m, held
}

// tornAt has a string that was under way when the power went, at the n-th call, and of which all was kept that was written.
func tornAt(n int) past {
	return func(t *testing.T, r ring, at int) (mark, []string) {
		m, held := mark{at, 4}, []string{"a"}
		j := r.opened(t, "Open", m)
		appended(t, "held", j, held...)
		told(t, "P5.2: torn", armed(j, r.d, n, text(8, 1440)), api.ErrPower)
		r.crashed(t, 1, 1, 1, 1, 1, 1)
		_, l := r.open(t, "torn", m)
		if !slices.Equal(l, held) && !slices.Equal(l, append(held, text(8, 1440))) {
			t.Fatalf("P5.4: torn: %.12q", l)
		}
		return m, l
	}
}

// choices are all lists of so many picks that are 0 or 1.
func choices(n int) [][]int {
	l := [][]int{nil}
	for range n {
		more := [][]int{}
		for _, c := range l {
			more = append(more, append(slices.Clone(c), 0), append(slices.Clone(c), 1))
		}
		l = more
	}
	return l
}

// found opens twice what the power went in, and answers what is told: what was held, and perhaps, or surely, what was under way.
func (r ring) found(t *testing.T, what string, m mark, held []string, s string, sure bool) (*journal.Journal, []string) {
	t.Helper()
	j, l := r.open(t, what, m)
	whole := append(slices.Clone(held), s)
	if !slices.Equal(l, whole) && (sure || !slices.Equal(l, held)) {
		t.Fatalf("P5.4: %s: %.12q, and not %.12q with %.12q", what, l, held, s)
	}
	r.stands(t, what, j, m, l...)
	return r.opened(t, "P5.4: "+what+", opened twice", m, l...), l
}

// tried lets the power go at the n-th call of an Append, and answers whether it was done with less.
func (r ring) tried(t *testing.T, before past, at, n int, s string, picks []int) bool {
	t.Helper()
	m, held := before(t, r, at)
	check := r.others(t)
	j, _ := r.open(t, "before", m)
	if takes(s) > j.Free() {
		return true
	}
	e := armed(j, r.d, n, s)
	if e != api.OK && e != api.ErrPower {
		t.Fatalf("P5.2: Append: %d", e)
	}
	r.crashed(t, picks...)
	j, l := r.found(t, "the power went", m, held, s, e == api.OK)
	// What is appended next stands behind what was found, shorter or longer than what was under way.
	for k, length := range []int{1, 481, 0} {
		if next := text(k, length); takes(next) <= j.Free() {
			appended(t, "behind a crash", j, next)
			l = append(l, next)
		}
	}
	r.crashed(t)
	r.opened(t, "what was appended behind a crash", m, l...)
	check("the power went")
	return e == api.OK
}

func TestThePowerGoesAtEachWriteAndFlush(t *testing.T) {
	for _, before := range []past{empty, someHeld, forgotten, forgottenAndHeld, tornAt(2), tornAt(4), tornAt(5)} {
		for _, at := range []int{0, 5, 8} {
			for _, length := range []int{0, 480, 481, 1440} {
				s := text(3, length)
				done := false
				for n := 0; !done; n++ {
					if n > 20 {
						t.Fatal("P5.2: an Append does not end")
					}
					for _, picks := range choices(min(n, takes(s))) {
						done = made(t, 9).tried(t, before, at, n, s, picks)
					}
				}
			}
		}
	}
}

func TestThePowerGoesInTheLastStringThatThereIsRoomFor(t *testing.T) {
	for size := 2; size < 6; size++ {
		for at := range size {
			s := text(4, 480*(size-1))
			for n := range size + 3 {
				for _, picks := range choices(min(n, size)) {
					made(t, size).tried(t, empty, at, n, s, picks)
				}
			}
		}
	}
}

func TestThePowerGoesAgainAndAgain(t *testing.T) {
	dice := rand.New(rand.NewSource(6))
	for range 60 {
		r, m := made(t, 3+dice.Intn(7)), mark{0, 1}
		j, held := r.opened(t, "Open", m), []string{}
		for n := range 40 {
			s := text(n, dice.Intn(480*(r.size-1)))
			if takes(s) > j.Free() {
				told(t, "P5.3: Forget", j.Forget(), api.OK)
				m, held = r.behind(m, held...), nil
			}
			e := armed(j, r.d, dice.Intn(takes(s)+4), s)
			r.crashed(t, dice.Perm(2*r.size)...)
			j, held = r.found(t, "again and again", m, held, s, e == api.OK)
		}
	}
}

func TestThePowerGoesBehindForget(t *testing.T) {
	for n := range 6 {
		for _, picks := range choices(3) {
			r := made(t, 9)
			m, held := forgottenAndHeld(t, r, 2)
			j := r.opened(t, "Open", m, held...)
			told(t, "P5.3: Forget", j.Forget(), api.OK)
			// The old mark may be all that whoever opens it knows of.
			r.crashed(t, picks...)
			r.opened(t, "the mark ahead of Forget", m, held...)
			m = r.behind(m, held...)
			e := armed(j, r.d, n, text(1, 700))
			r.crashed(t, picks...)
			r.found(t, "behind Forget", m, nil, text(1, 700), e == api.OK)
		}
	}
}

// R1 to R5

func TestCallsOfNoJournal(t *testing.T) {
	var none *journal.Journal
	told(t, "R4: Append", none.Append([]byte("ab")), api.ErrNil)
	told(t, "R4: Append of nothing", none.Append(nil), api.ErrNil)
	told(t, "R4: Append of much", none.Append(make([]byte, 1<<20)), api.ErrNil)
	told(t, "R4: Forget", none.Forget(), api.ErrNil)
	if at, seq := none.Mark(); at != 0 || seq != 0 {
		t.Errorf("P5.3: Mark of no journal: %d, %d", at, seq)
	}
	if none.Free() != 0 {
		t.Errorf("P5.2: Free of no journal: %d", none.Free())
	}
}

func TestJournalsOfOneDeviceShareNothing(t *testing.T) {
	d := newDevice(t, 14)
	one, other := ring{d, 2, 5}, ring{d, 7, 5}
	m, n := mark{4, 1}, mark{0, 1}
	j, k := one.opened(t, "one", m), other.opened(t, "the other", n)
	held, others := []string{}, []string{}
	for i, length := range []int{0, 481} {
		appended(t, "one", j, text(i, length))
		held = append(held, text(i, length))
		other.opened(t, "the other", n, others...)
		appended(t, "the other", k, text(i+9, length))
		others = append(others, text(i+9, length))
		one.opened(t, "one", m, held...)
	}
	told(t, "P5.3: Forget", j.Forget(), api.OK)
	other.opened(t, "the other", n, others...)
	other.stands(t, "the other", k, n, others...)
}

func TestNothingHandedInIsKeptOrChanged(t *testing.T) {
	for _, length := range someLengths() {
		r, m := made(t, 8), mark{6, 3}
		j := r.opened(t, "Open", m)
		s := text(1, length)
		whole := []byte(s + strings.Repeat("#", 600))
		told(t, "P5.2: Append", j.Append(whole[:length]), api.OK) // there is room behind its end
		if string(whole) != s+strings.Repeat("#", 600) {
			t.Errorf("R3: Append of %d bytes: what was handed in is changed", length)
		}
		for i := range whole {
			whole[i] ^= 0xff
		}
		r.opened(t, "R3: what was handed in is kept", m, s)
		appended(t, "behind it", j, "b")
		r.opened(t, "R3: what was handed in is kept", m, s, "b")
	}
}

func TestNothingHandedOutIsShared(t *testing.T) {
	r, m := made(t, 20), mark{15, 3}
	held := []string{}
	j := r.opened(t, "Open", m)
	for n, length := range []int{0, 3, 480, 481, 1440} {
		held = append(held, text(n, length))
	}
	appended(t, "strings", j, held...)
	_, one, _ := journal.Open(r.d, r.from, r.size, m.at, m.seq)
	k, other, _ := journal.Open(r.d, r.from, r.size, m.at, m.seq)
	for i, b := range one {
		b = b[:cap(b)]
		for n := range b {
			b[n] ^= 0xff
		}
		for n := range one {
			if n > i && string(one[n]) != held[n] {
				t.Errorf("R3: strings %d and %d share their memory", i, n)
			}
		}
	}
	if !slices.Equal(strs(other), held) {
		t.Error("R3: two of Open share their memory")
	}
	clear(other)
	r.stands(t, "R3: its list is cleared", k, m, held...)
	appended(t, "R3: its list is cleared", k, "b")
	r.opened(t, "R3: its list is cleared", m, append(held, "b")...)
}

// Whole walks, held against a list of strings.

type walk struct {
	t     *testing.T
	r     ring
	j     *journal.Journal
	begin mark
	held  []string
	n     int // each string has bytes of its own
}

func (w *walk) next(length int) string {
	w.n++
	return text(w.n, length)
}

// append appends a string, and lets the power go at the n-th call, if n is not below 0.
func (w *walk) append(length, n int, picks []int) {
	s := w.next(length)
	want := api.OK
	if takes(s) > w.r.size-taken(w.held) {
		want = api.ErrFull
	}
	w.r.d.Arm(n)
	e := w.j.Append([]byte(s))
	if n >= 0 && e == api.ErrPower && want == api.OK {
		told(w.t, "P5.2: Append, dead", w.j.Append(nil), api.ErrState)
		told(w.t, "P5.3: Forget, dead", w.j.Forget(), api.ErrState)
		w.r.stands(w.t, "dead", w.j, w.begin, w.held...)
		w.r.crashed(w.t, picks...)
		w.j, w.held = w.r.found(w.t, "a walk", w.begin, w.held, s, false)
		return
	}
	w.r.d.Arm(-1)
	told(w.t, "P5.2: Append", e, want)
	if want == api.OK {
		w.held = append(w.held, s)
	}
}

func (w *walk) forget() {
	told(w.t, "P5.3: Forget", w.j.Forget(), api.OK)
	w.begin = w.r.behind(w.begin, w.held...)
	w.held = nil
}

// walked does what a list of bytes tells, and looks behind each call.
func walked(t *testing.T, size, at int, calls []byte) {
	w := &walk{t: t, r: made(t, size), begin: mark{at % size, 1}}
	check := w.r.others(t)
	w.j = w.r.opened(t, "a walk", w.begin)
	take := func() int {
		if len(calls) == 0 {
			return 0
		}
		n := int(calls[0])
		calls = calls[1:]
		return n
	}
	for len(calls) > 0 {
		switch take() % 8 {
		case 0:
			w.forget()
		case 1:
			w.r.crashed(t, take(), take())
		case 2:
			w.j = w.r.opened(t, "a walk, opened again", w.begin, w.held...)
		case 3, 4:
			w.append(take()*take()%(480*size), -1, nil)
		case 5:
			w.append(480*(take()%size), -1, nil)
		default:
			picks := []int{take() % 2, take() % 2, take() % 2, take() % 2}
			w.append(take()*take()%(480*size), take()%(size+4), picks)
		}
		w.r.stands(t, "a walk", w.j, w.begin, w.held...)
		w.r.opened(t, "a walk", w.begin, w.held...)
	}
	check("a walk")
}

func TestWalksOfManyCalls(t *testing.T) {
	dice := rand.New(rand.NewSource(7))
	for range 200 {
		calls := make([]byte, 20+dice.Intn(200))
		dice.Read(calls)
		walked(t, 2+dice.Intn(9), dice.Intn(9), calls)
	}
}

func FuzzJournal(f *testing.F) {
	f.Add(uint8(4), uint8(3), []byte("\x03\x01\x01\x05\x02\x00\x06\x01\x01\x01\x01\x20\x20\x04\x02\x03\x01\x01"))
	f.Add(uint8(0), uint8(1), []byte("\x05\x01\x06\x00\x01\x00\x00\x01\x01\x02\x00\x05\x00\x01\x01\x01"))
	f.Fuzz(func(t *testing.T, size, at uint8, calls []byte) {
		walked(t, 2+int(size)%10, int(at), calls)
	})
}
