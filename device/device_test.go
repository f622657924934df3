package device_test

import (
	"bytes"
	"math"
	"math/rand"
	"slices"
	"testing"

	"gablet/api"
	"gablet/device"
)

// full are a block's bytes, all of them c.
func full(c byte) []byte { return bytes.Repeat([]byte{c}, api.BlockSize) }

// made answers a device that is on, or ends the test.
func made(t *testing.T, blocks int) *device.Device {
	t.Helper()
	d, e := device.New(blocks)
	if d == nil || e != api.OK {
		t.Fatalf("P3.1: New of %d: %d", blocks, e)
	}
	return d
}

// told holds an error against the one that is wanted.
func told(t *testing.T, what string, got, want api.Errno) {
	t.Helper()
	if got != want {
		t.Errorf("%s: %d and not %d", what, got, want)
	}
}

// stands checks that blocks 0, 1 and so on are full of these letters.
func stands(t *testing.T, what string, d *device.Device, letters string) {
	t.Helper()
	for k := range len(letters) {
		if b, e := d.Read(k); !bytes.Equal(b, full(letters[k])) || e != api.OK {
			t.Errorf("%s: block %d: %.4q (%d bytes), %d, and not %q", what, k, b, len(b), e, letters[k])
		}
	}
}

// written writes blocks, each full of a letter, and flushes nothing.
func written(t *testing.T, d *device.Device, k int, letters string) {
	t.Helper()
	for _, c := range []byte(letters) {
		told(t, "P3.2: Write", d.Write(k, full(c)), api.OK)
	}
}

// crashed turns the power off and on.
func crashed(t *testing.T, d *device.Device, picks ...int) {
	t.Helper()
	told(t, "P3.4: Off", d.Off(), api.OK)
	told(t, "P3.4: On", d.On(picks...), api.OK)
}

// wrongBlocks are numbers of which a device of so many blocks has none.
func wrongBlocks(blocks int) []int {
	return []int{-1, -2, -blocks, blocks, blocks + 1, 2 * blocks, 1 << 32, math.MaxInt, math.MaxInt - 1, math.MinInt, math.MinInt + 1}
}

// wrongBytes are lists that no block has.
func wrongBytes() [][]byte {
	whole := full('W')
	return [][]byte{nil, {}, {'W'}, whole[:api.BlockSize-1], append(full('W'), 'W'), append(full('W'), whole...), make([]byte, 0, api.BlockSize)}
}

func TestNumbersThatAreGiven(t *testing.T) {
	if api.ErrArg != 1 || api.ErrNil != 2 || api.ErrState != 3 || api.ErrPower != 8 || api.OK != 0 {
		t.Error("the errors' numbers")
	}
	if api.BlockSize != 512 || api.MaxBlocks != 4096 {
		t.Error("the limits")
	}
}

func TestTheChaptersExamples(t *testing.T) {
	d := made(t, 2)
	written(t, d, 0, "A")
	told(t, "Flush", d.Flush(), api.OK)
	written(t, d, 0, "BC")
	written(t, d, 1, "A")
	stands(t, "Read 0", d, "C")
	told(t, "Off", d.Off(), api.OK)
	if b, e := d.Read(0); len(b) != 0 || e != api.ErrPower {
		t.Errorf("Read 0: %.4q, %d", b, e)
	}
	told(t, "On(1, 0)", d.On(1, 0), api.OK)
	stands(t, "Read 0; Read 1", d, "B\x00")
	told(t, "Arm(1)", d.Arm(1), api.OK)
	told(t, "Write 0 A", d.Write(0, full('A')), api.OK)
	told(t, "Flush", d.Flush(), api.ErrPower)
	told(t, "Write 0 C", d.Write(0, full('C')), api.ErrPower)
	told(t, "On", d.On(), api.OK)
	stands(t, "Read 0", d, "B")
}

// P3.1

func TestNewIsADeviceOfNoughtsThatIsOn(t *testing.T) {
	for _, blocks := range []int{1, 2, 7, 442, api.MaxBlocks - 1, api.MaxBlocks} {
		d := made(t, blocks)
		if d.Size() != blocks || !d.Power() {
			t.Errorf("P3.1: of %d blocks: Size %d, Power %t", blocks, d.Size(), d.Power())
		}
		stands(t, "P3.1: noughts at first", d, string(make([]byte, blocks)))
		crashed(t, d, 1, 1, 1)
		stands(t, "P3.1: noughts that were not written", d, string(make([]byte, blocks)))
	}
}

func TestNewOfTooFewOrTooMany(t *testing.T) {
	for _, blocks := range []int{0, -1, -2, -api.MaxBlocks, api.MaxBlocks + 1, api.MaxBlocks + 2, 2 * api.MaxBlocks, 1 << 32, 1<<32 + 1, math.MaxInt, math.MinInt, math.MinInt + 1} {
		if d, e := device.New(blocks); d != nil || e != api.ErrArg {
			t.Errorf("P3.1: New of %d: %d", blocks, e)
		}
	}
}

func TestTheFirstAndTheLastBlockAreWritten(t *testing.T) {
	for _, blocks := range []int{1, 2, api.MaxBlocks} {
		d := made(t, blocks)
		want := make([]byte, blocks)
		want[0] = 'A'
		written(t, d, 0, "A")
		stands(t, "P3.2", d, string(want))
		want[blocks-1] = 'Z'
		written(t, d, blocks-1, "Z")
		stands(t, "P3.2", d, string(want))
		told(t, "P3.2: Flush", d.Flush(), api.OK)
		crashed(t, d)
		stands(t, "P3.5", d, string(want))
	}
}

func TestSizeStaysAndPowerTellsWhetherItIsOn(t *testing.T) {
	d := made(t, 3)
	is := func(what string, on bool) {
		t.Helper()
		if d.Size() != 3 || d.Power() != on {
			t.Errorf("P3.1: %s: Size %d, Power %t", what, d.Size(), d.Power())
		}
	}
	written(t, d, 2, "AB")
	is("written", true)
	d.Flush()
	is("flushed", true)
	d.Off()
	is("off", false)
	d.Off()
	is("off twice", false)
	d.On()
	is("on", true)
	d.On()
	is("on twice", true)
	d.Arm(0)
	is("armed", true)
	d.Flush()
	is("gone", false)
	d.On(1, 2)
	is("on again", true)
}

func TestDevicesShareNothing(t *testing.T) {
	one, other := made(t, 2), made(t, 2)
	written(t, one, 0, "A")
	one.Flush()
	written(t, one, 1, "B")
	one.Arm(0)
	told(t, "R5: another one's Flush", other.Flush(), api.OK)
	told(t, "P3.3: its own Flush", one.Flush(), api.ErrPower)
	if !other.Power() {
		t.Error("R5: another one's power went")
	}
	stands(t, "R5: another one's blocks", other, "\x00\x00")
}

func TestCallsOfNoDevice(t *testing.T) {
	var none *device.Device
	if none.Size() != 0 || none.Power() {
		t.Error("P3.1: Size or Power of no device")
	}
	for _, k := range append(wrongBlocks(1), 0, 1) {
		if b, e := none.Read(k); len(b) != 0 || e != api.ErrNil {
			t.Errorf("R4: Read %d: %d bytes, %d", k, len(b), e)
		}
		told(t, "R4: Write", none.Write(k, full('A')), api.ErrNil)
		told(t, "R4: Write of wrong bytes", none.Write(k, nil), api.ErrNil)
		told(t, "R4: Arm", none.Arm(k), api.ErrNil)
		told(t, "R4: On", none.On(k), api.ErrNil)
	}
	told(t, "R4: Flush", none.Flush(), api.ErrNil)
	told(t, "R4: Off", none.Off(), api.ErrNil)
	told(t, "R4: On", none.On(), api.ErrNil)
}

func TestADeviceThatNobodyMadeDoesNotPanic(t *testing.T) {
	d := new(device.Device)
	for range 2 {
		for _, k := range append(wrongBlocks(1), 0) {
			d.Arm(-1)
			d.Read(k)
			d.Write(k, full('A'))
			d.Arm(k)
		}
		d.Flush()
		d.Size()
		d.Power()
		d.Off()
		d.On(1, 2)
	}
}

// P3.2

func TestReadTellsWhatWasWrittenLast(t *testing.T) {
	d := made(t, 3)
	written(t, d, 1, "A")
	stands(t, "P3.2: written", d, "\x00A\x00")
	written(t, d, 1, "BC")
	stands(t, "P3.2: written over", d, "\x00C\x00")
	told(t, "P3.2: Flush", d.Flush(), api.OK)
	stands(t, "P3.2: flushed", d, "\x00C\x00")
	written(t, d, 0, "D")
	written(t, d, 1, "C\x00")
	stands(t, "P3.2: written over what is sure", d, "D\x00\x00")
}

func TestABlockHasEachOfItsBytes(t *testing.T) {
	d := made(t, 2)
	b := make([]byte, api.BlockSize)
	rand.New(rand.NewSource(1)).Read(b)
	has := func(what string) {
		t.Helper()
		if got, e := d.Read(1); !bytes.Equal(got, b) || e != api.OK {
			t.Errorf("%s: %d bytes, %d", what, len(got), e)
		}
	}
	told(t, "P3.2", d.Write(1, b), api.OK)
	has("P3.2: loose")
	crashed(t, d, 1)
	has("P3.4: picked")
	d.Flush()
	has("P3.2: sure")
}

func TestReadOfABlockThatIsNotThere(t *testing.T) {
	for _, blocks := range []int{1, 2, 5, api.MaxBlocks} {
		d := made(t, blocks)
		for _, k := range wrongBlocks(blocks) {
			if b, e := d.Read(k); len(b) != 0 || e != api.ErrArg {
				t.Errorf("P3.2: Read %d of %d blocks: %d bytes, %d", k, blocks, len(b), e)
			}
		}
	}
}

func TestWriteOfWrongArgumentsDoesNothing(t *testing.T) {
	for _, blocks := range []int{1, 2, 5} {
		d := made(t, blocks)
		for _, k := range wrongBlocks(blocks) {
			told(t, "P3.2: Write where no block is", d.Write(k, full('W')), api.ErrArg)
			for _, b := range wrongBytes() {
				told(t, "P3.2: Write of wrong bytes where no block is", d.Write(k, b), api.ErrArg)
			}
		}
		for k := range blocks {
			for _, b := range wrongBytes() {
				told(t, "P3.2: Write of wrong bytes", d.Write(k, b), api.ErrArg)
			}
		}
		stands(t, "P3.2: refused", d, string(make([]byte, blocks)))
		written(t, d, 0, "A")
		told(t, "P3.2: Write of wrong bytes", d.Write(0, full('W')[1:]), api.ErrArg)
		crashed(t, d, 2) // of one loose thing, so that 2 is 0: what was
		stands(t, "P3.2: what is refused is not loose", d, string(make([]byte, blocks)))
	}
}

func TestPowerIsToldAheadOfWrongArguments(t *testing.T) {
	d := made(t, 2)
	d.Off()
	for _, k := range append(wrongBlocks(2), 0, 1) {
		if b, e := d.Read(k); len(b) != 0 || e != api.ErrPower {
			t.Errorf("P3.2: Read %d while it is off: %d bytes, %d", k, len(b), e)
		}
		for _, b := range append(wrongBytes(), full('A')) {
			told(t, "P3.2: Write while it is off", d.Write(k, b), api.ErrPower)
		}
	}
}

func TestFlushMakesSureWhatWasWrittenLast(t *testing.T) {
	d := made(t, 3)
	told(t, "P3.2: Flush of nothing", d.Flush(), api.OK)
	written(t, d, 0, "ABC")
	written(t, d, 2, "D")
	told(t, "P3.2: Flush", d.Flush(), api.OK)
	told(t, "P3.2: Flush again", d.Flush(), api.OK)
	stands(t, "P3.2: flushed", d, "C\x00D")
	crashed(t, d, 1, 1, 1)
	stands(t, "P3.2: nothing is loose behind a Flush", d, "C\x00D")
	written(t, d, 2, "EF")
	crashed(t, d, 1) // block 0 has nothing loose: the pick is block 2's
	stands(t, "P3.4", d, "C\x00E")
}

// P3.3

// step does a Write, if n is even, else a Flush.
func step(d *device.Device, n int) api.Errno {
	if n%2 == 0 {
		return d.Write(n/2%d.Size(), full(byte('a'+n)))
	}
	return d.Flush()
}

func TestOfWhatIsArmedSoManyAreDone(t *testing.T) {
	for n := range 9 {
		for first := range 2 {
			d := made(t, 2)
			told(t, "P3.3: Arm", d.Arm(n), api.OK)
			for i := range n {
				told(t, "P3.3: one of the first", step(d, first+i), api.OK)
				if !d.Power() {
					t.Fatalf("P3.3: Arm(%d): the power went at %d", n, i)
				}
			}
			told(t, "P3.3: the next one", step(d, first+n), api.ErrPower)
			if d.Power() {
				t.Errorf("P3.3: Arm(%d): the power did not go", n)
			}
			told(t, "P3.3: the one behind it", step(d, first+n), api.ErrPower)
			told(t, "P3.3: the other one behind it", step(d, first+n+1), api.ErrPower)
		}
	}
}

func TestTheWriteAtWhichThePowerGoesDoesNothing(t *testing.T) {
	for pick, want := range []string{"A", "B", "C", "A", "B", "C"} { // were D loose too, 3 would be D, and 4 A
		d := made(t, 1)
		written(t, d, 0, "A")
		d.Flush()
		d.Arm(2)
		written(t, d, 0, "BC")
		told(t, "P3.3: Write", d.Write(0, full('D')), api.ErrPower)
		told(t, "P3.4: On", d.On(pick), api.OK)
		stands(t, "P3.3", d, want)
	}
}

func TestTheFlushAtWhichThePowerGoesDoesNothing(t *testing.T) {
	for pick, want := range []string{"A", "B", "C", "A", "B"} {
		d := made(t, 1)
		written(t, d, 0, "A")
		d.Flush()
		written(t, d, 0, "BC")
		d.Arm(0)
		told(t, "P3.3: Flush", d.Flush(), api.ErrPower)
		told(t, "P3.4: On", d.On(pick), api.OK)
		stands(t, "P3.3", d, want)
	}
}

func TestOnlyWhatWouldBeOKIsCounted(t *testing.T) {
	for n := range 3 {
		d := made(t, 2)
		d.Arm(n)
		others := func() {
			t.Helper()
			for _, k := range wrongBlocks(2) {
				told(t, "P3.3: Write where no block is", d.Write(k, full('W')), api.ErrArg)
			}
			for _, b := range wrongBytes() {
				told(t, "P3.3: Write of wrong bytes", d.Write(0, b), api.ErrArg)
			}
			d.Read(0)
			d.Read(-1)
			d.Size()
			told(t, "P3.4: On while it is on", d.On(1), api.ErrState)
			if !d.Power() {
				t.Error("P3.3: the power went at what is not counted")
			}
		}
		for i := range n {
			others()
			told(t, "P3.3: one of the first", step(d, i), api.OK)
		}
		others()
		told(t, "P3.3: the next one", step(d, n), api.ErrPower)
	}
}

func TestArmedAgainTheLastOneHolds(t *testing.T) {
	for _, c := range []struct {
		arms []int
		done int // below 0: all
	}{
		{nil, -1},
		{[]int{0, 2}, 2},
		{[]int{2, 0}, 0},
		{[]int{1, 1}, 1},
		{[]int{-1, 3}, 3},
		{[]int{0, -1}, -1},
		{[]int{5, -2}, -1},
		{[]int{0, math.MinInt}, -1},
		{[]int{0, math.MinInt + 1}, -1},
		{[]int{0, math.MaxInt}, -1},
		{[]int{math.MaxInt, 1}, 1},
		{[]int{math.MinInt, 0}, 0},
	} {
		d := made(t, 2)
		for _, n := range c.arms {
			told(t, "P3.3: Arm", d.Arm(n), api.OK)
		}
		for i := range 20 {
			want := api.OK
			if c.done >= 0 && i >= c.done {
				want = api.ErrPower
			}
			if e := step(d, i); e != want {
				t.Errorf("P3.3: Arm %v: call %d: %d and not %d", c.arms, i, e, want)
			}
		}
	}
}

func TestArmedAgainInTheMiddle(t *testing.T) {
	d := made(t, 1)
	d.Arm(3)
	written(t, d, 0, "AB")
	told(t, "P3.3: Arm", d.Arm(2), api.OK)
	written(t, d, 0, "CD")
	told(t, "P3.3: Write", d.Write(0, full('E')), api.ErrPower)
	d.On(4)
	stands(t, "P3.3", d, "D")
	d.Arm(2)
	written(t, d, 0, "F")
	told(t, "P3.3: Arm", d.Arm(-1), api.OK)
	written(t, d, 0, "GHIJ")
	told(t, "P3.3: Flush", d.Flush(), api.OK)
}

func TestArmWhileItIsOffArmsNothing(t *testing.T) {
	d := made(t, 1)
	d.Off()
	for _, n := range []int{0, 1, -1, math.MaxInt, math.MinInt} {
		told(t, "P3.3: Arm while it is off", d.Arm(n), api.ErrPower)
	}
	d.Arm(0)
	d.On()
	written(t, d, 0, "ABC")
	told(t, "P3.3: Flush", d.Flush(), api.OK)
}

func TestBehindOnNothingIsArmed(t *testing.T) {
	for n := range 4 {
		d := made(t, 1)
		d.Arm(n)
		crashed(t, d)
		written(t, d, 0, "ABCDE")
		told(t, "P3.3: Flush behind Off and On", d.Flush(), api.OK)
		d.Arm(n)
		for i := range n + 1 {
			step(d, i)
		}
		told(t, "P3.4: On", d.On(), api.OK)
		written(t, d, 0, "FGHIJ")
		told(t, "P3.3: Flush behind what was armed", d.Flush(), api.OK)
	}
}

// P3.4

func TestOffAndOnInTheWrongState(t *testing.T) {
	d := made(t, 1)
	written(t, d, 0, "AB")
	told(t, "P3.4: On while it is on", d.On(), api.ErrState)
	told(t, "P3.4: On while it is on", d.On(1), api.ErrState)
	stands(t, "P3.4: On that is refused", d, "B")
	told(t, "P3.4: Off", d.Off(), api.OK)
	told(t, "P3.4: Off while it is off", d.Off(), api.ErrPower)
	told(t, "P3.4: Off while it is off", d.Off(), api.ErrPower)
	told(t, "P3.2: Write while it is off", d.Write(0, full('C')), api.ErrPower)
	told(t, "P3.2: Flush while it is off", d.Flush(), api.ErrPower)
	told(t, "P3.4: On", d.On(5), api.OK) // of two loose things, so that 5 is 2
	stands(t, "P3.4: what is refused turns nothing", d, "B")
	told(t, "P3.4: On while it is on", d.On(0), api.ErrState)
	stands(t, "P3.4: On that is refused", d, "B")
}

func TestOnThatIsRefusedLeavesAllThatIsLoose(t *testing.T) {
	d := made(t, 1)
	written(t, d, 0, "ABC")
	told(t, "P3.4: On while it is on", d.On(2), api.ErrState)
	crashed(t, d, 1)
	stands(t, "P3.4", d, "A")
}

func TestEachPickOfEachNumberOfLooseThings(t *testing.T) {
	letters := "ABCDEF"
	for w := range len(letters) {
		things := "-" + letters[:w] // what was sure, and what is loose
		for _, pick := range []int{0, 1, 2, 3, 4, 5, 6, 7, 8, 12, 13, 100, 1 << 32, math.MaxInt, math.MaxInt - 1, -1, -2, -w - 1, math.MinInt, math.MinInt + 1} {
			d := made(t, 1)
			written(t, d, 0, "-")
			d.Flush()
			written(t, d, 0, letters[:w])
			crashed(t, d, pick)
			stands(t, "P3.4", d, string(things[max(pick, 0)%(w+1)]))
		}
	}
}

func TestPicksGoToBlocksRising(t *testing.T) {
	for _, c := range []struct {
		picks []int
		want  string
	}{
		{nil, "0123456"},
		{[]int{}, "0123456"},
		{[]int{1}, "0A23456"},
		{[]int{0, 1}, "012C456"},
		{[]int{0, 2}, "012D456"},
		{[]int{0, 0, 3}, "01234G6"},
		{[]int{1, 2, 3}, "0A2D4G6"},
		{[]int{2, 3, 4}, "0B23456"},
		{[]int{3, 4, 5}, "012C4E6"},
		{[]int{-1, 1, 1}, "012C4E6"},
		{[]int{1, -1, 1}, "0A234E6"},
		{[]int{1, -4, -7}, "0A23456"},
		{[]int{1, 2, 3, 4}, "0A2D4G6"},
		{[]int{0, 0, 0, 1, 2, 3, 4}, "0123456"},
	} {
		d := made(t, 7)
		for k := range 7 {
			written(t, d, k, string(rune('0'+k)))
		}
		d.Flush()
		// Blocks 1, 3 and 5 have 2, 2 and 3 loose things; they are written neither rising nor one by one.
		for _, w := range []struct {
			k int
			c string
		}{{5, "EF"}, {1, "A"}, {3, "C"}, {5, "G"}, {3, "D"}, {1, "B"}} {
			written(t, d, w.k, w.c)
		}
		picks := slices.Clone(c.picks)
		crashed(t, d, picks...)
		if !slices.Equal(picks, c.picks) {
			t.Errorf("R3: picks %v are now %v", c.picks, picks)
		}
		stands(t, "P3.4", d, c.want)
	}
}

func TestPicksOfManyBlocks(t *testing.T) {
	d := made(t, api.MaxBlocks)
	dice := rand.New(rand.NewSource(2))
	picks := make([]int, api.MaxBlocks)
	want := make([]byte, api.MaxBlocks)
	for _, k := range dice.Perm(api.MaxBlocks) {
		written(t, d, k, "AB")
		picks[k] = dice.Intn(3)
		want[k] = "\x00AB"[picks[k]]
	}
	crashed(t, d, picks...)
	stands(t, "P3.4", d, string(want))
}

func TestBehindOnNothingIsLoose(t *testing.T) {
	d := made(t, 2)
	written(t, d, 0, "ABC")
	written(t, d, 1, "D")
	crashed(t, d, 2, 0)
	stands(t, "P3.4", d, "B\x00")
	for _, pick := range []int{0, 1, 2, 3} {
		crashed(t, d, pick, pick)
		stands(t, "P3.4: to crash again turns nothing", d, "B\x00")
	}
	written(t, d, 1, "E")
	crashed(t, d, 1) // block 0 has nothing loose any more: the pick is block 1's
	stands(t, "P3.4", d, "BE")
	written(t, d, 0, "F")
	d.Flush()
	crashed(t, d)
	stands(t, "P3.4", d, "FE")
}

func TestTheSameBytesTwiceAreTwoThings(t *testing.T) {
	for pick, want := range []string{"A", "A", "A", "B", "A"} {
		d := made(t, 1)
		written(t, d, 0, "A")
		d.Flush()
		written(t, d, 0, "AAB")
		crashed(t, d, pick)
		stands(t, "P3.4", d, want)
	}
}

// P3.5

func TestWhatWasFlushedStays(t *testing.T) {
	for pick := range 4 {
		d := made(t, 4)
		for k, c := range []string{"A", "B", "C", "D"} {
			written(t, d, k, c)
		}
		d.Flush()
		for round := range 5 {
			written(t, d, 2, "xyz")
			d.Arm(0)
			if round%2 == 0 {
				told(t, "P3.3", d.Flush(), api.ErrPower)
			} else {
				told(t, "P3.3", d.Write(0, full('?')), api.ErrPower)
			}
			d.On(pick, pick, pick)
			stands(t, "P3.5: flushed, and not written since", d, "AB")
			if b, e := d.Read(3); !bytes.Equal(b, full('D')) || e != api.OK {
				t.Errorf("P3.5: flushed, and not written since: %.4q, %d", b, e)
			}
		}
	}
}

func TestEachBlockHasWhatWasSureOrOneOfItsThingsWhole(t *testing.T) {
	// "." is a Flush; any other letter is written, a small one to block 0, a great one to block 1.
	calls := "aB.cdEcF.gH"
	for n := range len(calls) + 1 {
		for pick := range 25 {
			d := made(t, 2)
			may := []string{"\x00", "\x00"} // of each block: what is sure, and what is loose
			d.Arm(n)
			for i, c := range []byte(calls) {
				want := api.OK
				if i >= n {
					want = api.ErrPower
				}
				if c == '.' {
					told(t, "P3.3: Flush", d.Flush(), want)
				} else {
					told(t, "P3.3: Write", d.Write(int(1-c>>5&1), full(c)), want)
				}
				for k := range may {
					switch {
					case i >= n:
					case c == '.':
						may[k] = may[k][len(may[k])-1:]
					case k == int(1-c>>5&1):
						may[k] += string(rune(c))
					}
				}
			}
			if n == len(calls) {
				d.Off()
			}
			told(t, "P3.4: On", d.On(pick%5, pick/5), api.OK)
			for k := range may {
				b, e := d.Read(k)
				if e != api.OK || len(b) == 0 || !bytes.Equal(b, full(b[0])) || !bytes.Contains([]byte(may[k]), b[:1]) {
					t.Errorf("P3.5: Arm(%d), picks %d and %d: block %d: %.4q, %d, and not of %q", n, pick%5, pick/5, k, b, e, may[k])
				}
			}
		}
	}
}

func TestWithNoPicksAllThatWasNotFlushedIsLost(t *testing.T) {
	d := made(t, 3)
	written(t, d, 0, "A")
	written(t, d, 1, "B")
	d.Flush()
	written(t, d, 0, "CD")
	written(t, d, 1, "E")
	written(t, d, 2, "F")
	crashed(t, d)
	stands(t, "P3.5", d, "AB\x00")
}

// R3

// turnAll turns every bit of a list, and of the room behind its end.
func turnAll(b []byte) {
	b = b[:cap(b)]
	for i := range b {
		b[i] ^= 0xff
	}
}

func TestNothingHandedInIsKeptOrChanged(t *testing.T) {
	d := made(t, 2)
	whole := append(full('A'), full('#')...)
	b := whole[:api.BlockSize] // there is room behind its end
	same := func(what string) {
		t.Helper()
		if !bytes.Equal(whole, append(full('A'), full('#')...)) {
			t.Errorf("R3: %s: what was handed in is changed", what)
		}
	}
	told(t, "P3.2", d.Write(0, b), api.OK)
	same("Write")
	turnAll(whole)
	stands(t, "R3: what was handed in is kept, loose", d, "A")
	d.Flush()
	stands(t, "R3: what was handed in is kept, sure", d, "A")

	turnAll(whole)
	told(t, "P3.2", d.Write(0, b), api.OK)
	told(t, "P3.2", d.Write(1, b), api.OK)
	turnAll(whole)
	crashed(t, d, 1, 1)
	stands(t, "R3: what was handed in is kept, picked", d, "AA")

	turnAll(whole)
	written(t, d, 0, "BC")
	d.Flush()
	written(t, d, 1, "D")
	crashed(t, d, 1)
	same("what was done later")
}

func TestNothingHandedOutIsShared(t *testing.T) {
	d := made(t, 3)
	check := func(what, letters string) {
		t.Helper()
		for k := range len(letters) {
			one, _ := d.Read(k)
			other, _ := d.Read(k)
			turnAll(one)
			if !bytes.Equal(other, full(letters[k])) {
				t.Errorf("R3: %s: two Reads of block %d share memory", what, k)
			}
		}
		stands(t, what, d, letters)
	}
	check("never written", "\x00\x00\x00")
	written(t, d, 0, "A")
	written(t, d, 1, "BC")
	check("loose", "AC\x00")
	d.Flush()
	check("sure", "AC\x00")
	written(t, d, 1, "DE")
	check("loose over sure", "AE\x00")
	crashed(t, d, 1)
	check("picked", "AD\x00")

	held, _ := d.Read(1)
	was := string(held)
	written(t, d, 1, "F")
	d.Flush()
	crashed(t, d)
	written(t, d, 1, "G")
	if string(held) != was {
		t.Error("R3: what was handed out is changed later")
	}
}

// Whole walks, held against a device that is told another way: of each block a list, what is sure first and what is loose behind it.

type walk struct {
	t      *testing.T
	d      *device.Device
	blocks [][]string
	off    bool
	armed  int
	next   int // what is written next: each Write has bytes of its own
}

// counted: would this Write or Flush be done, or does the power go?
func (w *walk) counted() api.Errno {
	if w.armed == 0 {
		w.off = true
		return api.ErrPower
	}
	w.armed = max(w.armed-1, -1)
	return api.OK
}

func (w *walk) write(k, length int) {
	w.next++
	b := bytes.Repeat([]byte{byte(w.next), byte(w.next >> 8), byte(k)}, api.BlockSize)[:length]
	want := api.OK
	switch {
	case w.off:
		want = api.ErrPower
	case k < 0 || k >= len(w.blocks) || length != api.BlockSize:
		want = api.ErrArg
	default:
		want = w.counted()
	}
	told(w.t, "P3.2, P3.3: Write", w.d.Write(k, b), want)
	if want == api.OK {
		w.blocks[k] = append(w.blocks[k], string(b))
	}
	turnAll(b)
}

func (w *walk) flush() {
	want := api.ErrPower
	if !w.off {
		want = w.counted()
	}
	told(w.t, "P3.2, P3.3: Flush", w.d.Flush(), want)
	if want == api.OK {
		for k, l := range w.blocks {
			w.blocks[k] = l[len(l)-1:]
		}
	}
}

func (w *walk) arm(n int) {
	if w.off {
		told(w.t, "P3.3: Arm while it is off", w.d.Arm(n), api.ErrPower)
		return
	}
	told(w.t, "P3.3: Arm", w.d.Arm(n), api.OK)
	w.armed = max(n, -1)
}

func (w *walk) turnOff() {
	want := api.OK
	if w.off {
		want = api.ErrPower
	}
	told(w.t, "P3.4: Off", w.d.Off(), want)
	w.off = true
}

func (w *walk) turnOn(picks []int) {
	if !w.off {
		told(w.t, "P3.4: On while it is on", w.d.On(picks...), api.ErrState)
		return
	}
	told(w.t, "P3.4: On", w.d.On(picks...), api.OK)
	w.off, w.armed = false, -1
	for k, l := range w.blocks {
		if len(l) == 1 {
			continue
		}
		pick := 0
		if len(picks) > 0 {
			pick, picks = max(picks[0], 0)%len(l), picks[1:]
		}
		w.blocks[k] = l[pick : pick+1]
	}
}

// look holds all that can be told of the device against the lists.
func (w *walk) look() {
	w.t.Helper()
	if w.d.Size() != len(w.blocks) || w.d.Power() == w.off {
		w.t.Fatalf("P3.1: Size %d, Power %t", w.d.Size(), w.d.Power())
	}
	for k, l := range w.blocks {
		b, e := w.d.Read(k)
		if w.off && (len(b) != 0 || e != api.ErrPower) {
			w.t.Fatalf("P3.2: Read %d while it is off: %d bytes, %d", k, len(b), e)
		}
		if !w.off && (string(b) != l[len(l)-1] || e != api.OK) {
			w.t.Fatalf("P3.2, P3.4: block %d: %.6x, %d, and not %.6x", k, b, e, l[len(l)-1])
		}
		turnAll(b)
	}
}

// walked does what a list of bytes tells, and looks behind each call.
func walked(t *testing.T, blocks int, calls []byte) {
	w := &walk{t: t, d: made(t, blocks), armed: -1}
	for range blocks {
		w.blocks = append(w.blocks, []string{string(full(0))})
	}
	take := func() int {
		if len(calls) == 0 {
			return 0
		}
		n := int(calls[0])
		calls = calls[1:]
		return n
	}
	for len(calls) > 0 {
		switch do := take() % 16; do {
		case 0:
			w.write(take()%(blocks+2)-1, api.BlockSize+take()%3-1)
		case 1, 2:
			w.flush()
		case 3:
			w.arm(take()%8 - 2)
		case 4:
			w.turnOff()
		case 5, 6:
			picks := make([]int, take()%(blocks+2))
			for i := range picks {
				picks[i] = take()%12 - 3
			}
			w.turnOn(picks)
		default:
			w.write(take()%blocks, api.BlockSize)
		}
		w.look()
	}
}

func TestWalksOfManyCalls(t *testing.T) {
	dice := rand.New(rand.NewSource(3))
	for range 400 {
		calls := make([]byte, 20+dice.Intn(300))
		dice.Read(calls)
		walked(t, 1+dice.Intn(6), calls)
	}
}

func FuzzDevice(f *testing.F) {
	f.Add(uint8(2), []byte("\x07\x00\x01\x07\x00\x07\x00\x07\x01\x04\x05\x02\x04\x03"))
	f.Add(uint8(1), []byte("\x03\x03\x07\x00\x01\x07\x00\x05\x00"))
	f.Fuzz(func(t *testing.T, blocks uint8, calls []byte) {
		walked(t, 1+int(blocks)%8, calls)
	})
}
