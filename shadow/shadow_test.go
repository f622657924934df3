package shadow_test

import (
	"bytes"
	"math"
	"math/rand"
	"strconv"
	"strings"
	"testing"

	"gablet/api"
	"gablet/block"
	"gablet/crc"
	"gablet/device"
	"gablet/shadow"
)

// mostGen is the greatest generation.
const mostGen = uint64(1) << 62

// newDevice answers a device that is on, or ends the test.
func newDevice(t *testing.T, blocks int) *device.Device {
	t.Helper()
	d, e := device.New(blocks)
	if e != api.OK {
		t.Fatalf("a device of %d blocks: %d", blocks, e)
	}
	return d
}

// text are bytes of a length, others for each n, and the same each time.
func text(n, length int) string {
	b := make([]byte, length)
	rand.New(rand.NewSource(int64(10000*n + length))).Read(b)
	return string(b)
}

// laid is a block of a kind and a body, as chapter 4 tells it.
func laid(kind byte, body string) []byte {
	b := make([]byte, 508)
	b[0], b[1], b[2] = kind, byte(len(body)/256), byte(len(body)%256)
	copy(b[3:], body)
	return summed(b)
}

// summed are the 508 bytes ahead and their sum, the lowest first.
func summed(ahead []byte) []byte {
	if len(ahead) != 508 {
		panic("the test's own bytes are not 508")
	}
	sum := crc.Sum(ahead)
	return append(bytes.Clone(ahead), byte(sum), byte(sum>>8), byte(sum>>16), byte(sum>>24))
}

// number are the 8 bytes of a generation, the highest first.
func number(gen uint64) string {
	b := make([]byte, 8)
	for i := 7; i >= 0; i-- {
		b[i] = byte(gen % 256)
		gen /= 256
	}
	return string(b)
}

// rootBlock is the block of a root.
func rootBlock(gen uint64, body string) []byte { return laid(1, number(gen)+body) }

// own is the number of a root's block.
func own(gen uint64) int {
	if gen&1 == 1 {
		return 1
	}
	return 0
}

// told holds an error against the one that is wanted.
func told(t *testing.T, what string, got, want api.Errno) {
	t.Helper()
	if got != want {
		t.Errorf("%s: %d and not %d", what, got, want)
	}
}

// saved saves a root that may be saved.
func saved(t *testing.T, what string, d *device.Device, gen uint64, body string) {
	t.Helper()
	told(t, "P8.1: "+what+": Save", shadow.Save(d, gen, []byte(body)), api.OK)
}

// loaded holds what Load tells against what it is to tell.
func loaded(t *testing.T, what string, d *device.Device, gen uint64, body string, want api.Errno) {
	t.Helper()
	if g, b, e := shadow.Load(d); g != gen || string(b) != body || e != want {
		t.Errorf("P8.2: %s: Load %d, %d bytes %.8q, %d and not %d, %d bytes %.8q, %d", what, g, len(b), b, e, gen, len(body), body, want)
	}
}

// written writes a block, loose.
func written(t *testing.T, d *device.Device, k int, b []byte) {
	t.Helper()
	told(t, "the test's own Write", d.Write(k, b), api.OK)
}

// stands holds a block against what is to stand there.
func stands(t *testing.T, what string, d *device.Device, k int, want []byte) {
	t.Helper()
	if b, e := d.Read(k); !bytes.Equal(b, want) || e != api.OK {
		t.Errorf("%s: block %d: %.16x, %d and not %.16x", what, k, b, e, want)
	}
}

// crashed turns the power off, if it is on, and on.
func crashed(t *testing.T, d *device.Device, picks ...int) {
	t.Helper()
	if d.Power() {
		told(t, "Off", d.Off(), api.OK)
	}
	told(t, "On", d.On(picks...), api.OK)
}

// full is a block of a letter.
func full(c byte) []byte { return bytes.Repeat([]byte{c}, api.BlockSize) }

// someGens are generations: the edges, and those whose bytes are about to be more.
func someGens() []uint64 {
	return []uint64{1, 2, 3, 4, 5, 127, 128, 254, 255, 256, 257, 258, 65535, 65536, 65537, 1<<31 - 1, 1 << 31, 1<<32 - 1, 1 << 32, 1<<32 + 1, 0x0102030405060708, 0x0807060504030201, 1<<61 - 1, 1 << 61, mostGen - 2, mostGen - 1, mostGen}
}

// noGens are numbers that no generation is.
func noGens() []uint64 {
	return []uint64{0, mostGen + 1, mostGen + 2, mostGen + 3, mostGen + 256, 1<<63 - 1, 1 << 63, 1<<63 + 1, math.MaxUint64 - 1, math.MaxUint64}
}

// someBodies are ordinary ones and those at the edges: none, noughts, of Most bytes and one less, one that looks like a root's block.
func someBodies() []string {
	l := []string{"", "\x00", "a", "ab", "a\x00\x00", "\x00a", strings.Repeat("\x00", 480), strings.Repeat("\xff", 480), string(rootBlock(9, "x")[:480])}
	for _, length := range []int{7, 8, 9, 100, 247, 248, 255, 256, 479, 480} {
		l = append(l, text(1, length))
	}
	return l
}

// tooLong are lengths that no body has: next to Most, those that a sealed block still has room for and those that it has not, and those that two bytes or one would take for a shorter one.
func tooLong() []int {
	return []int{481, 482, 488, 489, 496, 497, 498, 505, 506, 512, 513, 65535, 65536, 65537, 65536 + 480, 1 << 20}
}

func TestNumbersThatAreGiven(t *testing.T) {
	if api.ErrArg != 1 || api.ErrNil != 2 || api.ErrNone != 4 || api.ErrMany != 6 || api.ErrPower != 8 || api.OK != 0 {
		t.Error("the errors' numbers")
	}
	if shadow.Most != 480 || api.BlockSize != 512 || api.MaxBlocks != 4096 {
		t.Error("the limits")
	}
}

func TestTheChaptersExamples(t *testing.T) {
	d := newDevice(t, 2)
	loaded(t, "at first", d, 0, "", api.ErrNone)
	saved(t, "the first", d, 1, "a")
	saved(t, "the second", d, 2, "b")
	loaded(t, "of two", d, 2, "b", api.OK)
	told(t, "Arm(1)", d.Arm(1), api.OK)
	told(t, "P8.1: Save 3", shadow.Save(d, 3, []byte("c")), api.ErrPower)
	told(t, "On", d.On(), api.OK)
	loaded(t, "behind On", d, 2, "b", api.OK)
	told(t, "P8.1: Save 0", shadow.Save(d, 0, nil), api.ErrArg)
	told(t, "P8.1: Save 3 of 481 bytes", shadow.Save(d, 3, make([]byte, 481)), api.ErrMany)
	loaded(t, "at last", d, 2, "b", api.OK)
}

// P8.1

func TestSaveWritesTheRootsBlockAlone(t *testing.T) {
	for _, blocks := range []int{2, 3, 7, 4096} {
		for _, gen := range someGens() {
			d := newDevice(t, blocks)
			look := min(blocks, 7)
			for k := range look {
				written(t, d, k, full('o'))
			}
			saved(t, "a root", d, gen, "body")
			for k := range look {
				want := full('o')
				if k == own(gen) {
					want = rootBlock(gen, "body")
				}
				stands(t, "P8.1: a root", d, k, want)
			}
		}
	}
}

func TestSaveOfBlocksWhoseBytesAreKnown(t *testing.T) {
	d := newDevice(t, 2)
	saved(t, "258", d, 258, "xy")
	stands(t, "P8.1: 258", d, 0, []byte("\x01\x00\x0a\x00\x00\x00\x00\x00\x00\x01\x02xy"+strings.Repeat("\x00", 495)+"\x9d\xcf\xfe\x33"))
	saved(t, "2^62 - 1", d, mostGen-1, strings.Repeat("q", 480))
	stands(t, "P8.1: 2^62 - 1", d, 1, []byte("\x01\x01\xe8\x3f\xff\xff\xff\xff\xff\xff\xff"+strings.Repeat("q", 480)+strings.Repeat("\x00", 17)+"\xf8\x8e\x4a\x20"))
}

func TestSaveOfEachLength(t *testing.T) {
	d := newDevice(t, 2)
	for length := range 481 {
		gen, body := uint64(length+1), text(2, length)
		saved(t, "each length", d, gen, body)
		stands(t, "P8.1: each length", d, own(gen), rootBlock(gen, body))
		loaded(t, "each length", d, gen, body, api.OK)
	}
	for _, body := range someBodies() {
		for _, gen := range someGens() {
			d = newDevice(t, 2)
			saved(t, "some bodies", d, gen, body)
			stands(t, "P8.1: some bodies", d, own(gen), rootBlock(gen, body))
			loaded(t, "some bodies", d, gen, body, api.OK)
		}
	}
	told(t, "P8.1: Save of nil", shadow.Save(d, 1, nil), api.OK)
	stands(t, "P8.1: nil", d, 1, rootBlock(1, ""))
	// The room behind the end is no part of the body.
	told(t, "P8.1: Save with room behind", shadow.Save(d, 3, make([]byte, 480, 4096)), api.OK)
	stands(t, "P8.1: room behind", d, 1, rootBlock(3, strings.Repeat("\x00", 480)))
}

func TestSaveFlushesTheDevice(t *testing.T) {
	for _, gen := range someGens() {
		d := newDevice(t, 5)
		written(t, d, 1-own(gen), full('n'))
		written(t, d, 4, full('x'))
		saved(t, "a root", d, gen, "body")
		crashed(t, d)
		stands(t, "P8.1: behind a flush", d, own(gen), rootBlock(gen, "body"))
		stands(t, "P8.1: behind a flush", d, 1-own(gen), full('n'))
		stands(t, "P8.1: behind a flush", d, 4, full('x'))
		loaded(t, "behind a flush", d, gen, "body", api.OK)
	}
}

func TestSaveIsOneWriteAndThenOneFlush(t *testing.T) {
	d := newDevice(t, 3)
	saved(t, "the first", d, 4, "a")
	told(t, "Arm(2)", d.Arm(2), api.OK)
	saved(t, "armed with 2", d, 5, "b")
	told(t, "Write behind both", d.Write(2, full('x')), api.ErrPower)
	crashed(t, d)
	loaded(t, "behind both", d, 5, "b", api.OK)

	told(t, "Arm(0)", d.Arm(0), api.OK)
	told(t, "P8.1: Save armed with 0", shadow.Save(d, 6, []byte("c")), api.ErrPower)
	if d.Power() {
		t.Error("P8.1: Save armed with 0 writes nothing")
	}
	crashed(t, d, 1, 1, 1) // nothing is loose, so nothing can be picked
	stands(t, "P8.1: not written", d, 0, rootBlock(4, "a"))

	told(t, "Arm(1)", d.Arm(1), api.OK)
	told(t, "P8.1: Save armed with 1", shadow.Save(d, 6, []byte("c")), api.ErrPower)
	if d.Power() {
		t.Error("P8.1: Save armed with 1 flushes nothing")
	}
	crashed(t, d, 1)
	stands(t, "P8.1: written", d, 0, rootBlock(6, "c"))
}

func TestSaveAgainWritesOver(t *testing.T) {
	d := newDevice(t, 2)
	saved(t, "a long one", d, 8, text(3, 480))
	saved(t, "a short one", d, 8, "s")
	stands(t, "P8.1: the same generation", d, 0, rootBlock(8, "s"))
	loaded(t, "the same generation", d, 8, "s", api.OK)
	saved(t, "a lesser one", d, 6, "less")
	stands(t, "P8.1: a lesser generation", d, 0, rootBlock(6, "less"))
	loaded(t, "a lesser generation", d, 6, "less", api.OK)
	saved(t, "a greater one", d, 10, "more")
	loaded(t, "a greater generation", d, 10, "more", api.OK)
}

// refusal is the error of a Save by the order that the chapter tells; OK, if there is none.
func refusal(blocks int, on bool, gen uint64, length int) api.Errno {
	switch {
	case gen < 1, gen > mostGen, blocks < 2:
		return api.ErrArg
	case length > 480:
		return api.ErrMany
	case !on:
		return api.ErrPower
	}
	return api.OK
}

func TestWhatSaveRefuses(t *testing.T) {
	lengths := append(tooLong(), 0, 1, 479, 480)
	for _, gen := range append(noGens(), someGens()...) {
		for _, length := range lengths {
			body := make([]byte, length)
			told(t, "P8.1: Save on no device", shadow.Save(nil, gen, body), api.ErrNil)
			for _, blocks := range []int{1, 2, 3} {
				for _, on := range []bool{true, false} {
					d := newDevice(t, blocks)
					if !on {
						d.Off()
					}
					if e, want := shadow.Save(d, gen, body), refusal(blocks, on, gen, length); e != want {
						t.Errorf("P8.1: Save %d of %d bytes on %d blocks, on %v: %d and not %d", gen, length, blocks, on, e, want)
					}
					if d.Power() != on {
						t.Error("P8.1: Save turned the power")
					}
				}
			}
		}
	}
}

func TestWhatIsRefusedTurnsNothing(t *testing.T) {
	for _, c := range []struct {
		blocks int
		gen    uint64
		length int
	}{{4, 0, 1}, {4, mostGen + 1, 1}, {4, mostGen + 2, 0}, {4, math.MaxUint64, 480}, {4, 2, 481}, {4, 3, 481}, {4, 2, 497}, {4, 3, 498}, {4, 0, 481}, {1, 2, 1}, {1, 1, 1}, {1, 2, 481}} {
		d := newDevice(t, c.blocks)
		for k := range c.blocks {
			written(t, d, k, full('s'))
		}
		told(t, "Flush", d.Flush(), api.OK)
		written(t, d, 0, full('l'))
		told(t, "Arm(1)", d.Arm(1), api.OK)
		told(t, "P8.1: a refused Save", shadow.Save(d, c.gen, make([]byte, c.length)), refusal(c.blocks, true, c.gen, c.length))
		stands(t, "R2: a refused Save", d, 0, full('l'))
		for k := 1; k < c.blocks; k++ {
			stands(t, "R2: a refused Save", d, k, full('s'))
		}
		told(t, "R2: the one Write that is armed", d.Write(0, full('m')), api.OK)
		told(t, "R2: the power goes behind it", d.Flush(), api.ErrPower)
		crashed(t, d)
		stands(t, "R2: what was loose is not flushed", d, 0, full('s'))
	}
}

func TestSaveWithoutPowerTurnsNothing(t *testing.T) {
	d := newDevice(t, 2)
	saved(t, "the first", d, 1, "a")
	written(t, d, 0, full('l'))
	told(t, "Off", d.Off(), api.OK)
	told(t, "P8.1: Save", shadow.Save(d, 3, []byte("c")), api.ErrPower)
	told(t, "P8.1: Save", shadow.Save(d, 2, []byte("b")), api.ErrPower)
	crashed(t, d, 1, 1)
	stands(t, "R2: one thing is loose, and it alone", d, 0, full('l'))
	stands(t, "R2: nothing is loose", d, 1, rootBlock(1, "a"))
}

// P8.2

// noRoots are blocks that are none of a root which could stand in the block k.
func noRoots(k int) map[string][]byte {
	gen := uint64(10 + k)
	root := rootBlock(gen, "no")
	l := map[string][]byte{
		"noughts": make([]byte, 512), "ones": full(0xff), "a letter": full('x'),
		"noughts with their sum":            summed(make([]byte, 508)),
		"a generation of 4 bytes":           laid(1, string([]byte{0, 0, 0, byte(gen)})),
		"a generation, the lowest first":    laid(1, string([]byte{byte(gen), 0, 0, 0, 0, 0, 0, byte(1 - k)})),
		"noughts from the middle on":        append(root[:5:5], make([]byte, 507)...),
		"another one's end":                 append(root[:256:256], rootBlock(gen, text(9, 480))[256:]...),
		"another sum":                       append(root[:508:508], "gone"...),
		"a byte behind the body, its sum":   summed(turned(root[:508], 3+8+2, 1)),
		"a body that ends ahead, its sum":   summed(turned(root[:508], 2, 2)),
		"a length beyond the room, its sum": summed(turned(root[:508], 1, 0x80)),
	}
	for kind := range 256 {
		if kind != 1 {
			l["kind "+strconv.Itoa(kind)] = laid(byte(kind), number(gen)+"no")
		}
	}
	for length := range 8 {
		l["bytes of a number, "+strconv.Itoa(length)] = laid(1, number(gen)[8-length:])
		l["first bytes of a number, "+strconv.Itoa(length)] = laid(1, number(gen << 8)[:length])
	}
	for length := 481; length <= 497; length++ {
		l["a body of "+strconv.Itoa(length)] = rootBlock(gen, text(4, length))
	}
	for _, no := range noGens() {
		l["no generation, "+strconv.FormatUint(no, 10)] = rootBlock(no, "no")
	}
	for _, other := range someGens() {
		if own(other) != k {
			l["the other block's, "+strconv.FormatUint(other, 10)] = rootBlock(other, "no")
		}
	}
	for at := range 512 {
		l["turned at "+strconv.Itoa(at)] = turned(root, at, 0x10)
	}
	return l
}

// turned are the bytes with some bits of one turned.
func turned(b []byte, at int, bits byte) []byte {
	out := bytes.Clone(b)
	out[at] ^= bits
	return out
}

func TestLoadOfBlocksThatAreNoRoots(t *testing.T) {
	d := newDevice(t, 2)
	for what0, no0 := range noRoots(0) {
		written(t, d, 0, no0)
		written(t, d, 1, make([]byte, 512))
		loaded(t, "block 0 "+what0, d, 0, "", api.ErrNone)
		for _, gen := range []uint64{1, 3, 11, mostGen - 1} {
			written(t, d, 1, rootBlock(gen, "yes"))
			loaded(t, "block 0 "+what0+", a root in block 1", d, gen, "yes", api.OK)
		}
	}
	for what1, no1 := range noRoots(1) {
		written(t, d, 0, make([]byte, 512))
		written(t, d, 1, no1)
		loaded(t, "block 1 "+what1, d, 0, "", api.ErrNone)
		for _, gen := range []uint64{2, 4, 10, mostGen} {
			written(t, d, 0, rootBlock(gen, "yes"))
			loaded(t, "block 1 "+what1+", a root in block 0", d, gen, "yes", api.OK)
		}
	}
	for _, no0 := range noRoots(0) {
		for what1, no1 := range map[string][]byte{"noughts": make([]byte, 512), "the other's": rootBlock(2, "no"), "too long": rootBlock(3, text(5, 481)), "no generation": rootBlock(mostGen+1, "no")} {
			written(t, d, 0, no0)
			written(t, d, 1, no1)
			loaded(t, "no root in both, block 1 "+what1, d, 0, "", api.ErrNone)
		}
	}
}

func TestLoadOfEachRootAlone(t *testing.T) {
	for _, gen := range someGens() {
		for _, body := range someBodies() {
			d := newDevice(t, 2)
			written(t, d, own(gen), rootBlock(gen, body))
			loaded(t, "a root alone", d, gen, body, api.OK)
			d = newDevice(t, 2)
			written(t, d, 1-own(gen), rootBlock(gen, body))
			loaded(t, "a root in the other block", d, 0, "", api.ErrNone)
		}
	}
	for length := range 498 {
		for k, gen := range []uint64{mostGen, mostGen - 1} {
			d := newDevice(t, 2)
			written(t, d, k, rootBlock(gen, text(6, length)))
			if length <= 480 {
				loaded(t, "each length", d, gen, text(6, length), api.OK)
			} else {
				loaded(t, "each length that is too long", d, 0, "", api.ErrNone)
			}
		}
	}
}

func TestLoadOfTwoRootsTellsTheGreater(t *testing.T) {
	for _, even := range someGens() {
		for _, odd := range someGens() {
			if own(even) != 0 || own(odd) != 1 {
				continue
			}
			// Neither the bodies nor which was written last says which is told.
			for _, bodies := range [][2]string{{"even", "odd"}, {"", text(7, 480)}, {text(7, 480), ""}, {"z", "a"}} {
				gen, body := even, bodies[0]
				if odd > even {
					gen, body = odd, bodies[1]
				}
				d := newDevice(t, 3)
				written(t, d, 0, rootBlock(even, bodies[0]))
				written(t, d, 1, rootBlock(odd, bodies[1]))
				loaded(t, "block 1 written last", d, gen, body, api.OK)
				d = newDevice(t, 3)
				saved(t, "odd", d, odd, bodies[1])
				saved(t, "even", d, even, bodies[0])
				loaded(t, "block 0 written last", d, gen, body, api.OK)
			}
		}
	}
}

func TestLoadLooksAtNoOtherBlocks(t *testing.T) {
	d := newDevice(t, 8)
	for k := 2; k < 8; k++ {
		written(t, d, k, rootBlock(mostGen-8+uint64(k), "no"))
	}
	loaded(t, "roots in other blocks", d, 0, "", api.ErrNone)
	saved(t, "a root", d, 1, "yes")
	loaded(t, "roots in other blocks", d, 1, "yes", api.OK)
	saved(t, "a root", d, 2, "yes")
	loaded(t, "roots in other blocks", d, 2, "yes", api.OK)
}

func TestLoadTellsWhatStandsThere(t *testing.T) {
	d := newDevice(t, 2)
	saved(t, "the first", d, 1, "a")
	saved(t, "the second", d, 2, "b")
	written(t, d, 1, rootBlock(3, "c"))
	loaded(t, "loose", d, 3, "c", api.OK)
	written(t, d, 1, rootBlock(1, "d"))
	loaded(t, "loose, written last", d, 2, "b", api.OK)
	written(t, d, 0, full('x'))
	loaded(t, "loose, and no root", d, 1, "d", api.OK)
	crashed(t, d)
	loaded(t, "lost", d, 2, "b", api.OK)
}

func TestWhatLoadRefuses(t *testing.T) {
	loaded(t, "no device", nil, 0, "", api.ErrNil)
	for _, blocks := range []int{1, 2, 3, 4096} {
		d := newDevice(t, blocks)
		want := api.ErrNone
		if blocks < 2 {
			want = api.ErrArg
		}
		loaded(t, "a new device", d, 0, "", want)
		told(t, "Off", d.Off(), api.OK)
		loaded(t, "a device that is off", d, 0, "", api.ErrPower)
		crashed(t, d)
		loaded(t, "a device that is on again", d, 0, "", want)
	}
	d := newDevice(t, 1)
	written(t, d, 0, rootBlock(2, "no"))
	loaded(t, "a root on 1 block", d, 0, "", api.ErrArg)
	d = newDevice(t, 2)
	saved(t, "a root", d, 1, "a")
	saved(t, "a root", d, 2, "b")
	told(t, "Off", d.Off(), api.OK)
	loaded(t, "roots on a device that is off", d, 0, "", api.ErrPower)
}

func TestLoadTurnsNothing(t *testing.T) {
	d := newDevice(t, 3)
	saved(t, "the first", d, 1, "a")
	saved(t, "the second", d, 2, "b")
	written(t, d, 1, rootBlock(3, "c"))
	told(t, "Arm(1)", d.Arm(1), api.OK)
	for range 5 {
		loaded(t, "again and again", d, 3, "c", api.OK)
	}
	told(t, "R2: the one Write that is armed", d.Write(2, full('x')), api.OK)
	told(t, "R2: the power goes behind it", d.Flush(), api.ErrPower)
	crashed(t, d)
	stands(t, "R2: what was loose is not flushed", d, 1, rootBlock(1, "a"))
	loaded(t, "behind the crash", d, 2, "b", api.OK)

	d = newDevice(t, 2)
	told(t, "Arm(0)", d.Arm(0), api.OK)
	for range 5 {
		loaded(t, "nothing there", d, 0, "", api.ErrNone)
	}
	if !d.Power() {
		t.Error("R2: Load let the power go")
	}
}

// P8.3

// before are the ways in which a device may stand ahead of both Saves, of which the first is of gen.
func before(t *testing.T, gen uint64) map[string]*device.Device {
	t.Helper()
	l := map[string]*device.Device{}
	for _, what := range []string{"noughts", "no roots", "the one ahead", "two ahead", "loose things", "the next one, spoilt"} {
		l[what] = newDevice(t, 5)
	}
	for k := range 2 {
		written(t, l["no roots"], k, full('x'))
		written(t, l["loose things"], k, full('y'))
		written(t, l["loose things"], k+2, full('z'))
	}
	l["no roots"].Flush()
	if gen > 1 {
		saved(t, "the one ahead", l["the one ahead"], gen-1, "ahead")
		saved(t, "the one ahead", l["two ahead"], gen-1, "ahead")
	}
	if gen > 2 {
		saved(t, "two ahead", l["two ahead"], gen-2, text(8, 480))
	}
	written(t, l["the next one, spoilt"], own(gen+1), turned(rootBlock(gen+1, "spoilt"), 400, 1))
	return l
}

// goes saves one root and the next, the power going behind so many Writes and Flushes of the second one, and answers what that one answered.
func goes(t *testing.T, what string, d *device.Device, gen uint64, one, next string, behind int) api.Errno {
	t.Helper()
	saved(t, what, d, gen, one)
	loaded(t, what, d, gen, one, api.OK)
	told(t, "Arm", d.Arm(behind), api.OK)
	e := shadow.Save(d, gen+1, []byte(next))
	want := api.OK
	if behind < 2 {
		want = api.ErrPower
	}
	told(t, "P8.1: "+what+": Save of the next one", e, want)
	if e != api.OK {
		loaded(t, what+", off", d, 0, "", api.ErrPower)
	}
	return e
}

func TestWhereverThePowerGoesInASave(t *testing.T) {
	picks := [][]int{nil, {0}, {1}, {2}, {-1}, {0, 1}, {1, 0}, {3, 3, 3}, {math.MaxInt}, {math.MinInt}}
	for _, gen := range someGens() {
		if gen == mostGen {
			continue
		}
		for _, bodies := range [][2]string{{"one", "next"}, {"", ""}, {text(8, 480), "n"}, {"o", text(9, 480)}, {"same", "same"}} {
			for behind := range 3 {
				for _, pick := range picks {
					for what, d := range before(t, gen) {
						e := goes(t, what, d, gen, bodies[0], bodies[1], behind)
						crashed(t, d, pick...)
						g, body := gen, bodies[0]
						// Of what is loose, which is the block of the next one, the first pick tells; a pick modulo 2, for one thing is.
						if e == api.OK || behind == 1 && len(pick) > 0 && pick[0] > 0 && pick[0]%2 == 1 {
							g, body = gen+1, bodies[1]
						}
						loaded(t, "P8.3: "+what, d, g, body, api.OK)
						loaded(t, "P8.3: "+what+", loaded again", d, g, body, api.OK)
						crashed(t, d, 1, 1, 1)
						loaded(t, "P8.3: "+what+", behind another crash", d, g, body, api.OK)
						if g < mostGen {
							saved(t, what+", one more", d, g+1, "more")
							crashed(t, d)
							loaded(t, "P8.3: "+what+", one more", d, g+1, "more", api.OK)
						}
					}
				}
			}
		}
	}
}

func TestOffBehindASaveLosesNothing(t *testing.T) {
	for _, gen := range someGens() {
		d := newDevice(t, 2)
		saved(t, "a root", d, gen, "body")
		crashed(t, d)
		loaded(t, "P8.3: Off behind a Save", d, gen, "body", api.OK)
	}
}

// kept is a root that the test keeps beside the device.
type kept struct {
	gen  uint64
	body string
}

// TestManySavesAndCrashes saves the next one of what is loaded, again and again, the power going where it will.
func TestManySavesAndCrashes(t *testing.T) {
	for seed := range 40 {
		dice := rand.New(rand.NewSource(int64(seed)))
		d := newDevice(t, 2+dice.Intn(3))
		at := kept{uint64(1 + dice.Int63n(1<<40)), "first"}
		saved(t, "the first", d, at.gen, at.body)
		lost, found := 0, 0
		for range 300 {
			next := kept{at.gen + 1, text(dice.Intn(1000), dice.Intn(481))}
			d.Arm(dice.Intn(4))
			e := shadow.Save(d, next.gen, []byte(next.body))
			if e == api.OK {
				loaded(t, "P8.3: saved", d, next.gen, next.body, api.OK)
			}
			crashed(t, d, dice.Intn(4), dice.Intn(4))
			g, b, f := shadow.Load(d)
			if g == next.gen && string(b) == next.body && f == api.OK {
				found++
				at = next
			} else if e == api.OK {
				t.Fatalf("P8.3: Save of %d was answered OK; Load tells %d, %d", next.gen, g, f)
			} else {
				lost++
			}
			loaded(t, "P8.3: the one or the other", d, at.gen, at.body, api.OK)
		}
		if lost < 20 || found < 20 {
			t.Errorf("the test's own crashes: %d lost, %d found", lost, found)
		}
	}
}

// greaterOf tells, by a way of its own, which root two blocks have; false, if none.
func greaterOf(b0, b1 []byte) (r kept, is bool) {
	for k, b := range [][]byte{b0, b1} {
		kind, body, e := block.Open(b)
		if e != api.OK || kind != 1 || len(body) < 8 {
			continue
		}
		gen := uint64(0)
		for _, one := range body[:8] {
			gen = 256*gen + uint64(one)
		}
		one := kept{gen, string(body[8:])}
		if gen == 0 || gen > mostGen || own(gen) != k || !bytes.Equal(rootBlock(gen, one.body), b) || len(one.body) > 480 {
			continue
		}
		if !is || gen > r.gen {
			r, is = one, true
		}
	}
	return r, is
}

// holds checks that Load tells what stands in both blocks.
func holds(t *testing.T, what string, d *device.Device) {
	t.Helper()
	if !d.Power() {
		loaded(t, what, d, 0, "", api.ErrPower)
		return
	}
	b0, _ := d.Read(0)
	b1, _ := d.Read(1)
	if r, is := greaterOf(b0, b1); is {
		loaded(t, what, d, r.gen, r.body, api.OK)
	} else {
		loaded(t, what, d, 0, "", api.ErrNone)
	}
}

func TestAnyCallsInAnyOrder(t *testing.T) {
	gens := append(noGens(), 1, 2, 3, 4, 5, 6, 7, 8, 254, 255, 256, 257, mostGen-1, mostGen)
	for seed := range 60 {
		dice := rand.New(rand.NewSource(int64(1000 + seed)))
		d := newDevice(t, 3)
		for range 400 {
			gen := gens[dice.Intn(len(gens))]
			body := text(dice.Intn(9), dice.Intn(484))
			switch dice.Intn(7) {
			case 0, 1, 2:
				want := refusal(3, d.Power(), gen, len(body))
				e := shadow.Save(d, gen, []byte(body))
				if e != want && !(want == api.OK && e == api.ErrPower && !d.Power()) {
					t.Errorf("P8.1: Save %d of %d bytes: %d and not %d", gen, len(body), e, want)
				}
				if e == api.OK {
					stands(t, "P8.1: any Save", d, own(gen), rootBlock(gen, body))
				}
			case 3:
				d.Write(dice.Intn(3), rootBlock(gen, body))
			case 4:
				d.Write(dice.Intn(3), laid(byte(dice.Intn(3)), number(gen)[:dice.Intn(9)]))
			case 5:
				d.Arm(dice.Intn(5))
			case 6:
				crashed(t, d, dice.Intn(3), dice.Intn(3), dice.Intn(3))
			}
			holds(t, "any calls", d)
		}
	}
}

// R3 and R5

func TestSaveKeepsAndChangesNothing(t *testing.T) {
	for _, body := range append(someBodies(), text(10, 481)) {
		for _, gen := range []uint64{0, 1, 2, mostGen, mostGen + 1} {
			d := newDevice(t, 2)
			whole := []byte(body + strings.Repeat("#", 64))
			was := string(whole)
			e := shadow.Save(d, gen, whole[:len(body)])
			if string(whole) != was {
				t.Errorf("R3: Save %d of %d bytes changed what was handed in", gen, len(body))
			}
			for i := range whole {
				whole[i] ^= 0xff
			}
			if e == api.OK {
				stands(t, "R3: Save kept what was handed in", d, own(gen), rootBlock(gen, body))
				loaded(t, "R3: Save kept what was handed in", d, gen, body, api.OK)
			}
		}
	}
}

func TestLoadSharesNothing(t *testing.T) {
	for _, body := range someBodies() {
		for _, gen := range []uint64{1, 2, mostGen} {
			d := newDevice(t, 2)
			saved(t, "a root", d, gen, body)
			_, one, _ := shadow.Load(d)
			_, other, _ := shadow.Load(d)
			one = one[:cap(one)]
			for i := range one {
				one[i] ^= 0xff
			}
			if string(other) != body {
				t.Errorf("R3: of %d bytes two answers share their memory", len(body))
			}
			loaded(t, "R3: what was answered is changed", d, gen, body, api.OK)
			stands(t, "R3: what was answered is changed", d, own(gen), rootBlock(gen, body))
		}
	}
}

func TestWhatIsAnsweredHangsOnTheDeviceAlone(t *testing.T) {
	one, other := newDevice(t, 2), newDevice(t, 2)
	saved(t, "on one device", one, 5, "one")
	loaded(t, "R5: another device", other, 0, "", api.ErrNone)
	saved(t, "on another", other, 2, "other")
	loaded(t, "R5: one device", one, 5, "one", api.OK)
	loaded(t, "R5: another device", other, 2, "other", api.OK)
	saved(t, "on both", one, 2, "other")
	saved(t, "on both", other, 5, "one")
	loaded(t, "R5: in the other order", one, 5, "one", api.OK)
	loaded(t, "R5: in the other order", other, 5, "one", api.OK)
}

func FuzzShadow(f *testing.F) {
	f.Add(uint64(1), []byte("a"), rootBlock(2, "b"), rootBlock(3, "c"), 1, 0)
	f.Add(uint64(0), make([]byte, 481), laid(1, "short"), full('x'), 0, 1)
	f.Add(mostGen, make([]byte, 480), rootBlock(mostGen-2, ""), rootBlock(mostGen-1, ""), 2, 2)
	f.Add(mostGen+1, []byte{}, []byte{1, 0, 8}, []byte{1, 1, 0xf9}, -1, -1)
	f.Fuzz(func(t *testing.T, gen uint64, body, b0, b1 []byte, armed, pick int) {
		d, was := newDevice(t, 2), string(body)
		for k, b := range [][]byte{b0, b1} {
			ahead := make([]byte, 508) // any bytes with their sum behind
			copy(ahead, b)
			written(t, d, k, summed(ahead))
		}
		told(t, "Flush", d.Flush(), api.OK)
		holds(t, "any blocks", d)
		told(t, "Arm", d.Arm(armed), api.OK)
		want := refusal(2, true, gen, len(body))
		if want == api.OK && (armed == 0 || armed == 1) {
			want = api.ErrPower
		}
		told(t, "P8.1: any Save", shadow.Save(d, gen, body), want)
		if want == api.OK {
			stands(t, "P8.1: any Save", d, own(gen), rootBlock(gen, was))
		}
		holds(t, "any Save", d)
		crashed(t, d, pick)
		holds(t, "any crash", d)
		if string(body) != was {
			t.Error("R3: what was handed in is changed")
		}
	})
}
