package crc_test

import (
	"bytes"
	"math"
	"math/rand"
	"strings"
	"testing"

	"gablet/crc"
)

// divided is the Sum told another way: the bits, the lowest of a byte first, with 32 noughts behind them, the first 32 turned, are divided by the polynomial as one does it on paper; the sum is what is left, turned.
func divided(b []byte) uint32 {
	bits := make([]bool, 8*len(b)+32)
	for i := range 8 * len(b) {
		bits[i] = b[i/8]>>(i%8)&1 == 1
	}
	for i := range 32 {
		bits[i] = !bits[i]
	}
	for i := range 8 * len(b) {
		if bits[i] {
			for k, c := range "100000100110000010001110110110111" {
				bits[i+k] = bits[i+k] != (c == '1')
			}
		}
	}
	var sum uint32
	for i, bit := range bits[8*len(b):] {
		if !bit {
			sum |= 1 << i
		}
	}
	return sum
}

// bytesOf are the 4 bytes whose Sum is sum: the steps are gone back from it.
func bytesOf(sum uint32) []byte {
	word := ^sum
	for range 32 {
		if word>>31 == 1 { // only an odd word's step has the highest bit
			word = (word^0xedb88320)<<1 | 1
		} else {
			word <<= 1
		}
	}
	return lowestFirst(^word)
}

// lowestFirst are a sum's bytes as Right has them.
func lowestFirst(sum uint32) []byte {
	return []byte{byte(sum), byte(sum >> 8), byte(sum >> 16), byte(sum >> 24)}
}

// right is s with its sum behind it, as it is told by division.
func right(s string) []byte {
	return append([]byte(s), lowestFirst(divided([]byte(s)))...)
}

// ordinary are bytes of a length, as they come from a generator that starts alike each time.
func ordinary(length int) []byte {
	b := make([]byte, length)
	rand.New(rand.NewSource(int64(length))).Read(b)
	return b
}

// someStrings are ordinary ones and those at the edges: none, one byte, all noughts, all ones, as long as a sum and nearly so, as long as a block.
func someStrings() []string {
	l := []string{"", "\x00", "\x01", "\x80", "\xff", "a", "abc", "abcd", "abcde", "123456789", strings.Repeat("\x00", 32), strings.Repeat("\xff", 33)}
	for _, length := range []int{2, 3, 4, 5, 7, 8, 9, 31, 64, 508, 512} {
		l = append(l, string(ordinary(length)))
	}
	return l
}

// someSums are those at the edges, and ordinary ones.
func someSums() []uint32 {
	return []uint32{0, 1, 2, 0x80000000, 0x7fffffff, math.MaxUint32, math.MaxUint32 - 1, 0xedb88320, 0xcbf43926, 0x12345678, 0xdebb20e3, 0x2144df1c}
}

// spare answers s in a list that has room behind its end, and all of that room with '#' where s is not.
func spare(s string) (b, whole []byte) {
	whole = []byte(s + strings.Repeat("#", 32))
	return whole[:len(s)], whole
}

// turn turns one bit, counted from the first byte on, the lowest of each first.
func turn(b []byte, bit int) {
	b[bit/8] ^= 1 << (bit % 8)
}

// P2.1

func TestSumOfBytesThatAreKnown(t *testing.T) {
	rising := make([]byte, 256)
	for i := range rising {
		rising[i] = byte(i)
	}
	for s, want := range map[string]uint32{
		"":                           0,
		"\x00":                       0xd202ef8d,
		"\x01":                       0xa505df1b,
		"\x80":                       0x3fba6cad,
		"\xff":                       0xff000000,
		"a":                          0xe8b7be43,
		"abc":                        0x352441c2,
		"123456789":                  0xcbf43926,
		"message digest":             0x20159d7f,
		"abcdefghijklmnopqrstuvwxyz": 0x4c2750bd,
		"The quick brown fox jumps over the lazy dog": 0x414fa339,
		strings.Repeat("\x00", 4):                     0x2144df1c,
		strings.Repeat("\xff", 4):                     0xffffffff,
		strings.Repeat("\x00", 32):                    0x190a55ad,
		strings.Repeat("\xff", 32):                    0xff6cab0b,
		strings.Repeat("\x00", 512):                   0xb2aa7578,
		string(rising):                                0x29058c73,
	} {
		if got := crc.Sum([]byte(s)); got != want {
			t.Errorf("P2.1: Sum of %q: %x and not %x", s, got, want)
		}
	}
	if got := crc.Sum(nil); got != 0 {
		t.Errorf("P2.1: Sum of nil: %x", got)
	}
}

func TestSumIsWhatDivisionLeaves(t *testing.T) {
	for one := range 256 {
		for _, b := range [][]byte{{byte(one)}, {byte(one), 'x'}, {'x', byte(one)}} {
			if got, want := crc.Sum(b), divided(b); got != want {
				t.Errorf("P2.1: Sum of %x: %x and not %x", b, got, want)
			}
		}
	}
	for length := range 70 {
		b := ordinary(length)
		if got, want := crc.Sum(b), divided(b); got != want {
			t.Errorf("P2.1: Sum of %x: %x and not %x", b, got, want)
		}
	}
	for _, length := range []int{511, 512, 513, 4096, 70000} {
		b := ordinary(length)
		if got, want := crc.Sum(b), divided(b); got != want {
			t.Errorf("P2.1: Sum of %d bytes: %x and not %x", length, got, want)
		}
	}
}

func TestMoreOfTwoPartsIsTheSumOfAll(t *testing.T) {
	if got := crc.More(crc.Sum([]byte("1234")), []byte("56789")); got != 0xcbf43926 {
		t.Errorf("P2.1: More of the Sum of 1234, 56789: %x", got)
	}
	for _, s := range someStrings() {
		b, want := []byte(s), divided([]byte(s))
		for k := range len(b) + 1 { // at either end one of the parts is empty
			if got := crc.More(crc.Sum(b[:k]), b[k:]); got != want {
				t.Errorf("P2.1: More: %q at %d: %x and not %x", s, k, got, want)
			}
		}
	}
}

func TestMoreOfManyPartsIsTheSumOfAll(t *testing.T) {
	dice := rand.New(rand.NewSource(2))
	for round := range 300 {
		var whole []byte
		var sum uint32
		for range dice.Intn(12) {
			part := make([]byte, dice.Intn(4)*dice.Intn(20)) // a fourth of them and more are empty
			dice.Read(part)
			whole, sum = append(whole, part...), crc.More(sum, part)
			if len(part) == 0 {
				sum = crc.More(sum, nil)
			}
			if want := divided(whole); sum != want {
				t.Fatalf("P2.1: parts %d: %d bytes: %x and not %x", round, len(whole), sum, want)
			}
		}
	}
}

func TestMoreOfNothingIsTheSumItself(t *testing.T) {
	for _, sum := range someSums() {
		if crc.More(sum, nil) != sum || crc.More(sum, []byte{}) != sum {
			t.Errorf("P2.1: More of %x and nothing", sum)
		}
	}
}

func TestMoreOfAnySumIsAsIfItWereOneOfBytes(t *testing.T) {
	for _, sum := range someSums() {
		ahead := bytesOf(sum)
		if divided(ahead) != sum {
			t.Fatalf("the test's own bytes %x have not the sum %x", ahead, sum)
		}
		for _, s := range someStrings() {
			if got, want := crc.More(sum, []byte(s)), divided(append(ahead[:4:4], s...)); got != want {
				t.Errorf("P2.1: More of %x, %q: %x and not %x", sum, s, got, want)
			}
		}
	}
}

// P2.2

func TestRightOfBytesWithTheirSum(t *testing.T) {
	if !crc.Right([]byte("123456789\x26\x39\xf4\xcb")) {
		t.Error("P2.2: Right of 123456789 and its sum")
	}
	for _, s := range someStrings() {
		if b := right(s); !crc.Right(b) {
			t.Errorf("P2.2: Right of %q and its sum", s)
		}
	}
}

func TestRightOfFewerThanFourBytes(t *testing.T) {
	if crc.Right(nil) || crc.Right([]byte{}) {
		t.Error("P2.2: Right of nothing")
	}
	for one := range 256 {
		for length := 1; length < 4; length++ {
			if b := bytes.Repeat([]byte{byte(one)}, length); crc.Right(b) {
				t.Errorf("P2.2: Right of %x", b)
			}
		}
	}
	for length := range 4 {
		// The bytes that are missing lie in the room behind the end, where they are not to be read.
		if crc.Right(make([]byte, length, 8)) || crc.Right(right("abc")[:length]) {
			t.Errorf("P2.2: Right of %d bytes", length)
		}
	}
}

func TestRightOfJustFourBytes(t *testing.T) {
	if !crc.Right(make([]byte, 4)) {
		t.Error("P2.2: Right of four noughts")
	}
	for at := range 4 {
		for one := 1; one < 256; one++ {
			b := make([]byte, 4)
			b[at] = byte(one)
			if crc.Right(b) {
				t.Errorf("P2.2: Right of %x", b)
			}
		}
	}
	for _, s := range []string{"\xff\xff\xff\xff", "\x20\x83\xb8\xed", "abcd"} {
		if crc.Right([]byte(s)) {
			t.Errorf("P2.2: Right of %q", s)
		}
	}
}

func TestRightOfBytesWithSomethingElseBehind(t *testing.T) {
	wrong := func(b []byte, what string) {
		t.Helper()
		if crc.Right(b) {
			t.Errorf("P2.2: Right of %d bytes, %s", len(b), what)
		}
	}
	for _, s := range []string{"\x01", "a", "abcd", "123456789", string(ordinary(512))} {
		sum := divided([]byte(s))
		own := lowestFirst(sum)
		wrong([]byte(s), "without a sum")
		wrong(append([]byte(s), own[3], own[2], own[1], own[0]), "the highest first")
		wrong(append(own[:4:4], s...), "the sum ahead")
		wrong(append([]byte(s), lowestFirst(^sum)...), "the sum turned")
		wrong(append([]byte(s), lowestFirst(sum+1)...), "the next number")
		wrong(append([]byte(s), own[:3]...), "three bytes of the sum")
		wrong(append(right(s), 0), "a nought behind the sum")
		wrong(append([]byte{0}, right(s)...), "a nought ahead")
	}
	wrong(make([]byte, 5), "noughts")
	wrong(make([]byte, 512), "noughts")
}

func TestRightIsWhetherTheLastFourAreTheSum(t *testing.T) {
	dice := rand.New(rand.NewSource(3))
	for range 2000 {
		b := make([]byte, 4+dice.Intn(40))
		dice.Read(b)
		ahead := b[:len(b)-4]
		if got, want := crc.Right(b), bytes.Equal(b[len(ahead):], lowestFirst(divided(ahead))); got != want {
			t.Errorf("P2.2: Right of %x: %t", b, got)
		}
		if b = right(string(ahead)); !crc.Right(b) {
			t.Errorf("P2.2: Right of %x", b)
		}
	}
}

// P2.3

func TestSumsOfThreeOfOneLengthAreTheSumOfTheirBytes(t *testing.T) {
	dice := rand.New(rand.NewSource(4))
	check := func(a, b, c []byte) {
		t.Helper()
		all := make([]byte, len(a))
		for i := range all {
			all[i] = a[i] ^ b[i] ^ c[i]
		}
		if crc.Sum(a)^crc.Sum(b)^crc.Sum(c) != crc.Sum(all) {
			t.Errorf("P2.3: Sums of %x, %x, %x", a, b, c)
		}
	}
	check(nil, nil, nil)
	for length := range 80 {
		noughts, ones := make([]byte, length), bytes.Repeat([]byte{0xff}, length)
		a, b, c := make([]byte, length), make([]byte, length), make([]byte, length)
		dice.Read(a)
		dice.Read(b)
		dice.Read(c)
		check(a, b, c)
		check(a, a, b)
		check(a, b, noughts)
		check(noughts, ones, a)
		check(ones, ones, ones)
	}
}

// bursts are sets of bits, each as the number of a window of 32 bits: one, two, all of them, the first and the last alone, those that a step turns, and others.
func bursts() []uint32 {
	l := []uint32{math.MaxUint32, 0x80000001, 0xedb88320, 0xedb88321, 0xdb710641, 0x82608edb, 0x04c11db7, 0x55555555, 0xaaaaaaaa, 0xffff0000, 0x0000ffff, 0xff0000ff, 0x00ffff00}
	for i := range 32 {
		l = append(l, 1<<i, 1|1<<i, 1<<31|1<<i)
	}
	dice := rand.New(rand.NewSource(5))
	for range 200 {
		l = append(l, dice.Uint32(), dice.Uint32()|0x80000001)
	}
	return l
}

// turnWithin turns those of the 32 bits from a place on that stand in the burst.
func turnWithin(b []byte, from int, burst uint32) {
	for i := range 32 {
		if burst>>i&1 == 1 {
			turn(b, from+i)
		}
	}
}

func TestBitsTurnedWithin32LeaveNothingRight(t *testing.T) {
	// All places of short strings, so that windows lie at the beginning, in the middle, over the last 4 bytes' edge and among them.
	for _, s := range []string{"", "a", "abcd", "123456789", strings.Repeat("\x00", 12), strings.Repeat("\xff", 12)} {
		whole := right(s)
		for from := range 8*len(whole) - 31 {
			for _, burst := range bursts() {
				b := bytes.Clone(whole)
				turnWithin(b, from, burst)
				if crc.Right(b) {
					t.Errorf("P2.3: %q: bits %x turned from %d on", s, burst, from)
				}
			}
		}
	}
}

func TestBitsTurnedWithin32OfABlock(t *testing.T) {
	whole := right(string(ordinary(508)))
	bits := 8 * len(whole)
	for _, from := range []int{0, 1, 7, 8, 31, 32, bits/2 - 16, bits / 2, bits/2 + 3, bits - 64, bits - 63, bits - 48, bits - 33, bits - 32} {
		for _, burst := range bursts() {
			b := bytes.Clone(whole)
			turnWithin(b, from, burst)
			if crc.Right(b) {
				t.Errorf("P2.3: bits %x turned from %d on", burst, from)
			}
		}
	}
}

func TestTwoBitsTurnedWithin32LeaveNothingRight(t *testing.T) {
	b := right("123456789 and some more")
	bits := 8 * len(b)
	for one := range bits {
		turn(b, one)
		if crc.Right(b) {
			t.Errorf("P2.3: bit %d turned", one)
		}
		for other := one + 1; other < one+32 && other < bits; other++ {
			turn(b, other)
			if crc.Right(b) {
				t.Errorf("P2.3: bits %d and %d turned", one, other)
			}
			turn(b, other)
		}
		turn(b, one)
	}
	if !crc.Right(b) {
		t.Error("P2.2: what was turned back is not Right")
	}
}

func TestBitsTurnedOver33MayLeaveThemRight(t *testing.T) {
	// It shows that the bits are counted as the chapter's words step them: the polynomial's own bits, at any place, are not seen.
	whole := right("123456789")
	for from := range 8*len(whole) - 32 {
		b := bytes.Clone(whole)
		turn(b, from)
		turnWithin(b, from+1, 0xedb88320)
		if !crc.Right(b) {
			t.Errorf("P2.2: the polynomial turned from %d on", from)
		}
	}
}

// R3 and R5

func TestNothingHandedInIsChanged(t *testing.T) {
	for _, s := range append(someStrings(), string(right("abc")), string(right(""))) {
		b, whole := spare(s)
		sum, more, is := crc.Sum(b), crc.More(7, b), crc.Right(b)
		if string(whole) != s+strings.Repeat("#", 32) {
			t.Errorf("R3: what was handed in is changed: %q", whole)
		}
		for i := range 32 { // nor is the room behind the end read
			whole[len(s)+i] = byte(i)
		}
		if crc.Sum(b) != sum || crc.More(7, b) != more || crc.Right(b) != is {
			t.Errorf("R5: of %q: another answer", s)
		}
	}
}

func FuzzCrc(f *testing.F) {
	f.Add([]byte(nil), 0, uint32(0))
	f.Add([]byte("123456789\x26\x39\xf4\xcb"), 9, uint32(0xcbf43926))
	f.Add(make([]byte, 4), 2, uint32(math.MaxUint32))
	f.Fuzz(func(t *testing.T, b []byte, at int, burst uint32) {
		was := string(b)
		at = int(uint(at) % uint(len(b)+1))
		sum := divided(b)
		if crc.Sum(b) != sum || crc.More(crc.Sum(b[:at]), b[at:]) != sum {
			t.Errorf("P2.1: %q at %d", b, at)
		}
		if got, want := crc.Right(b), len(b) > 3 && string(right(was[:max(len(b)-4, 0)])) == was; got != want {
			t.Errorf("P2.2: %q: %t", b, got)
		}
		turned := right(was)
		turnWithin(turned, int(uint(at)%uint(8*len(b)+1)), burst)
		if crc.Right(turned) != (burst == 0) {
			t.Errorf("P2.3: %q: bits %x turned", b, burst)
		}
		if string(b) != was {
			t.Error("R3: what was handed in is changed")
		}
	})
}
