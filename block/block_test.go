package block_test

import (
	"bytes"
	"math/rand"
	"strings"
	"testing"

	"gablet/api"
	"gablet/block"
	"gablet/crc"
)

// summed are the 508 bytes ahead and their sum, the lowest first.
func summed(ahead []byte) []byte {
	if len(ahead) != 508 {
		panic("the test's own bytes are not 508")
	}
	sum := crc.Sum(ahead)
	return append(bytes.Clone(ahead), byte(sum), byte(sum>>8), byte(sum>>16), byte(sum>>24))
}

// laid is a block whose sum is right, with any kind and length and with what stands behind these, noughts behind that.
func laid(kind uint8, length int, behind string) []byte {
	ahead := make([]byte, 508)
	ahead[0], ahead[1], ahead[2] = kind, byte(length/256), byte(length%256)
	for i := range len(behind) {
		ahead[3+i] = behind[i]
	}
	return summed(ahead)
}

// sealed is the sealed block of a kind and a body, as the chapter's words tell it.
func sealed(kind uint8, body string) []byte { return laid(kind, len(body), body) }

// ordinary are bytes of a length, as they come from a generator that starts alike each time.
func ordinary(length int) string {
	b := make([]byte, length)
	rand.New(rand.NewSource(int64(length))).Read(b)
	return string(b)
}

// someBodies are ordinary ones and those at the edges: none, noughts, ones, of Most bytes and one less, those that end in noughts, one that looks like a block.
func someBodies() []string {
	l := []string{"", "\x00", "\x01", "a", "ab", "ab\x00", "ab\x00\x00\x00", "\x00ab", strings.Repeat("\x00", 255), strings.Repeat("\xff", 256), strings.Repeat("\x00", 505), strings.Repeat("\xff", 505), string(sealed(1, "ab")[:505])}
	for _, length := range []int{3, 4, 100, 254, 255, 256, 257, 500, 501, 503, 504, 505} {
		l = append(l, ordinary(length))
	}
	return l
}

// tooLong are lengths that no body has: next to Most, as long as a block and about so, and those that two bytes or one would take for a shorter one.
func tooLong() []int {
	return []int{506, 507, 508, 509, 510, 511, 512, 513, 761, 1024, 4096, 65535, 65536, 65537, 65538, 65536 + 505, 65536 + 506, 1 << 17, 1 << 20}
}

// refused holds what Open answers of these bytes against an error beside which all else is zero.
func refused(t *testing.T, what string, b []byte, want api.Errno) {
	t.Helper()
	if kind, body, e := block.Open(b); kind != 0 || len(body) != 0 || e != want {
		t.Errorf("%s: Open of %d bytes %.8x: %d, %d bytes, %d, and not %d", what, len(b), b, kind, len(body), e, want)
	}
}

// opened holds what Open answers of these bytes against a kind and a body.
func opened(t *testing.T, what string, b []byte, kind uint8, body string) {
	t.Helper()
	if k, s, e := block.Open(b); k != kind || string(s) != body || e != api.OK {
		t.Errorf("%s: Open of %.8x: %d, %d bytes, %d, and not %d, %d bytes", what, b, k, len(s), e, kind, len(body))
	}
}

func TestNumbersThatAreGiven(t *testing.T) {
	if api.ErrArg != 1 || api.ErrBytes != 5 || api.ErrMany != 6 || api.ErrSpoil != 9 || api.OK != 0 {
		t.Error("the errors' numbers")
	}
	if block.Most != 505 || api.BlockSize != 512 {
		t.Error("the limits")
	}
}

func TestTheChaptersExamples(t *testing.T) {
	if b, e := block.Seal(0, nil); len(b) != 0 || e != api.ErrArg {
		t.Errorf("P4.1: Seal of 0: %d bytes, %d", len(b), e)
	}
	if b, e := block.Seal(1, make([]byte, 506)); len(b) != 0 || e != api.ErrMany {
		t.Errorf("P4.1: Seal of 1 and 506 bytes: %d bytes, %d", len(b), e)
	}
	want := "\x01\x00\x02ab" + strings.Repeat("\x00", 503) + "\x22\x7d\x1a\x93"
	if b, e := block.Seal(1, []byte("ab")); string(b) != want || e != api.OK {
		t.Errorf("P4.1: Seal of 1 and ab: %x, %d", b, e)
	}
	refused(t, "P4.2: noughts", make([]byte, 512), api.ErrSpoil)
	refused(t, "P4.2: 511 bytes", make([]byte, 511), api.ErrSpoil)
}

// P4.1

func TestSealOfBytesWhoseSumIsKnown(t *testing.T) {
	rising := make([]byte, 256)
	for i := range rising {
		rising[i] = byte(i)
	}
	for _, c := range []struct {
		kind uint8
		body string
		head string
		sum  string
	}{
		{1, "", "\x01\x00\x00", "\xf5\x29\x37\xc8"},
		{1, "ab", "\x01\x00\x02", "\x22\x7d\x1a\x93"},
		{255, "", "\xff\x00\x00", "\xe2\x5d\x9b\x7b"},
		{128, "123456789", "\x80\x00\x09", "\x43\x5c\x25\xd7"},
		{7, string(rising), "\x07\x01\x00", "\xda\xad\x76\x46"},
		{1, strings.Repeat("q", 504), "\x01\x01\xf8", "\x91\xd2\x4b\xac"},
		{255, strings.Repeat("\xff", 505), "\xff\x01\xf9", "\x4e\x3f\xaa\x28"},
		{2, strings.Repeat("\x00", 505), "\x02\x01\xf9", "\xe0\xb4\xe5\x29"},
	} {
		want := c.head + c.body + strings.Repeat("\x00", 505-len(c.body)) + c.sum
		if b, e := block.Seal(c.kind, []byte(c.body)); string(b) != want || e != api.OK {
			t.Errorf("P4.1: Seal of %d and %d bytes: %.8x.., %d bytes, %d", c.kind, len(c.body), b, len(b), e)
		}
		opened(t, "P4.2: a block whose sum is known", []byte(want), c.kind, c.body)
	}
}

func TestSealOfEachKind(t *testing.T) {
	for kind := 1; kind < 256; kind++ {
		for _, body := range someBodies() {
			if b, e := block.Seal(uint8(kind), []byte(body)); !bytes.Equal(b, sealed(uint8(kind), body)) || e != api.OK {
				t.Errorf("P4.1: Seal of %d and %d bytes: %.8x, %d", kind, len(body), b, e)
			}
		}
	}
	if b, e := block.Seal(9, nil); !bytes.Equal(b, sealed(9, "")) || e != api.OK {
		t.Errorf("P4.1: Seal of 9 and nil: %.8x, %d", b, e)
	}
}

func TestSealOfEachLength(t *testing.T) {
	for length := range 506 {
		body := ordinary(length)
		b, e := block.Seal(3, []byte(body))
		if !bytes.Equal(b, sealed(3, body)) || e != api.OK {
			t.Errorf("P4.1: Seal of 3 and %d bytes: %.8x, %d", length, b, e)
		}
		if !crc.Right(b) {
			t.Errorf("P4.1: Seal of 3 and %d bytes is not Right", length)
		}
	}
}

func TestSealOfKind0(t *testing.T) {
	refuses := func(body []byte) {
		t.Helper()
		if b, e := block.Seal(0, body); len(b) != 0 || e != api.ErrArg {
			t.Errorf("P4.1: Seal of 0 and %d bytes: %d bytes, %d", len(body), len(b), e)
		}
	}
	refuses(nil)
	for _, body := range someBodies() {
		refuses([]byte(body))
	}
	for _, length := range tooLong() { // of both errors it is the one that the chapter names first
		refuses(make([]byte, length))
	}
}

func TestSealOfTooMany(t *testing.T) {
	for _, length := range tooLong() {
		for _, kind := range []uint8{1, 2, 127, 128, 255} {
			if b, e := block.Seal(kind, make([]byte, length)); len(b) != 0 || e != api.ErrMany {
				t.Errorf("P4.1: Seal of %d and %d bytes: %d bytes, %d", kind, length, len(b), e)
			}
		}
	}
	// The room behind the end is no part of the body.
	if b, e := block.Seal(1, make([]byte, 505, 4096)); !bytes.Equal(b, sealed(1, strings.Repeat("\x00", 505))) || e != api.OK {
		t.Errorf("P4.1: Seal of 505 bytes with room behind: %.8x, %d", b, e)
	}
}

// P4.2

func TestOpenOfEachKindAndLength(t *testing.T) {
	for kind := 1; kind < 256; kind++ {
		for _, body := range someBodies() {
			opened(t, "P4.2: each kind", sealed(uint8(kind), body), uint8(kind), body)
		}
	}
	for length := range 506 {
		for _, body := range []string{ordinary(length), strings.Repeat("\x00", length), strings.Repeat("\xff", length)} {
			opened(t, "P4.2: each length", sealed(200, body), 200, body)
		}
	}
}

// rightOf are n bytes that are Right, and begin as a sealed block does.
func rightOf(n int) []byte {
	ahead := make([]byte, n-4)
	copy(ahead, "\x01\x00\x02ab")
	sum := crc.Sum(ahead)
	return append(ahead, byte(sum), byte(sum>>8), byte(sum>>16), byte(sum>>24))
}

func TestOpenOfAnotherSize(t *testing.T) {
	opened(t, "P4.2: 512 bytes that are Right", rightOf(512), 1, "ab")
	refused(t, "P4.2: nil", nil, api.ErrSpoil)
	whole := sealed(1, "ab")
	for n := range 1100 {
		if n == 512 {
			continue
		}
		refused(t, "P4.2: noughts", make([]byte, n), api.ErrSpoil)
		if n >= 4 {
			refused(t, "P4.2: bytes that are Right", rightOf(n), api.ErrSpoil)
		}
		if n < 512 { // what is cut off still lies in the room behind the end, where it is not to be read
			refused(t, "P4.2: a block cut off", whole[:n], api.ErrSpoil)
			refused(t, "P4.2: a block without its beginning", whole[512-n:], api.ErrSpoil)
		} else {
			refused(t, "P4.2: a block and noughts", append(whole[:512:512], make([]byte, n-512)...), api.ErrSpoil)
		}
	}
	refused(t, "P4.2: two blocks", append(sealed(1, "ab"), whole...), api.ErrSpoil)
	refused(t, "P4.2: a nought and a block", append([]byte{0}, whole...), api.ErrSpoil)
	refused(t, "P4.2: many bytes", make([]byte, 1<<17+512), api.ErrSpoil)
	opened(t, "P4.2: with room behind", append(sealed(1, "ab"), 'x')[:512], 1, "ab")
}

func TestOpenOfAnotherSum(t *testing.T) {
	refused(t, "P4.2: ones", bytes.Repeat([]byte{0xff}, 512), api.ErrSpoil)
	for _, body := range someBodies() {
		b := sealed(5, body)
		sum := b[508:]
		for what, end := range map[string][]byte{
			"the highest first": {sum[3], sum[2], sum[1], sum[0]},
			"turned":            {^sum[0], ^sum[1], ^sum[2], ^sum[3]},
			"noughts":           {0, 0, 0, 0},
			"one more":          {sum[0] + 1, sum[1], sum[2], sum[3]},
			"the highest other": {sum[0], sum[1], sum[2], sum[3] ^ 0x80},
		} {
			refused(t, "P4.2: a sum, "+what, append(b[:508:508], end...), api.ErrSpoil)
		}
		// The sum is of all ahead of it, the noughts too.
		part := crc.Sum(b[:3+len(body)])
		if len(body) < 505 {
			refused(t, "P4.2: a sum of the body alone", append(b[:508:508], byte(part), byte(part>>8), byte(part>>16), byte(part>>24)), api.ErrSpoil)
		}
	}
}

func TestOpenTellsThatItIsSpoiltAheadOfAllElse(t *testing.T) {
	for what, b := range map[string][]byte{
		"kind 0":          laid(0, 2, "ab"),
		"length 506":      laid(1, 506, "ab"),
		"length 65,535":   laid(1, 65535, "ab"),
		"a byte behind":   laid(1, 1, "ab"),
		"all of these":    laid(0, 506, strings.Repeat("x", 505)),
		"nothing of them": laid(1, 2, "ab"),
	} {
		turned := bytes.Clone(b)
		turned[508] ^= 1
		refused(t, "P4.2: a sum that is not right, "+what, turned, api.ErrSpoil)
		refused(t, "P4.2: one byte less, "+what, b[:511], api.ErrSpoil)
		refused(t, "P4.2: one byte more, "+what, append(bytes.Clone(b), 0), api.ErrSpoil)
	}
}

func TestOpenOfKind0(t *testing.T) {
	refused(t, "P4.2: noughts with their sum", summed(make([]byte, 508)), api.ErrBytes)
	for _, body := range someBodies() {
		refused(t, "P4.2: kind 0", sealed(0, body), api.ErrBytes)
	}
	refused(t, "P4.2: kind 0, length 506", laid(0, 506, "ab"), api.ErrBytes)
	refused(t, "P4.2: kind 0, a byte behind", laid(0, 1, "ab"), api.ErrBytes)
}

func TestOpenOfALengthAboveMost(t *testing.T) {
	full := strings.Repeat("x", 505)
	for length := 506; length < 65536; length++ {
		refused(t, "P4.2: a length above Most", laid(1, length, ""), api.ErrBytes)
		if length < 600 || length%256 < 2 {
			refused(t, "P4.2: a length above Most, all bytes used", laid(1, length, full), api.ErrBytes)
		}
	}
}

func TestOpenOfOtherBytesThanNoughtsBehindTheBody(t *testing.T) {
	for _, length := range []int{0, 1, 2, 100, 255, 256, 400, 503, 504} {
		body := ordinary(length)
		for at := length; at < 505; at++ {
			for _, one := range []byte{1, 0x80, 0xff, 'x'} {
				behind := body + strings.Repeat("\x00", at-length) + string([]byte{one})
				refused(t, "P4.2: a byte behind the body", laid(1, length, behind), api.ErrBytes)
			}
		}
		refused(t, "P4.2: all bytes behind the body", laid(1, length, body+strings.Repeat("x", 505-length)), api.ErrBytes)
	}
}

func TestOpenGoesByTheLengthThatStandsThere(t *testing.T) {
	opened(t, "P4.2: noughts that are the body's", laid(1, 5, "ab"), 1, "ab\x00\x00\x00")
	opened(t, "P4.2: noughts that are the body's", laid(1, 505, ""), 1, strings.Repeat("\x00", 505))
	opened(t, "P4.2: 255 bytes", laid(1, 255, ordinary(255)), 1, ordinary(255))
	opened(t, "P4.2: 256 bytes", laid(1, 256, ordinary(256)), 1, ordinary(256))
	refused(t, "P4.2: one byte less than there is", laid(1, 1, "ab"), api.ErrBytes)
	refused(t, "P4.2: a length the lowest first", laid(1, 2*256, "ab"), api.ErrBytes)
	refused(t, "P4.2: a length the lowest first", laid(1, 1, strings.Repeat("x", 256)), api.ErrBytes)
}

// P4.3

func TestWhatWasSealedIsOpenedTheSame(t *testing.T) {
	dice := rand.New(rand.NewSource(4))
	for range 3000 {
		kind, body := uint8(1+dice.Intn(255)), make([]byte, dice.Intn(506))
		dice.Read(body)
		b, e := block.Seal(kind, body)
		if e != api.OK {
			t.Fatalf("P4.3: Seal of %d and %d bytes: %d", kind, len(body), e)
		}
		opened(t, "P4.3: what was sealed", b, kind, string(body))
	}
}

// someBlock is one whose sum is right: of a sealed one, or of one that is nearly so.
func someBlock(dice *rand.Rand) []byte {
	length := dice.Intn(506)
	body := make([]byte, length)
	dice.Read(body)
	said, kind := length, uint8(1+dice.Intn(255))
	switch dice.Intn(6) {
	case 0:
		said = dice.Intn(1 << 16)
	case 1:
		said = max(0, length+dice.Intn(5)-2)
	case 2:
		kind = uint8(dice.Intn(3))
	case 3:
		body = append(body, make([]byte, (505-length)/2)...)
		body = append(body, ordinary(dice.Intn(3))...)
	}
	return laid(kind, said, string(body[:min(len(body), 505)]))
}

// sealedBlock tells whether a block whose sum is right is a sealed one: one that a kind and a body of the length that stands there make.
func sealedBlock(b []byte) bool {
	length := 256*int(b[1]) + int(b[2])
	return b[0] != 0 && length <= 505 && bytes.Equal(sealed(b[0], string(b[3:3+length])), b)
}

func TestWhatIsOpenedIsSealedAsItStood(t *testing.T) {
	dice := rand.New(rand.NewSource(5))
	found := map[bool]int{}
	for range 5000 {
		b := someBlock(dice)
		is := sealedBlock(b)
		found[is]++
		if !is {
			refused(t, "P4.2: no sealed block", b, api.ErrBytes)
			continue
		}
		kind, body, e := block.Open(b)
		again, f := block.Seal(kind, body)
		if e != api.OK || f != api.OK || !bytes.Equal(again, b) {
			t.Errorf("P4.3: Open of %.8x: %d; sealed again %.8x, %d", b, e, again, f)
		}
	}
	if found[true] < 1000 || found[false] < 1000 {
		t.Errorf("the test's own blocks: %v", found)
	}
}

// turn turns one bit, counted from the first byte on, the lowest of each first.
func turn(b []byte, bit int) { b[bit/8] ^= 1 << (bit % 8) }

// turnWithin turns those of the 32 bits from a place on that stand in the burst.
func turnWithin(b []byte, from int, burst uint32) {
	for i := range 32 {
		if burst>>i&1 == 1 {
			turn(b, from+i)
		}
	}
}

func TestOneAndTwoBitsTurnedWithin32AreSpoilt(t *testing.T) {
	b := sealed(1, ordinary(300))
	bits := 8 * len(b)
	for one := range bits {
		turn(b, one)
		refused(t, "P4.3: a bit turned", b, api.ErrSpoil)
		for other := one + 1; other < one+32 && other < bits; other++ {
			turn(b, other)
			refused(t, "P4.3: two bits turned", b, api.ErrSpoil)
			turn(b, other)
		}
		turn(b, one)
	}
	opened(t, "P4.3: what was turned back", b, 1, ordinary(300))
}

func TestBitsTurnedWithin32AreSpoilt(t *testing.T) {
	dice := rand.New(rand.NewSource(6))
	for _, whole := range [][]byte{sealed(1, ""), sealed(255, ordinary(505)), sealed(2, strings.Repeat("\x00", 40)), sealed(128, ordinary(200))} {
		for from := range 8*len(whole) - 31 {
			for _, burst := range []uint32{0xffffffff, 0x80000001, 0xedb88320, 0x0000ffff, dice.Uint32() | 1, dice.Uint32() | 0x80000001} {
				b := bytes.Clone(whole)
				turnWithin(b, from, burst)
				refused(t, "P4.3: bits turned", b, api.ErrSpoil)
			}
		}
	}
}

func TestWholePiecesTurnedAreSpoilt(t *testing.T) {
	whole := sealed(77, ordinary(450))
	for at := range 512 - 3 {
		for _, piece := range []string{"\x00\x00\x00\x00", "\xff\xff\xff\xff", "gone", "\x01\x00\x02a"} {
			b := bytes.Clone(whole)
			copy(b[at:], piece)
			if !bytes.Equal(b, whole) {
				refused(t, "P4.3: four bytes written over", b, api.ErrSpoil)
			}
		}
	}
}

// R3 and R5

// spare answers s in a list that has room behind its end, and all of that room with '#' where s is not.
func spare(s string) (b, whole []byte) {
	whole = []byte(s + strings.Repeat("#", 64))
	return whole[:len(s)], whole
}

// turnAll turns every byte of a list, and of the room behind its end.
func turnAll(b []byte) {
	b = b[:cap(b)]
	for i := range b {
		b[i] ^= 0xff
	}
}

// apart checks that a call left what was handed in alone, and that what it answered shares no memory with it.
func apart(t *testing.T, what, s string, whole, out []byte) {
	t.Helper()
	asItWas, said := s+strings.Repeat("#", 64), string(out)
	if string(whole) != asItWas {
		t.Errorf("R3: %s changed what was handed in: %.8x", what, whole)
	}
	turnAll(whole)
	if string(out) != said {
		t.Errorf("R3: %s kept what was handed in", what)
	}
	turnAll(whole)
	turnAll(out)
	if string(whole) != asItWas {
		t.Errorf("R3: %s answered what was handed in", what)
	}
}

func TestSealKeepsAndSharesNothing(t *testing.T) {
	for _, body := range append(someBodies(), ordinary(506)) {
		for _, kind := range []uint8{0, 1, 255} {
			b, whole := spare(body)
			out, _ := block.Seal(kind, b)
			apart(t, "Seal", body, whole, out)
		}
		one, _ := block.Seal(1, []byte(body))
		other, _ := block.Seal(1, []byte(body))
		said := string(other)
		turnAll(one)
		third, _ := block.Seal(1, []byte(body))
		if string(other) != said || string(third) != said {
			t.Errorf("R3: of Seal of %d bytes two answers share their memory", len(body))
		}
	}
}

func TestOpenKeepsAndSharesNothing(t *testing.T) {
	lists := [][]byte{nil, make([]byte, 512), laid(0, 2, "ab"), laid(1, 506, "ab"), laid(1, 1, "ab")}
	for _, body := range someBodies() {
		lists = append(lists, sealed(1, body), sealed(255, body)[:511])
	}
	for _, s := range lists {
		b, whole := spare(string(s))
		_, body, e := block.Open(b)
		apart(t, "Open", string(s), whole, body)

		_, one, _ := block.Open(b)
		_, other, f := block.Open(b)
		said := string(other)
		turnAll(one)
		_, third, g := block.Open(b)
		if string(other) != said || string(third) != said || e != f || f != g {
			t.Errorf("R3, R5: of Open of %.8x two answers share their memory, or differ", b)
		}
	}
}

func FuzzBlock(f *testing.F) {
	f.Add(uint8(1), []byte("ab"), 0, uint32(1))
	f.Add(uint8(0), make([]byte, 506), 4064, uint32(0xffffffff))
	f.Add(uint8(255), make([]byte, 508), 9, uint32(0xedb88320))
	f.Fuzz(func(t *testing.T, kind uint8, s []byte, at int, burst uint32) {
		was := string(s)
		want := api.OK
		if kind == 0 {
			want = api.ErrArg
		} else if len(s) > 505 {
			want = api.ErrMany
		}
		b, e := block.Seal(kind, s)
		if e != want || e != api.OK && len(b) != 0 || e == api.OK && !bytes.Equal(b, sealed(kind, was)) {
			t.Errorf("P4.1: Seal of %d and %d bytes: %d bytes, %d", kind, len(s), len(b), e)
		}
		if e == api.OK {
			opened(t, "P4.3: what was sealed", b, kind, was)
			turnWithin(b, int(uint(at)%4065), burst)
			if burst != 0 {
				refused(t, "P4.3: bits turned", b, api.ErrSpoil)
			}
		}
		if len(s) != 512 || !crc.Right(s) {
			refused(t, "P4.2: any bytes", s, api.ErrSpoil)
		}
		ahead := make([]byte, 508) // any bytes with their sum behind
		copy(ahead, s)
		if b = summed(ahead); !sealedBlock(b) {
			refused(t, "P4.2: no sealed block", b, api.ErrBytes)
		} else {
			opened(t, "P4.2: a sealed block", b, b[0], string(b[3:3+256*int(b[1])+int(b[2])]))
		}
		if string(s) != was {
			t.Error("R3: what was handed in is changed")
		}
	})
}
