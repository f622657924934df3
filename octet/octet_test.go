package octet_test

import (
	"bytes"
	"cmp"
	"math"
	"math/rand"
	"strings"
	"testing"

	"gablet/api"
	"gablet/octet"
)

// rightSizes are the sizes that a number may have.
func rightSizes() []int { return []int{1, 2, 4, 8} }

// wrongSizes are some that it may not have: those between, those around, and those that overflow when they are added to or multiplied.
func wrongSizes() []int {
	return []int{0, 3, 5, 6, 7, 9, 10, 12, 16, 32, 64, -1, -2, -4, -8, 257, 258, 1 << 32, 1<<32 + 1, math.MaxInt, math.MaxInt - 1, math.MinInt, math.MinInt + 1}
}

// someNumbers are ordinary ones and those at the edges of each size.
func someNumbers() []uint64 {
	l := []uint64{0, 1, 2, 7, 513, 0x0102030405060708, 0xf1e2d3c4b5a69788, math.MaxUint64, math.MaxUint64 - 1}
	for bits := 7; bits < 64; bits += 8 {
		for _, near := range []uint64{0, 1, 2, 3} {
			l = append(l, 1<<bits-near, 1<<bits+near, 2<<bits-near, 2<<bits+near)
		}
	}
	return l
}

// someStrings are short byte strings over a few bytes (the least and the greatest among them), each once.
func someStrings() []string {
	l := []string{""}
	for at := 0; len(l[at]) < 3; at++ {
		for _, c := range []string{"\x00", "\x01", "a", "\x7f", "\x80", "\xff"} {
			l = append(l, l[at]+c)
		}
	}
	return l
}

// spare answers s in a list that has room behind its end, and all of that room with '#' where s is not.
func spare(s string) (b, whole []byte) {
	whole = []byte(s + strings.Repeat("#", 32))
	return whole[:len(s)], whole
}

// turn turns every byte of a list, and of the room behind its end.
func turn(b []byte) {
	b = b[:cap(b)]
	for i := range b {
		b[i] ^= 0xff
	}
}

// sameBehind checks that a call left its argument and the room behind it alone, and that what it answered shares no memory with it.
func sameBehind(t *testing.T, name, s string, whole, out []byte) {
	t.Helper()
	asItWas := s + strings.Repeat("#", 32)
	if string(whole) != asItWas {
		t.Errorf("R3: %s changed what was handed in: %q", name, whole)
	}
	said := string(out)
	turn(whole)
	if string(out) != said {
		t.Errorf("R3: %s kept what was handed in: %q, now %q", name, said, out)
	}
	turn(whole)
	turn(out)
	if string(whole) != asItWas {
		t.Errorf("R3: %s answered what was handed in: %q", name, whole)
	}
}

func TestErrorsHaveTheirNumbers(t *testing.T) {
	if api.ErrArg != 1 || api.ErrBytes != 5 || api.ErrMany != 6 || api.OK != 0 {
		t.Error("the errors' numbers")
	}
}

// P1.1

func TestPutTellsTheLowestBytesTheHighestFirst(t *testing.T) {
	for _, c := range []struct {
		b    string
		n    uint64
		size int
		want string
	}{
		{"", 513, 2, "\x02\x01"},
		{"\x07", 513, 3, "\x07"},
		{"", 513, 1, "\x01"},
		{"", 513, 4, "\x00\x00\x02\x01"},
		{"", 513, 8, "\x00\x00\x00\x00\x00\x00\x02\x01"},
		{"ab", 0, 1, "ab\x00"},
		{"ab", 255, 1, "ab\xff"},
		{"ab", 256, 1, "ab\x00"},
		{"", 65535, 2, "\xff\xff"},
		{"", 65536, 2, "\x00\x00"},
		{"", 1<<32 - 1, 4, "\xff\xff\xff\xff"},
		{"", 1 << 32, 4, "\x00\x00\x00\x00"},
		{"x", 0x0102030405060708, 1, "x\x08"},
		{"x", 0x0102030405060708, 2, "x\x07\x08"},
		{"x", 0x0102030405060708, 4, "x\x05\x06\x07\x08"},
		{"x", 0x0102030405060708, 8, "x\x01\x02\x03\x04\x05\x06\x07\x08"},
		{"", math.MaxUint64, 8, "\xff\xff\xff\xff\xff\xff\xff\xff"},
		{"", 1 << 63, 8, "\x80\x00\x00\x00\x00\x00\x00\x00"},
	} {
		if b := octet.Put([]byte(c.b), c.n, c.size); string(b) != c.want {
			t.Errorf("P1.1: Put of %q, %d, %d: %q", c.b, c.n, c.size, b)
		}
	}
	if b := octet.Put(nil, 513, 2); string(b) != "\x02\x01" {
		t.Errorf("P1.1: Put of a nil list: %q", b)
	}
}

func TestPutOfAWrongSizeIsTheBytesAlone(t *testing.T) {
	for _, size := range wrongSizes() {
		for _, s := range []string{"", "x", "abc"} {
			if b := octet.Put([]byte(s), 513, size); string(b) != s {
				t.Errorf("P1.1: Put of %q, 513, %d: %q", s, size, b)
			}
		}
		if b := octet.Put(nil, 513, size); len(b) != 0 {
			t.Errorf("P1.1: Put of nil, 513, %d: %q", size, b)
		}
	}
}

func TestPutAnswersNewMemory(t *testing.T) {
	for _, size := range append(rightSizes(), wrongSizes()...) {
		for _, s := range []string{"", "x", "abcdefgh"} {
			b, whole := spare(s)
			sameBehind(t, "Put", s, whole, octet.Put(b, 513, size))
		}
	}
	b, _ := spare("x")
	one, other := octet.Put(b, 1, 4), octet.Put(b, 2, 4)
	if string(one) != "x\x00\x00\x00\x01" || string(other) != "x\x00\x00\x00\x02" {
		t.Errorf("R3: two of Put: %q, %q", one, other)
	}
}

func TestTakeTellsTheNumberAndThePlaceBehind(t *testing.T) {
	for _, c := range []struct {
		b        string
		at, size int
		n        uint64
		next     int
	}{
		{"\x01\x02\x03", 1, 2, 515, 3},
		{"\x01\x02\x03", 0, 2, 258, 2},
		{"\x01\x02\x03", 0, 1, 1, 1},
		{"\x01\x02\x03", 2, 1, 3, 3},
		{"\x00\x00\x02\x01?", 0, 4, 513, 4},
		{"\x01\x02\x03\x04\x05\x06\x07\x08", 0, 8, 0x0102030405060708, 8},
		{"\xff\xff\xff\xff\xff\xff\xff\xff", 0, 8, math.MaxUint64, 8},
		{"\xff\xff\xff\xff\xff\xff\xff\xff", 4, 4, math.MaxUint32, 8},
		{"\x80\x00\x00\x00\x00\x00\x00\x00", 0, 8, 1 << 63, 8},
	} {
		if n, next, e := octet.Take([]byte(c.b), c.at, c.size); n != c.n || next != c.next || e != api.OK {
			t.Errorf("P1.1: Take of %q, %d, %d: %d, %d, %d", c.b, c.at, c.size, n, next, e)
		}
	}
}

func TestTakeAtEachPlaceOfBytesCutAnywhere(t *testing.T) {
	whole := []byte("\x11\x22\x33\x44\x55\x66\x77\x88\x99\xaa\xbb")
	for length := range len(whole) + 1 {
		// What is cut off still lies in the room behind the end, where it is not to be read.
		b := whole[:length]
		for at := -3; at <= length+3; at++ {
			for _, size := range rightSizes() {
				var wantN uint64
				var wantNext int
				want := api.OK
				switch {
				case at < 0 || at > length:
					want = api.ErrArg
				case at+size > length:
					want = api.ErrBytes
				default:
					for _, c := range b[at : at+size] {
						wantN = wantN*256 + uint64(c)
					}
					wantNext = at + size
				}
				if n, next, e := octet.Take(b, at, size); n != wantN || next != wantNext || e != want {
					t.Errorf("P1.1: Take of %d bytes, %d, %d: %x, %d, %d", length, at, size, n, next, e)
				}
			}
		}
	}
}

func TestTakeRefusesWrongArguments(t *testing.T) {
	refuses := func(b []byte, at, size int) {
		t.Helper()
		if n, next, e := octet.Take(b, at, size); n != 0 || next != 0 || e != api.ErrArg {
			t.Errorf("P1.1: Take of %q, %d, %d: %d, %d, %d", b, at, size, n, next, e)
		}
	}
	lists := [][]byte{nil, {}, []byte("a"), []byte("abcdefghijklmnop")}
	for _, b := range lists {
		for _, size := range wrongSizes() {
			for _, at := range []int{0, len(b), -1, len(b) + 1, math.MinInt, math.MaxInt} {
				refuses(b, at, size)
			}
		}
		for _, size := range rightSizes() {
			for _, at := range []int{-1, -8, len(b) + 1, len(b) + 8, math.MinInt, math.MinInt + 1, math.MaxInt, math.MaxInt - 1, math.MaxInt - size} {
				refuses(b, at, size)
			}
		}
	}
}

func TestTakeOfTooFewBytes(t *testing.T) {
	for _, size := range rightSizes() {
		for _, b := range [][]byte{nil, {}, []byte("abcdefgh")} {
			if n, next, e := octet.Take(b, len(b), size); n != 0 || next != 0 || e != api.ErrBytes {
				t.Errorf("P1.1: Take of %q at its end, %d: %d, %d, %d", b, size, n, next, e)
			}
		}
	}
	if n, next, e := octet.Take([]byte("\x01"), 0, 2); n != 0 || next != 0 || e != api.ErrBytes {
		t.Errorf("P1.1: Take of 01, 0, 2: %d, %d, %d", n, next, e)
	}
}

// P1.2

func TestPutBytesPutsTheLengthAhead(t *testing.T) {
	for _, c := range []struct{ b, s, want string }{
		{"", "ab", "\x00\x02ab"},
		{"", "", "\x00\x00"},
		{"x", "", "x\x00\x00"},
		{"xyz", "a", "xyz\x00\x01a"},
		{"", "\x00\xff", "\x00\x02\x00\xff"},
		{"", strings.Repeat("q", 255), "\x00\xff" + strings.Repeat("q", 255)},
		{"", strings.Repeat("q", 256), "\x01\x00" + strings.Repeat("q", 256)},
		{"x", strings.Repeat("q", 65534), "x\xff\xfe" + strings.Repeat("q", 65534)},
		{"x", strings.Repeat("q", 65535), "x\xff\xff" + strings.Repeat("q", 65535)},
	} {
		if b, e := octet.PutBytes([]byte(c.b), []byte(c.s)); string(b) != c.want || e != api.OK {
			t.Errorf("P1.2: PutBytes of %q and %d bytes: %d bytes, %d", c.b, len(c.s), len(b), e)
		}
	}
	if b, e := octet.PutBytes(nil, nil); string(b) != "\x00\x00" || e != api.OK {
		t.Errorf("P1.2: PutBytes of nil, nil: %q, %d", b, e)
	}
}

func TestPutBytesOfTooMany(t *testing.T) {
	for _, length := range []int{65536, 65537, 1 << 17, 1<<17 + 2} {
		for _, b := range []string{"", "x"} {
			if out, e := octet.PutBytes([]byte(b), make([]byte, length)); len(out) != 0 || e != api.ErrMany {
				t.Errorf("P1.2: PutBytes of %d bytes: %d bytes, %d", length, len(out), e)
			}
		}
	}
	// The bytes ahead are no part of the byte string: they may be more.
	if out, e := octet.PutBytes(make([]byte, 70000), []byte("ab")); len(out) != 70004 || e != api.OK {
		t.Errorf("P1.2: PutBytes behind 70000 bytes: %d bytes, %d", len(out), e)
	}
}

func TestPutBytesAnswersNewMemory(t *testing.T) {
	for _, s := range []string{"", "x", "abcdefgh"} {
		b, whole := spare(s)
		out, _ := octet.PutBytes(b, []byte("ab"))
		sameBehind(t, "PutBytes", s, whole, out)
		out, _ = octet.PutBytes(nil, b)
		sameBehind(t, "PutBytes", s, whole, out)
		out, _ = octet.PutBytes(b, b)
		if string(out) != s+string(octet.Put(nil, uint64(len(s)), 2))+s {
			t.Errorf("P1.2: PutBytes of %q behind itself: %q", s, out)
		}
		sameBehind(t, "PutBytes", s, whole, out)
	}
	b, _ := spare("x")
	one, _ := octet.PutBytes(b, []byte("a"))
	other, _ := octet.PutBytes(b, []byte("b"))
	if string(one) != "x\x00\x01a" || string(other) != "x\x00\x01b" {
		t.Errorf("R3: two of PutBytes: %q, %q", one, other)
	}
}

func TestTakeBytesTellsTheStringAndThePlaceBehind(t *testing.T) {
	for _, c := range []struct {
		b    string
		at   int
		s    string
		next int
	}{
		{"\x00\x02abc", 0, "ab", 4},
		{"\x00\x00", 0, "", 2},
		{"\x00\x00\x01", 0, "", 2},
		{"\x00\x00\x01z", 1, "z", 4},
		{"??\x00\x03\x00\x00\x01!", 2, "\x00\x00\x01", 7},
		{"\x01\x00" + strings.Repeat("q", 257), 0, strings.Repeat("q", 256), 258},
		{"\xff\xff" + strings.Repeat("q", 65536), 0, strings.Repeat("q", 65535), 65537},
	} {
		if s, next, e := octet.TakeBytes([]byte(c.b), c.at); string(s) != c.s || next != c.next || e != api.OK {
			t.Errorf("P1.2: TakeBytes at %d: %d bytes, %d, %d", c.at, len(s), next, e)
		}
	}
}

func TestTakeBytesAtEachPlaceOfBytesCutAnywhere(t *testing.T) {
	whole := []byte("\x00\x02ab\x00\x00\x00\x03cde\x00\xff")
	for length := range len(whole) + 1 {
		// What is cut off still lies in the room behind the end, where it is not to be read.
		b := whole[:length]
		for at := -3; at <= length+3; at++ {
			var wantS []byte
			var wantNext int
			want := api.ErrBytes
			if at < 0 || at > length {
				want = api.ErrArg
			} else if at+2 <= length {
				if end := at + 2 + int(b[at])*256 + int(b[at+1]); end <= length {
					wantS, wantNext, want = b[at+2:end], end, api.OK
				}
			}
			if s, next, e := octet.TakeBytes(b, at); !bytes.Equal(s, wantS) || next != wantNext || e != want {
				t.Errorf("P1.2: TakeBytes of %d bytes, %d: %q, %d, %d", length, at, s, next, e)
			}
		}
	}
}

func TestTakeBytesRefusesPlacesOutside(t *testing.T) {
	for _, b := range [][]byte{nil, {}, []byte("\x00\x00"), []byte("\x00\x02ab")} {
		for _, at := range []int{-1, -2, len(b) + 1, len(b) + 2, math.MinInt, math.MinInt + 2, math.MaxInt, math.MaxInt - 1, math.MaxInt - 2} {
			if s, next, e := octet.TakeBytes(b, at); len(s) != 0 || next != 0 || e != api.ErrArg {
				t.Errorf("P1.2: TakeBytes of %q, %d: %q, %d, %d", b, at, s, next, e)
			}
		}
	}
}

func TestTakeBytesOfALongStringLackingOneByte(t *testing.T) {
	b, e := octet.PutBytes([]byte("xx"), bytes.Repeat([]byte("q"), 65535))
	if e != api.OK {
		t.Fatal(e)
	}
	if s, next, e := octet.TakeBytes(b[:len(b)-1], 2); len(s) != 0 || next != 0 || e != api.ErrBytes {
		t.Errorf("P1.2: TakeBytes of a string that is cut: %d bytes, %d, %d", len(s), next, e)
	}
	if s, next, e := octet.TakeBytes(b, 2); len(s) != 65535 || next != len(b) || e != api.OK {
		t.Errorf("P1.2: TakeBytes of a whole one: %d bytes, %d, %d", len(s), next, e)
	}
}

func TestTakeBytesAnswersNewMemory(t *testing.T) {
	for _, s := range []string{"\x00\x00", "\x00\x02ab", "\x00\x02abc"} {
		b, whole := spare(s)
		out, _, e := octet.TakeBytes(b, 0)
		if e != api.OK {
			t.Fatal(e)
		}
		sameBehind(t, "TakeBytes", s, whole, out)
	}
}

// P1.3

func TestOrderExamples(t *testing.T) {
	for _, c := range []struct {
		a, b string
		want int
	}{
		{"a", "ab", -1}, {"ab", "a", 1}, {"b", "ab", 1}, {"ab", "b", -1},
		{"", "", 0}, {"", "\x00", -1}, {"\x00", "", 1}, {"ab", "ab", 0},
		{"\x7f", "\x80", -1}, {"\xff", "\x00", 1}, {"a\xff", "b", -1}, {"a\x00", "a", 1},
	} {
		if got := octet.Order([]byte(c.a), []byte(c.b)); got != c.want {
			t.Errorf("P1.3: Order of %q, %q: %d", c.a, c.b, got)
		}
	}
	for _, c := range []struct {
		a, b []byte
		want int
	}{{nil, nil, 0}, {nil, []byte{}, 0}, {[]byte{}, nil, 0}, {nil, []byte{0}, -1}, {[]byte{0}, nil, 1}} {
		if got := octet.Order(c.a, c.b); got != c.want {
			t.Errorf("P1.3: Order of %v, %v: %d", c.a, c.b, got)
		}
	}
}

// orderByWords tells the order by the chapter's words alone.
func orderByWords(a, b string) int {
	for i := 0; i < len(a) && i < len(b); i++ {
		if a[i] != b[i] {
			return cmp.Compare(a[i], b[i])
		}
	}
	return cmp.Compare(len(a), len(b))
}

func TestOrderIsByTheFirstByteThatDiffers(t *testing.T) {
	l := someStrings()
	for _, a := range l {
		for _, b := range l {
			if got, want := octet.Order([]byte(a), []byte(b)), orderByWords(a, b); got != want {
				t.Errorf("P1.3: Order of %q, %q: %d", a, b, got)
			}
		}
	}
}

func TestOrderChangesNothing(t *testing.T) {
	a, wholeA := spare("ab")
	b, wholeB := spare("ac")
	octet.Order(a, b)
	sameBehind(t, "Order", "ab", wholeA, nil)
	sameBehind(t, "Order", "ac", wholeB, nil)
}

func TestAfterIsTheBytesAndANought(t *testing.T) {
	for _, s := range append(someStrings(), strings.Repeat("q", 70000)) {
		if b := octet.After([]byte(s)); string(b) != s+"\x00" {
			t.Errorf("P1.3: After of %q: %q", s, b)
		}
	}
	if b := octet.After(nil); string(b) != "\x00" {
		t.Errorf("P1.3: After of nil: %q", b)
	}
}

func TestAfterHasNothingBetween(t *testing.T) {
	l := someStrings()
	for _, s := range l {
		after := octet.After([]byte(s))
		if octet.Order([]byte(s), after) != -1 {
			t.Errorf("P1.3: After of %q is not behind it", s)
		}
		for _, x := range l {
			if octet.Order([]byte(s), []byte(x)) == -1 && octet.Order([]byte(x), after) == -1 {
				t.Errorf("P1.3: %q is between %q and its After", x, s)
			}
		}
	}
}

func TestAfterAnswersNewMemory(t *testing.T) {
	for _, s := range []string{"", "x", "abcdefgh"} {
		b, whole := spare(s)
		sameBehind(t, "After", s, whole, octet.After(b))
	}
}

// P1.4

func TestNumbersThatWerePutAreTaken(t *testing.T) {
	for _, size := range rightSizes() {
		for _, n := range someNumbers() {
			want := n
			if size < 8 {
				want = n % (1 << (8 * size))
			}
			for _, ahead := range []string{"", "x", "\xff\xff\xff"} {
				for _, behind := range []string{"", "\x00", "\xff", "abcdefghij"} {
					b := append(octet.Put([]byte(ahead), n, size), behind...)
					if got, next, e := octet.Take(b, len(ahead), size); got != want || next != len(ahead)+size || e != api.OK {
						t.Errorf("P1.4: %x of %d bytes: %x, %d, %d", n, size, got, next, e)
					}
				}
			}
		}
	}
}

func TestStringsThatWerePutAreTaken(t *testing.T) {
	l := append(someStrings(), strings.Repeat("\xff", 255), strings.Repeat("\x00", 256), strings.Repeat("q", 65535))
	for _, s := range l {
		for _, ahead := range []string{"", "x", "\xff\xff\xff"} {
			for _, behind := range []string{"", "\x00", "\xff", "abcdefghij"} {
				b, e := octet.PutBytes([]byte(ahead), []byte(s))
				if e != api.OK {
					t.Fatalf("P1.4: %d bytes: %d", len(s), e)
				}
				b = append(b, behind...)
				if got, next, e := octet.TakeBytes(b, len(ahead)); string(got) != s || next != len(b)-len(behind) || e != api.OK {
					t.Errorf("P1.4: %d bytes: %d bytes, %d, %d", len(s), len(got), next, e)
				}
			}
		}
	}
}

func TestAMixOfThingsPutIsTakenInOrder(t *testing.T) {
	dice := rand.New(rand.NewSource(1))
	for range 200 {
		var b []byte
		var sizes []int // 0 for a byte string
		var numbers []uint64
		var texts [][]byte
		for range dice.Intn(20) {
			size := []int{0, 1, 2, 4, 8}[dice.Intn(5)]
			n := dice.Uint64()
			s := make([]byte, dice.Intn(300))
			dice.Read(s)
			if size == 0 {
				b, _ = octet.PutBytes(b, s)
			} else {
				b = octet.Put(b, n, size)
				n = n << (64 - 8*size) >> (64 - 8*size)
			}
			sizes, numbers, texts = append(sizes, size), append(numbers, n), append(texts, s)
		}
		at := 0
		for i, size := range sizes {
			var e api.Errno
			if size == 0 {
				var s []byte
				if s, at, e = octet.TakeBytes(b, at); !bytes.Equal(s, texts[i]) || e != api.OK {
					t.Fatalf("P1.4: thing %d: %d", i, e)
				}
				continue
			}
			var n uint64
			if n, at, e = octet.Take(b, at, size); n != numbers[i] || e != api.OK {
				t.Fatalf("P1.4: thing %d: %d", i, e)
			}
		}
		if at != len(b) {
			t.Fatalf("P1.4: %d bytes of %d were taken", at, len(b))
		}
	}
}

func TestNumbersOfOneSizeHaveTheOrderOfTheirBytes(t *testing.T) {
	for _, size := range rightSizes() {
		for _, m := range someNumbers() {
			for _, n := range someNumbers() {
				shift := 64 - 8*size
				m, n := m<<shift>>shift, n<<shift>>shift
				if got := octet.Order(octet.Put(nil, m, size), octet.Put(nil, n, size)); got != cmp.Compare(m, n) {
					t.Errorf("P1.4: %d and %d of %d bytes: %d", m, n, size, got)
				}
			}
		}
	}
}

func TestWhatIsBehindIsNotAheadOfAfter(t *testing.T) {
	l := someStrings()
	for _, s := range l {
		for _, x := range l {
			if octet.Order([]byte(x), []byte(s)) == 1 && octet.Order([]byte(x), octet.After([]byte(s))) == -1 {
				t.Errorf("P1.4: %q is behind %q and ahead of its After", x, s)
			}
		}
	}
}

// R1, R2 and R3, at whatever arguments

func TestEveryCallEndsAtAllArguments(t *testing.T) {
	lists := [][]byte{nil, {}, {0}, {0xff, 0xff}, []byte("\x00\x02abc"), make([]byte, 70000)}
	numbers := append(append(rightSizes(), wrongSizes()...), 70000, 70001)
	for _, a := range lists {
		for _, b := range lists {
			octet.Order(a, b)
			octet.PutBytes(a, b)
		}
		octet.After(a)
		for _, at := range numbers {
			octet.TakeBytes(a, at)
			octet.Put(a, uint64(at), at)
			for _, size := range numbers {
				octet.Take(a, at, size)
			}
		}
	}
}

func FuzzOctet(f *testing.F) {
	f.Add([]byte("\x00\x02abc"), 0, 2)
	f.Add([]byte(nil), 1, 3)
	f.Fuzz(func(t *testing.T, b []byte, at, size int) {
		was := string(b)
		n, next, e := octet.Take(b, at, size)
		switch {
		case e != api.OK && (n != 0 || next != 0):
			t.Errorf("R2: Take of %q, %d, %d: %d, %d, %d", b, at, size, n, next, e)
		case e == api.OK && string(octet.Put(b[:at:at], n, size)) != was[:next]:
			t.Errorf("P1.4: Take of %q, %d, %d: %d, %d", b, at, size, n, next)
		}
		s, next, e := octet.TakeBytes(b, at)
		if e != api.OK && (len(s) != 0 || next != 0) {
			t.Errorf("R2: TakeBytes of %q, %d: %q, %d, %d", b, at, s, next, e)
		}
		if e == api.OK {
			if again, _ := octet.PutBytes(b[:at:at], s); string(again) != was[:next] {
				t.Errorf("P1.4: TakeBytes of %q, %d: %q, %d", b, at, s, next)
			}
		}
		if string(b) != was {
			t.Error("R3: what was handed in is changed")
		}
	})
}
