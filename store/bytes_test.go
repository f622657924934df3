package store

import (
	"bytes"
	"math"
	"math/rand"
	"testing"

	"gablet/api"
	"gablet/device"
	"gablet/journal"
	"gablet/shadow"
	"gablet/tree"
)

// someCommits are commits that may be, at the edges of what keys and values may be.
func someCommits() [][]api.Write {
	l := [][]api.Write{nil}
	var all []api.Write
	for keySize := 1; keySize <= api.MaxKey; keySize++ {
		for _, valueSize := range []int{0, 1, 2, 31, 32, 33, 126, 127, 128} {
			for _, fill := range []byte{0, 1, 'a', 127, 128, 129, 255} {
				w := api.Write{Key: bytes.Repeat([]byte{fill}, keySize), Value: bytes.Repeat([]byte{fill}, valueSize)}
				l = append(l, []api.Write{w}, []api.Write{{Key: w.Key, Gone: true}}, []api.Write{{Key: append([]byte{2}, w.Key[1:]...), Gone: true}, w})
			}
		}
		all = append(all, api.Write{Key: bytes.Repeat([]byte{9}, keySize), Value: make([]byte, 4*keySize), Gone: false}, api.Write{Key: bytes.Repeat([]byte{8}, keySize), Gone: true})
	}
	return append(l, all)
}

func TestWhatIsRecordedIsTheCommit(t *testing.T) {
	for _, l := range someCommits() {
		got, is := recorded(record(l))
		if !is || len(got) != len(l) {
			t.Fatalf("P9.5: %d writes are recorded as %d, %v", len(l), len(got), is)
		}
		for i, w := range l {
			if !bytes.Equal(got[i].Key, w.Key) || !bytes.Equal(got[i].Value, w.Value) || got[i].Gone != w.Gone {
				t.Errorf("P9.5: a write of %d and %d bytes, gone %v, is recorded as %d, %d, %v", len(w.Key), len(w.Value), w.Gone, len(got[i].Key), len(got[i].Value), got[i].Gone)
			}
		}
	}
}

func TestTheGreatestRecordGoesIntoTheRing(t *testing.T) {
	l := make([]api.Write, api.MaxWrites)
	for i := range l {
		l[i] = api.Write{Key: make([]byte, api.MaxKey), Value: make([]byte, api.MaxValue)}
	}
	if n := journal.Blocks(len(record(l))); n > ringSize {
		t.Errorf("P9.4: a commit takes %d blocks of %d", n, ringSize)
	}
}

// noRecords are bytes that no commit has.
func noRecords() [][]byte {
	key := bytes.Repeat([]byte{'k'}, 33)
	l := [][]byte{{0}, {1}, {0, 0}, {1, 'a'}, {1, 'a', 1}, {2, 'a', 0}, {1, 'a', 130}, {1, 'a', 255}, {1, 'a', 0, 1}, {1, 'a', 0, 1, 'a', 0}, {1, 'a', 129, 1, 'a', 129}, {0, 129}, {32}, {33}, {255}, {129}}
	l = append(l, append(append([]byte{33}, key...), 0), append([]byte{33}, key...), append([]byte{32}, key...), append([]byte{1, 'a', 130}, make([]byte, 130)...), append([]byte{1, 'a', 255}, make([]byte, 255)...))
	whole := record(someCommits()[20])
	for n := 1; n < len(whole); n++ {
		l = append(l, whole[:n])
	}
	return l
}

func TestWhatIsNoRecord(t *testing.T) {
	for _, b := range noRecords() {
		if l, is := recorded(b); is {
			t.Errorf("%x is a commit of %d", b, len(l))
		}
	}
	dice := rand.New(rand.NewSource(1))
	for range 20000 {
		b := make([]byte, dice.Intn(60))
		for i := range b {
			b[i] = byte(dice.Intn(4) * dice.Intn(70))
		}
		if l, is := recorded(b); is && !bytes.Equal(record(l), b) {
			t.Errorf("%x is a commit that is recorded otherwise: %x", b, record(l))
		}
	}
}

// Open ends with an error, whatever stands in the place of commits and of roots.
func TestOpenOfOtherBytes(t *testing.T) {
	refused := func(what string, d *device.Device) {
		t.Helper()
		if s, e := Open(d); s != nil || e != api.ErrNone {
			t.Errorf("P9.2: Open of %s: %v, %d", what, s, e)
		}
		if _, e := New(d); e != api.OK {
			t.Errorf("P9.2: New over %s: %d", what, e)
		}
		if s, e := Open(d); s.Bytes() != 0 || e != api.OK {
			t.Errorf("P9.2: Open behind New over %s: %d", what, e)
		}
	}
	d, _ := device.New(442)
	New(d)
	for _, b := range noRecords() {
		j, _, e := journal.Open(d, ringFrom, ringSize, 0, 1)
		if e == api.OK {
			e = j.Append(b)
		}
		if e != api.OK {
			t.Fatal("the test's own Append: ", e)
		}
		refused("another record", d)
	}
	for _, r := range []root{{page: -2, seq: 1}, {page: 0, seq: 1}, {page: 79, seq: 1}, {page: 80, seq: 1}, {page: math.MaxInt, seq: 1}, {page: math.MinInt, seq: 1}, {page: tree.None, at: -1, seq: 1}, {page: tree.None, at: 360, seq: 1}, {page: tree.None, at: math.MinInt, seq: 1}, {page: tree.None, at: math.MaxInt, seq: 1}, {page: tree.None}, {page: tree.None, seq: 1<<62 + 1}, {page: tree.None, seq: math.MaxUint64}} {
		if e := shadow.Save(d, 7, r.body()); e != api.OK {
			t.Fatal("the test's own Save: ", e)
		}
		refused("another root", d)
	}
	own := root{page: tree.None, at: 5, seq: 1}.body()
	for _, body := range [][]byte{own[1:], own[len(sign):], own[:len(own)-1], append(own[:len(own):len(own)], 0), append([]byte("S"), own[1:]...), append(make([]byte, len(sign)), own[len(sign):]...)} {
		if e := shadow.Save(d, 8, body); e != api.OK {
			t.Fatal("the test's own Save: ", e)
		}
		refused("another root's body", d)
	}
	if e := shadow.Save(d, 9, own); e != api.OK {
		t.Fatal("the test's own Save: ", e)
	}
	if s, e := Open(d); s.Bytes() != 0 || e != api.OK {
		t.Error("P9.2: Open of a root of its own: ", e)
	}
}

func TestARootsBody(t *testing.T) {
	for _, r := range []root{{}, {page: tree.None, seq: 1}, {page: 3733, at: 359, seq: 1 << 62}, {page: 258, at: 257, seq: 0x0102030405060708}, {page: -1, at: -1, seq: math.MaxUint64}} {
		if got, is := opened(r.body()); got != r || !is {
			t.Errorf("P9.5: a root %v is told as %v, %v", r, got, is)
		}
	}
}
