package store_test

import (
	"bytes"
	"maps"
	"math"
	"math/rand"
	"slices"
	"strconv"
	"strings"
	"testing"

	"gablet/api"
	"gablet/block"
	"gablet/device"
	"gablet/journal"
	"gablet/pages"
	"gablet/shadow"
	"gablet/store"
	"gablet/tree"
)

// least is how many blocks a device of a store has at least, and leastRoom its room.
const (
	least     = 442
	leastRoom = 7781
)

// model are the pairs that a store is to hold.
type model map[string]string

// put is a write of a pair, gone one of a key whose pair shall not be there.
func put(key, value string) api.Write { return api.Write{Key: []byte(key), Value: []byte(value)} }
func gone(key string) api.Write       { return api.Write{Key: []byte(key), Gone: true} }

// behind is a model when a commit is done.
func (m model) behind(l ...api.Write) model {
	m = maps.Clone(m)
	if m == nil {
		m = model{}
	}
	for _, w := range l {
		if w.Gone {
			delete(m, string(w.Key))
		} else {
			m[string(w.Key)] = string(w.Value)
		}
	}
	return m
}

// keys are a model's, rising.
func (m model) keys() []string { return slices.Sorted(maps.Keys(m)) }

// counts are how many bytes all pairs count.
func (m model) counts() int {
	n := 0
	for key, value := range m {
		n += 4 + len(key) + len(value)
	}
	return n
}

// scan are the pairs that a Scan is to tell, a key and a value by turns.
func (m model) scan(from, to string) []string {
	l := []string{}
	for _, key := range m.keys() {
		if strings.Compare(key, from) >= 0 && (to == "" || strings.Compare(key, to) < 0) {
			l = append(l, key, m[key])
		}
	}
	return l
}

// list is the commit that makes a model of nothing.
func (m model) list() []api.Write {
	l := []api.Write{}
	for _, key := range m.keys() {
		l = append(l, put(key, m[key]))
	}
	return l
}

// refusal is the error of a Commit by the order that the chapter tells; OK, if there is none.
func (m model) refusal(room int, l []api.Write) api.Errno {
	if len(l) > 1000 {
		return api.ErrMany
	}
	seen := map[string]bool{}
	for _, w := range l {
		key := string(w.Key)
		if len(key) == 0 || len(key) > 32 || len(w.Value) > 128 || w.Gone && len(w.Value) > 0 || seen[key] {
			return api.ErrArg
		}
		seen[key] = true
	}
	if m.behind(l...).counts() > room {
		return api.ErrFull
	}
	return api.OK
}

// flat are pairs, a key and a value by turns.
func flat(l []api.Pair) []string {
	out := []string{}
	for _, pair := range l {
		out = append(out, string(pair.Key), string(pair.Value))
	}
	return out
}

// text are bytes of a length, others for each n, and the same each time.
func text(n, length int) string {
	b := make([]byte, length)
	rand.New(rand.NewSource(int64(10000*n + length))).Read(b)
	return string(b)
}

// told holds an error against the one that is wanted.
func told(t testing.TB, what string, got, want api.Errno) {
	t.Helper()
	if got != want {
		t.Errorf("%s: %d and not %d", what, got, want)
	}
}

// newDevice answers a device that is on, or ends the test.
func newDevice(t testing.TB, blocks int) *device.Device {
	t.Helper()
	d, e := device.New(blocks)
	if e != api.OK {
		t.Fatalf("a device of %d blocks: %d", blocks, e)
	}
	return d
}

// made answers a store that holds nothing, or ends the test.
func made(t testing.TB, what string, d *device.Device) *store.Store {
	t.Helper()
	s, e := store.New(d)
	if s == nil || e != api.OK {
		t.Fatalf("P9.2: %s: New: %d", what, e)
	}
	return s
}

// opened answers the store that is there, or ends the test.
func opened(t testing.TB, what string, d *device.Device) *store.Store {
	t.Helper()
	s, e := store.Open(d)
	if s == nil || e != api.OK {
		t.Fatalf("P9.2: %s: Open: %d", what, e)
	}
	return s
}

// committed does a commit that may be.
func committed(t testing.TB, what string, s *store.Store, l ...api.Write) {
	t.Helper()
	told(t, "P9.4: "+what+": Commit", s.Commit(l), api.OK)
}

// holds checks all that a store tells.
func holds(t testing.TB, what string, s *store.Store, m model) {
	t.Helper()
	if n := s.Bytes(); n != m.counts() {
		t.Errorf("P9.3: %s: Bytes %d and not %d", what, n, m.counts())
	}
	l, e := s.Scan(nil, nil)
	if got, want := flat(l), m.scan("", ""); !slices.Equal(got, want) || e != api.OK {
		t.Errorf("P9.3: %s: Scan %d: %d pairs %.40q and not %d %.40q", what, e, len(got)/2, got, len(want)/2, want)
	}
	for key, value := range m {
		if v, is, e := s.Get([]byte(key)); string(v) != value || !is || e != api.OK {
			t.Errorf("P9.3: %s: Get of %q: %.20q, %v, %d and not %.20q", what, key, v, is, e, value)
		}
		for _, next := range []string{key + "\x00", key[1:]} {
			if _, there := m[next]; !there {
				lacks(t, what, s, next)
			}
		}
	}
}

// lacks checks that a store has no pair of a key.
func lacks(t testing.TB, what string, s *store.Store, key string) {
	t.Helper()
	if v, is, e := s.Get([]byte(key)); len(v) > 0 || is || e != api.OK {
		t.Errorf("P9.3: %s: Get of %.40q, which is not there: %q, %v, %d", what, key, v, is, e)
	}
}

// crashed turns the power off, if it is on, and on.
func crashed(t testing.TB, d *device.Device, picks ...int) {
	t.Helper()
	if d.Power() {
		told(t, "Off", d.Off(), api.OK)
	}
	told(t, "On", d.On(picks...), api.OK)
}

// kept checks what is held behind a loss of power, and when it is opened once more.
func kept(t testing.TB, what string, d *device.Device, m model) *store.Store {
	t.Helper()
	crashed(t, d)
	holds(t, what+", opened", opened(t, what, d), m)
	s := opened(t, what+", once more", d)
	holds(t, what+", opened once more", s, m)
	return s
}

// dead checks that each call of a store tells that the power is off.
func dead(t testing.TB, what string, s *store.Store) {
	t.Helper()
	if v, is, e := s.Get([]byte("a")); len(v) > 0 || is || e != api.ErrPower {
		t.Errorf("P9.3: %s: Get of a dead store: %q, %v, %d", what, v, is, e)
	}
	if v, is, e := s.Get(nil); len(v) > 0 || is || e != api.ErrPower {
		t.Errorf("P9.3: %s: Get of nothing of a dead store: %q, %v, %d", what, v, is, e)
	}
	if l, e := s.Scan(nil, nil); len(l) > 0 || e != api.ErrPower {
		t.Errorf("P9.3: %s: Scan of a dead store: %d, %d", what, len(l), e)
	}
	if n := s.Bytes(); n != 0 {
		t.Errorf("P9.3: %s: Bytes of a dead store: %d", what, n)
	}
	for _, l := range [][]api.Write{nil, {put("a", "1")}, {put("", "")}, {gone("a"), gone("a")}, make([]api.Write, 1001)} {
		told(t, "P9.4: "+what+": Commit of a dead store", s.Commit(l), api.ErrPower)
	}
	told(t, "P9.4: "+what+": Checkpoint of a dead store", s.Checkpoint(), api.ErrPower)
}

// many are writes of pairs with keys of their own that begin with a name, each of which counts so many bytes.
func many(name string, n, size int) []api.Write {
	l := []api.Write{}
	for i := range n {
		key := name + strconv.Itoa(1000+i)
		for len(key) < size-4-128 {
			key += "."
		}
		l = append(l, put(key, text(i, size-4-len(key))))
	}
	return l
}

func TestNumbersThatAreGiven(t *testing.T) {
	if api.ErrArg != 1 || api.ErrNil != 2 || api.ErrNone != 4 || api.ErrMany != 6 || api.ErrFull != 7 || api.ErrPower != 8 || api.OK != 0 {
		t.Error("the errors' numbers")
	}
	if api.MaxKey != 32 || api.MaxValue != 128 || api.MaxWrites != 1000 || api.MaxBlocks != 4096 || api.BlockSize != 512 {
		t.Error("the limits")
	}
}

func TestTheChaptersExamples(t *testing.T) {
	for blocks, want := range map[int]int{441: 0, 442: 7781, 3000: 264554} {
		if got := store.Room(blocks); got != want {
			t.Errorf("P9.1: Room of %d: %d and not %d", blocks, got, want)
		}
	}
	d := newDevice(t, 3000)
	s := made(t, "the first row", d)
	committed(t, "the first row", s, put("a", "1"), put("b", "2"))
	holds(t, "the first row", s, model{"a": "1", "b": "2"})
	if s.Bytes() != 12 {
		t.Errorf("P9.3: Bytes %d and not 12", s.Bytes())
	}
	told(t, "P9.4: a Gone, a: 3", s.Commit([]api.Write{gone("a"), put("a", "3")}), api.ErrArg)
	committed(t, "the second row", s, gone("a"), put("c", "3"))
	lacks(t, "the second row", s, "a")
	if v, is, e := s.Get([]byte("c")); string(v) != "3" || !is || e != api.OK {
		t.Errorf("P9.3: Get c: %q, %v, %d", v, is, e)
	}
	crashed(t, d)
	l, e := opened(t, "the third row", d).Scan([]byte("b"), []byte("c"))
	if !slices.Equal(flat(l), []string{"b", "2"}) || e != api.OK {
		t.Errorf("P9.3: Scan from b to c: %q, %d", flat(l), e)
	}
}

// P9.1

// roomOf is the chapter's sum, by counting.
func roomOf(blocks int) int {
	t := 0
	for rest := blocks - 362; rest >= 2; rest -= 2 {
		t++
	}
	if t < 40 {
		return 0
	}
	fifths := 0
	for 5*(fifths+1) <= 4*t {
		fifths++
	}
	return (fifths - 1) * 251
}

func TestRoom(t *testing.T) {
	for blocks := -500; blocks <= 5000; blocks++ {
		if got, want := store.Room(blocks), roomOf(blocks); got != want {
			t.Errorf("P9.1: Room of %d: %d and not %d", blocks, got, want)
		}
	}
	for blocks, want := range map[int]int{
		math.MinInt: 0, math.MinInt + 1: 0, math.MinInt + 361: 0, math.MinInt + 362: 0, math.MinInt + 363: 0, math.MinInt32: 0, -442: 0, -1: 0, 0: 0, 1: 0,
		361: 0, 362: 0, 363: 0, 441: 0, 442: 7781, 443: 7781, 444: 7781, 445: 7781, 446: 8032, 450: 8534, 452: 8785, 454: 8785, 4095: 374241, 4096: 374492, 1 << 20: 105240284,
	} {
		if got := store.Room(blocks); got != want {
			t.Errorf("P9.1: Room of %d: %d and not %d", blocks, got, want)
		}
	}
	store.Room(math.MaxInt) // more than any answer could tell: it ends, and no more
}

// P9.2

func TestWhatNewAndOpenRefuse(t *testing.T) {
	if s, e := store.New(nil); s != nil || e != api.ErrNil {
		t.Errorf("P9.2: New on no device: %v, %d", s, e)
	}
	if s, e := store.Open(nil); s != nil || e != api.ErrNil {
		t.Errorf("P9.2: Open of no device: %v, %d", s, e)
	}
	for _, blocks := range []int{1, 2, 3, 40, 361, 362, 363, 402, 440, 441, 442, 443, 444, 500, 3000, 4095, 4096} {
		d := newDevice(t, blocks)
		forNew, forOpen := api.ErrArg, api.ErrArg
		if blocks >= 442 {
			forNew, forOpen = api.OK, api.ErrNone
		}
		told(t, "Off", d.Off(), api.OK)
		if s, e := store.Open(d); s != nil || e != api.ErrPower {
			t.Errorf("P9.2: Open of %d blocks that are off: %v, %d", blocks, s, e)
		}
		if s, e := store.New(d); s != nil || e != api.ErrPower {
			t.Errorf("P9.2: New on %d blocks that are off: %v, %d", blocks, s, e)
		}
		if d.Power() {
			t.Error("P9.2: the power came")
		}
		told(t, "On", d.On(), api.OK)
		if s, e := store.Open(d); s != nil || e != forOpen {
			t.Errorf("P9.2: Open of %d blocks: %v, %d and not %d", blocks, s, e, forOpen)
		}
		if s, e := store.New(d); (s != nil) != (forNew == api.OK) || e != forNew {
			t.Errorf("P9.2: New on %d blocks: %v, %d and not %d", blocks, s, e, forNew)
		}
		if forNew == api.OK {
			kept(t, "a new store", d, model{})
			told(t, "Off", d.Off(), api.OK)
			if s, e := store.Open(d); s != nil || e != api.ErrPower {
				t.Errorf("P9.2: Open of a store that is off: %v, %d", s, e)
			}
			if s, e := store.New(d); s != nil || e != api.ErrPower {
				t.Errorf("P9.2: New over a store that is off: %v, %d", s, e)
			}
		}
	}
}

func TestWhatNewRefusesTurnsNothing(t *testing.T) {
	d := newDevice(t, 441)
	for k := range 441 {
		told(t, "Write", d.Write(k, bytes.Repeat([]byte{byte(k)}, 512)), api.OK)
	}
	store.New(d)
	store.Open(d)
	for k := range 441 {
		if b, e := d.Read(k); !bytes.Equal(b, bytes.Repeat([]byte{byte(k)}, 512)) || e != api.OK {
			t.Errorf("R2: block %d was turned", k)
		}
	}
	crashed(t, d)
	for k := range 441 {
		if b, e := d.Read(k); !bytes.Equal(b, make([]byte, 512)) || e != api.OK {
			t.Errorf("R2: block %d was flushed", k)
		}
	}
}

func TestOpenTellsWhatIsHeld(t *testing.T) {
	d := newDevice(t, 500)
	s, m := made(t, "at first", d), model{}
	kept(t, "nothing", d, m)
	for i, l := range [][]api.Write{
		{put("a", "1")}, {put("b", ""), put("c", text(1, 128))}, {put("a", "2")}, {gone("b")}, {}, {put("b", "back"), gone("a"), gone("never")}, {put(text(2, 32), text(3, 128)), put("\x00", "\x00"), put("\xff", "\xff\xff")}, {gone("c"), put("cc", "c")}, {put("a", "3")},
	} {
		what := "commit " + strconv.Itoa(i)
		committed(t, what, s, l...)
		m = m.behind(l...)
		holds(t, what, s, m)
		s = kept(t, what, d, m)
		if i%3 == 2 {
			told(t, "P9.4: Checkpoint", s.Checkpoint(), api.OK)
			holds(t, what+", a checkpoint", s, m)
			s = kept(t, what+", a checkpoint", d, m)
		}
	}
}

func TestOpenLeavesAStoreThatIsUsedAlone(t *testing.T) {
	d := newDevice(t, least)
	s, m := made(t, "at first", d), model{}
	for i := range 400 {
		l := []api.Write{put("key "+strconv.Itoa(i%20), text(i, i%129)), gone("key " + strconv.Itoa(20+i%3))}
		committed(t, "one more", s, l...)
		m = m.behind(l...)
		holds(t, "looked at", opened(t, "looked at", d), m)
		if i%50 == 49 {
			told(t, "P9.4: Checkpoint", s.Checkpoint(), api.OK)
			holds(t, "looked at behind a checkpoint", opened(t, "looked at", d), m)
		}
	}
	kept(t, "at last", d, m)
}

func TestNewTakesAllThatWasThere(t *testing.T) {
	first := [][]api.Write{{put("a", "1")}, {put("b", "2"), put("c", text(1, 100))}, many("m", 40, 100), {gone("a"), put("d", "4")}, {put("e", "5")}}
	for checkpoint := -1; checkpoint < len(first); checkpoint++ {
		for again := range len(first) + 1 {
			d := newDevice(t, least)
			s := made(t, "the first one", d)
			for i, l := range first {
				committed(t, "of the first one", s, l...)
				if i == checkpoint {
					told(t, "P9.4: Checkpoint", s.Checkpoint(), api.OK)
				}
			}
			s = made(t, "the second one", d)
			holds(t, "a new store", s, model{})
			s, m := kept(t, "a new store", d, model{}), model{}
			// The same commits again must not bring back those that came behind them.
			for _, l := range first[:again] {
				committed(t, "of the second one", s, l...)
				m = m.behind(l...)
			}
			holds(t, "the same again", s, m)
			kept(t, "the same again", d, m)
		}
	}
}

// planted are devices on which something stands that is no store.
func planted(t testing.TB) map[string]*device.Device {
	t.Helper()
	l := map[string]*device.Device{}
	plant := func(name string, do func(d *device.Device) api.Errno) {
		d := newDevice(t, least)
		told(t, "the test's own "+name, do(d), api.OK)
		told(t, "Flush", d.Flush(), api.OK)
		l[name] = d
	}
	fill := func(of func(k int) []byte) func(d *device.Device) api.Errno {
		return func(d *device.Device) api.Errno {
			for k := range d.Size() {
				if e := d.Write(k, of(k)); e != api.OK {
					return e
				}
			}
			return api.OK
		}
	}
	plant("noughts", fill(func(k int) []byte { return make([]byte, 512) }))
	plant("ones", fill(func(k int) []byte { return bytes.Repeat([]byte{0xff}, 512) }))
	plant("noise", fill(func(k int) []byte { return []byte(text(k, 512)) }))
	for kind := range 6 {
		plant("sealed blocks of the kind "+strconv.Itoa(kind+1), fill(func(k int) []byte {
			b, _ := block.Seal(uint8(kind+1), []byte(text(k, k%506)))
			return b
		}))
	}
	for _, gen := range []uint64{1, 2, 3, 255, 256, 1 << 61, 1<<62 - 1, 1 << 62} {
		for _, length := range []int{0, 1, 4, 5, 8, 12, 16, 20, 24, 28, 29, 30, 32, 40, 100, 479, 480} {
			for name, body := range map[string]string{"noughts": strings.Repeat("\x00", length), "ones": strings.Repeat("\xff", length), "noise": text(length, length), "text": strings.Repeat("store", 96)[:length]} {
				plant("a root of "+strconv.FormatUint(gen, 10)+", "+strconv.Itoa(length)+" "+name, func(d *device.Device) api.Errno { return shadow.Save(d, gen, []byte(body)) })
			}
		}
	}
	plant("two roots", func(d *device.Device) api.Errno {
		return max(shadow.Save(d, 1<<62, []byte("x")), shadow.Save(d, 1<<62-1, []byte("y")))
	})
	for _, seq := range []uint64{1, 2, 3, 361, 1 << 62} {
		plant("a journal of "+strconv.FormatUint(seq, 10), func(d *device.Device) api.Errno {
			j, _, e := journal.Open(d, 2, 360, 0, seq)
			for i := 0; e == api.OK && i < 20; i++ {
				e = j.Append([]byte(text(i, i*20)))
			}
			return e
		})
	}
	plant("a tree", func(d *device.Device) api.Errno {
		p, _ := pages.New(80)
		x, e := tree.New(d, p, 362)
		if e == api.OK {
			_, e = x.Build([]api.Pair{{Key: []byte("a"), Value: []byte("1")}})
		}
		return e
	})
	return l
}

func TestWhereNoStoreIs(t *testing.T) {
	for name, d := range planted(t) {
		if s, e := store.Open(d); s != nil || e != api.ErrNone {
			t.Errorf("P9.2: Open of %s: %v, %d", name, s, e)
		}
		s := made(t, name, d)
		holds(t, "over "+name, s, model{})
		committed(t, "over "+name, s, put("a", "1"))
		told(t, "P9.4: Checkpoint", s.Checkpoint(), api.OK)
		committed(t, "over "+name, s, put("b", "2"))
		kept(t, "over "+name, d, model{"a": "1", "b": "2"})
	}
}

// What a store wrote to some of its blocks is no store without the others.
func TestPartsOfAStore(t *testing.T) {
	d := newDevice(t, least)
	s := made(t, "the whole", d)
	committed(t, "the whole", s, many("a", 60, 100)...)
	told(t, "P9.4: Checkpoint", s.Checkpoint(), api.OK)
	committed(t, "the whole", s, many("b", 10, 100)...)
	for _, c := range []struct {
		name     string
		from, to int
	}{{"the roots gone", 0, 2}, {"the pages gone", 362, least}} {
		part := newDevice(t, least)
		for k := range least {
			if k < c.from || k >= c.to {
				b, _ := d.Read(k)
				told(t, "Write", part.Write(k, b), api.OK)
			}
		}
		if s, e := store.Open(part); s != nil || e != api.ErrNone {
			t.Errorf("P9.2: %s: Open %v, %d", c.name, s, e)
		}
		s := made(t, c.name, part)
		committed(t, c.name, s, many("a", 60, 100)...)
		kept(t, c.name, part, model{}.behind(many("a", 60, 100)...))
	}
	holds(t, "the whole", opened(t, "the whole", d), model{}.behind(append(many("a", 60, 100), many("b", 10, 100)...)...))
}

// P9.3

func TestGetAndScan(t *testing.T) {
	d := newDevice(t, 600)
	s, m := made(t, "at first", d), model{}
	for _, key := range []string{"", "\x00", "a", "\xff", text(1, 32), text(1, 33), text(1, 1<<20)} {
		lacks(t, "of nothing", s, key)
	}
	keys := []string{"\x00", "\x00\x00", "\x00\xff", "\x01", "a", "a\x00", "a\x00\x00", "aa", "ab", "a\xff", "b", "ba", "c", "\x7f", "\x80", "\xfe", "\xff", "\xff\x00", "\xff\xff", strings.Repeat("\xff", 32), strings.Repeat("a", 31), strings.Repeat("a", 32), strings.Repeat("\x00", 32)}
	values := []string{"", "\x00", "v", text(7, 127), text(7, 128), "\x81", "\x80\x80", strings.Repeat("\x00", 128), strings.Repeat("\xff", 128)}
	for i, key := range keys {
		committed(t, "one key more", s, put(key, values[i%len(values)]))
		m = m.behind(put(key, values[i%len(values)]))
	}
	for round := range 3 {
		holds(t, "some keys", s, m)
		for _, key := range []string{"", "A", "aab", "d", text(1, 32), text(1, 33), strings.Repeat("a", 33), strings.Repeat("\xff", 33), strings.Repeat("\x00", 33), text(1, 1<<20)} {
			lacks(t, "some keys", s, key)
		}
		ends := append([]string{"", "A", "aab", "b\x00", "bb", strings.Repeat("a", 33), strings.Repeat("\xff", 33), text(2, 1000)}, keys...)
		for _, from := range ends {
			for _, to := range ends {
				l, e := s.Scan([]byte(from), []byte(to))
				if got, want := flat(l), m.scan(from, to); !slices.Equal(got, want) || e != api.OK {
					t.Errorf("P9.3: Scan from %.40q to %.40q: %.40q, %d and not %.40q", from, to, got, e, want)
				}
			}
		}
		switch round {
		case 0:
			told(t, "P9.4: Checkpoint", s.Checkpoint(), api.OK)
		case 1:
			s = kept(t, "some keys", d, m)
		}
	}
	if l, e := s.Scan([]byte("c"), []byte("b")); len(l) > 0 || e != api.OK {
		t.Errorf("P9.3: Scan of a to that is ahead of from: %d, %d", len(l), e)
	}
	if l, e := s.Scan([]byte("b"), []byte("b")); len(l) > 0 || e != api.OK {
		t.Errorf("P9.3: Scan of a to that is from: %d, %d", len(l), e)
	}
	if l, e := s.Scan([]byte{}, []byte{}); len(l) != len(keys) || e != api.OK {
		t.Errorf("P9.3: Scan of empty ends that are not nil: %d, %d", len(l), e)
	}
}

func TestBytes(t *testing.T) {
	s := made(t, "at first", newDevice(t, least))
	for _, c := range []struct {
		l    []api.Write
		want int
	}{
		{nil, 0}, {[]api.Write{gone("x")}, 0}, {[]api.Write{put("a", "")}, 5}, {[]api.Write{put("a", "1")}, 6}, {[]api.Write{put("a", "1")}, 6}, {[]api.Write{put("bb", "22")}, 14}, {[]api.Write{put("a", "")}, 13}, {[]api.Write{gone("a"), put("c", "")}, 13},
		{[]api.Write{put(text(1, 32), text(1, 128))}, 177}, {[]api.Write{put(text(1, 32), "")}, 49}, {[]api.Write{gone(text(1, 32)), gone("bb"), gone("c")}, 0}, {[]api.Write{gone("a")}, 0},
	} {
		committed(t, "counted", s, c.l...)
		if got := s.Bytes(); got != c.want {
			t.Errorf("P9.3: Bytes %d and not %d", got, c.want)
		}
	}
}

// P9.4

// longer is a string of a length; one and two bytes tell some of those that may not be as one that may.
func longer(length int) string { return strings.Repeat("x", length) }

func TestWhatCommitRefuses(t *testing.T) {
	d := newDevice(t, least)
	s, m := made(t, "at first", d), model{}
	first := []api.Write{put("a", "1"), put("b", "2"), put(text(1, 32), text(1, 128))}
	committed(t, "the first", s, first...)
	m = m.behind(first...)
	ones := []api.Write{put("", ""), put("", "v"), gone(""), {}, {Gone: true, Value: []byte("v")}, {Key: []byte("a"), Value: []byte("1"), Gone: true}, {Key: []byte("n"), Value: []byte("v"), Gone: true}, {Key: []byte("a"), Value: []byte(longer(128)), Gone: true}}
	for _, length := range []int{33, 34, 64, 128, 255, 256, 256 + 1, 256 + 32, 65536, 65536 + 1, 1 << 20} {
		ones = append(ones, put(longer(length), "v"), gone(longer(length)))
	}
	for _, length := range []int{129, 130, 254, 255, 256, 256 + 1, 384, 65536, 65536 + 1, 1 << 20} {
		ones = append(ones, put("k", longer(length)), put("a", longer(length)))
	}
	refused := func(what string, l []api.Write, want api.Errno) {
		t.Helper()
		if e := m.refusal(leastRoom, l); e != want {
			t.Errorf("the test's own %s: %d and not %d", what, e, want)
		}
		told(t, "P9.4: Commit of "+what, s.Commit(l), want)
		if s.Bytes() != m.counts() {
			t.Errorf("R2: %s turned what is held", what)
		}
	}
	for _, w := range ones {
		what := "a write of " + strconv.Itoa(len(w.Key)) + " and " + strconv.Itoa(len(w.Value)) + " bytes"
		refused(what, []api.Write{w}, api.ErrArg)
		refused(what+", the last", []api.Write{put("c", "3"), put("d", "4"), w}, api.ErrArg)
		refused(what+", the first", []api.Write{w, put("c", "3"), gone("a")}, api.ErrArg)
	}
	for i, l := range [][]api.Write{
		{put("a", "1"), put("a", "1")}, {put("a", "1"), put("a", "2")}, {gone("a"), put("a", "3")}, {put("a", "3"), gone("a")}, {gone("a"), gone("a")}, {gone("n"), gone("n")}, {put("n", "1"), put("o", "2"), put("n", "3")}, append(many("m", 50, 50), put("m1000", "")), append(many("m", 998, 10), put("z", ""), put("z", "")),
	} {
		refused("two of one key, "+strconv.Itoa(i), l, api.ErrArg)
	}
	refused("1,001 that may not be", make([]api.Write, 1001), api.ErrMany)
	refused("1,001 of one key", slices.Repeat([]api.Write{put("a", "1")}, 1001), api.ErrMany)
	refused("1,001 that go beyond the room", many("m", 1001, 100), api.ErrMany)
	refused("1,001 that are not there", func() (l []api.Write) {
		for i := range 1001 {
			l = append(l, gone("n"+strconv.Itoa(i)))
		}
		return l
	}(), api.ErrMany)
	refused("70,000", make([]api.Write, 70000), api.ErrMany)
	refused("what goes beyond the room and may not be", append(many("m", 100, 150), put("", "")), api.ErrArg)
	refused("what goes beyond the room", many("m", 100, 150), api.ErrFull)
	holds(t, "what was refused", s, m)
	kept(t, "what was refused", d, m)
}

func TestCommitsOfSomeSizes(t *testing.T) {
	d := newDevice(t, 3000)
	s, m := made(t, "at first", d), model{}
	for _, n := range []int{0, 1, 2, 10, 500, 999, 1000, 1000, 1000, 1, 0, 1000} {
		var l []api.Write
		for i := range n {
			key := text(i+n%7, 32)
			l = append(l, put(key, text(i*n, 128)))
		}
		committed(t, "of "+strconv.Itoa(n), s, l...)
		m = m.behind(l...)
		holds(t, "of "+strconv.Itoa(n), s, m)
	}
	s = kept(t, "some sizes", d, m)
	var l []api.Write
	for i, key := range m.keys() {
		if i%2 == 0 && len(l) < 1000 {
			l = append(l, gone(key))
		}
	}
	committed(t, "of many that are gone", s, l...)
	m = m.behind(l...)
	holds(t, "many that are gone", s, m)
	kept(t, "many that are gone", d, m)
}

func TestJustAsManyBytesAsThereIsRoomFor(t *testing.T) {
	for _, blocks := range []int{442, 443, 444, 446, 500, 600} {
		d := newDevice(t, blocks)
		s, m, room := made(t, "at first", d), model{}, roomOf(blocks)
		fill := func(count int) {
			t.Helper()
			for i := 0; count > 0; i++ {
				size := min(count, 150)
				if rest := count - size; rest > 0 && rest < 20 {
					size -= 20
				}
				count -= size
				l := many("fill "+strconv.Itoa(len(m)), 1, size)
				committed(t, "below the room", s, l...)
				m = m.behind(l...)
			}
		}
		full := func(what string, l ...api.Write) {
			t.Helper()
			told(t, "P9.4: "+what, s.Commit(l), api.ErrFull)
			holds(t, what, s, m)
		}
		fill(room - 20)
		full("one more than there is room for", put("12345678", "123456789"))
		committed(t, "one less", s, put("12345678", "1234567"))
		m = m.behind(put("12345678", "1234567"))
		full("a value of two bytes more", put("12345678", "123456789"))
		full("a pair more", put("k", ""))
		committed(t, "just as many", s, put("12345678", "12345678"))
		m = m.behind(put("12345678", "12345678"))
		if s.Bytes() != room {
			t.Errorf("P9.3: Bytes %d and not %d", s.Bytes(), room)
		}
		holds(t, "full", s, m)
		s = kept(t, "full", d, m)
		full("a byte more", put("12345678", "123456789"))
		full("the least pair", put("k", ""))
		full("a pair more, one byte of another less", put("k", ""), put("12345678", "1234567"))
		full("a pair more, another one four bytes less", put("k", ""), put("12345678", "1234"))
		committed(t, "as many", s, put("k", ""), put("12345678", "123"))
		m = m.behind(put("k", ""), put("12345678", "123"))
		holds(t, "as many", s, m)
		committed(t, "of nothing", s)
		committed(t, "of what is not there", s, gone("never"))
		committed(t, "of the same", s, put("k", ""))
		full("a pair more, what goes is not there", put("l", ""), gone("never"))
		told(t, "P9.4: Checkpoint", s.Checkpoint(), api.OK)
		full("a pair more, behind a checkpoint", put("l", ""))
		committed(t, "one for another", s, gone("k"), put("l", ""))
		m = m.behind(gone("k"), put("l", ""))
		s = kept(t, "as many still", d, m)
		var l []api.Write
		for _, key := range m.keys() {
			l = append(l, gone(key))
		}
		committed(t, "all gone", s, l...)
		m = model{}
		s = kept(t, "all gone", d, m)
		fill(room)
		full("the least pair, filled again", put("k", ""))
		kept(t, "filled again", d, m)
	}
}

func TestCheckpointTurnsNothing(t *testing.T) {
	d := newDevice(t, least)
	s, m := made(t, "at first", d), model{}
	for i := range 12 {
		for range 3 {
			told(t, "P9.4: Checkpoint", s.Checkpoint(), api.OK)
			holds(t, "a checkpoint", s, m)
		}
		s = kept(t, "some checkpoints", d, m)
		l := many("key "+strconv.Itoa(i%5)+" ", 10, 60+i)
		if i%4 == 3 {
			for k := range l {
				l[k] = gone(string(l[k].Key))
			}
		}
		committed(t, "behind checkpoints", s, l...)
		m = m.behind(l...)
	}
	kept(t, "at last", d, m)
}

func TestWhatIsAnsweredIsSure(t *testing.T) {
	d := newDevice(t, least)
	s, m := made(t, "at first", d), model{}
	for i := range 300 {
		l := []api.Write{put("k"+strconv.Itoa(i%17), strconv.Itoa(i)), gone("k" + strconv.Itoa((i+5)%17))}
		committed(t, "ahead of the power", s, l...)
		m = m.behind(l...)
		// Its device told this store nothing, so that it is not dead.
		crashed(t, d, i, i+1, i+2)
		holds(t, "behind the power", s, m)
		if i%10 == 0 {
			holds(t, "behind the power, opened", opened(t, "sure", d), m)
		}
		if i%100 == 99 {
			told(t, "P9.4: Checkpoint", s.Checkpoint(), api.OK)
		}
	}
	kept(t, "at last", d, m)
}

func TestADeadStore(t *testing.T) {
	for name, do := range map[string]func(s *store.Store) api.Errno{
		"Commit":                   func(s *store.Store) api.Errno { return s.Commit([]api.Write{put("z", "9")}) },
		"Commit of what was there": func(s *store.Store) api.Errno { return s.Commit([]api.Write{put("a", "1")}) },
		"Checkpoint":               func(s *store.Store) api.Errno { return s.Checkpoint() },
	} {
		for _, armed := range []bool{false, true} {
			d := newDevice(t, least)
			s, m := made(t, "at first", d), model{"a": "1", "b": "2"}
			committed(t, "the first", s, m.list()...)
			if armed {
				told(t, "Arm", d.Arm(0), api.OK)
			} else {
				told(t, "Off", d.Off(), api.OK)
			}
			told(t, "R2: 1,001 writes that are refused", s.Commit(make([]api.Write, 1001)), api.ErrMany)
			told(t, "R2: a write that is refused", s.Commit([]api.Write{{}}), api.ErrArg)
			told(t, "R2: writes beyond the room", s.Commit(many("m", 100, 150)), api.ErrFull)
			holds(t, "what was refused kills nothing", s, m)
			told(t, "P9.4: "+name, do(s), api.ErrPower)
			dead(t, name, s)
			told(t, "On", d.On(), api.OK)
			dead(t, name+", the power is back", s)
			other := opened(t, name, d)
			dead(t, name+", another one is opened", s)
			holds(t, "behind a dead one", other, m)
			committed(t, "behind a dead one", other, put("c", "3"))
			kept(t, "behind a dead one", d, m.behind(put("c", "3")))
			made(t, "over a dead one", d)
			dead(t, name+", another one is made", s)
		}
	}
}

// R3, R4

func TestNoStore(t *testing.T) {
	var s *store.Store
	for _, key := range [][]byte{nil, []byte("a"), make([]byte, 33)} {
		if v, is, e := s.Get(key); len(v) > 0 || is || e != api.ErrNil {
			t.Errorf("R4: Get of no store: %q, %v, %d", v, is, e)
		}
		if l, e := s.Scan(key, key); len(l) > 0 || e != api.ErrNil {
			t.Errorf("R4: Scan of no store: %d, %d", len(l), e)
		}
	}
	for _, l := range [][]api.Write{nil, {put("a", "1")}, {{}}, make([]api.Write, 1001)} {
		told(t, "R4: Commit of no store", s.Commit(l), api.ErrNil)
	}
	told(t, "R4: Checkpoint of no store", s.Checkpoint(), api.ErrNil)
	if n := s.Bytes(); n != 0 {
		t.Errorf("P9.3: Bytes of no store: %d", n)
	}
}

// roomy is a byte string with bytes of others behind its end.
func roomy(s string) []byte {
	b := append([]byte(s), "behind the end"...)
	return b[:len(s)]
}

func TestNothingHandedInIsKeptOrChanged(t *testing.T) {
	d := newDevice(t, least)
	s := made(t, "at first", d)
	for _, e := range []api.Errno{api.OK, api.ErrArg, api.ErrFull} {
		all := []api.Write{{Key: roomy("a"), Value: roomy("1")}, {Key: roomy("b"), Value: roomy("")}, {Key: roomy("c"), Gone: true}, {Key: roomy("d"), Value: roomy(text(1, 128))}, {Key: roomy("behind"), Value: roomy("the end")}}
		l := all[:4]
		switch e {
		case api.ErrArg:
			l[3].Key = roomy("a")
		case api.ErrFull:
			l = append(l, many("m", 100, 150)...)
		}
		want := slices.Clone(l)
		for i, w := range l {
			want[i].Key, want[i].Value = bytes.Clone(w.Key[:cap(w.Key)]), bytes.Clone(w.Value[:cap(w.Value)])
		}
		told(t, "P9.4: Commit", s.Commit(l), e)
		for i, w := range l {
			if !bytes.Equal(w.Key[:cap(w.Key)], want[i].Key) || !bytes.Equal(w.Value[:cap(w.Value)], want[i].Value) || w.Gone != want[i].Gone {
				t.Errorf("R3: write %d was changed: %d", i, e)
			}
		}
		if string(all[4].Key) != "behind" || string(all[4].Value) != "the end" {
			t.Error("R3: what stands behind the list's end was changed")
		}
		for i := range l {
			clear(l[i].Key[:cap(l[i].Key)])
			clear(l[i].Value[:cap(l[i].Value)])
		}
		holds(t, "what was handed in is turned", s, model{"a": "1", "b": "", "d": text(1, 128)})
	}
	from, to, key := roomy("a"), roomy("c"), roomy("a")
	s.Scan(from, to)
	s.Get(key)
	for _, b := range [][]byte{from, to, key} {
		if string(b[1:cap(b)][:14]) != "behind the end" {
			t.Error("R3: an argument's room was changed")
		}
	}
	if string(from)+string(to)+string(key) != "aca" {
		t.Error("R3: an argument was changed")
	}
	told(t, "P9.4: Checkpoint", s.Checkpoint(), api.OK)
	kept(t, "what was handed in is turned", d, model{"a": "1", "b": "", "d": text(1, 128)})
}

func TestNothingHandedOutIsShared(t *testing.T) {
	d := newDevice(t, least)
	m := model{"a": "1", "ab": "", "b": text(1, 128), text(2, 32): text(3, 7)}
	s := made(t, "at first", d)
	committed(t, "the first", s, m.list()...)
	spoil := func(b []byte) {
		b = b[:cap(b)]
		for i := range b {
			b[i] ^= 0xff
		}
	}
	for round := range 3 {
		for key, value := range m {
			v, _, _ := s.Get([]byte(key))
			other, _, _ := s.Get([]byte(key))
			spoil(v)
			if string(other) != value {
				t.Errorf("R3: two answers of Get share their bytes: %q", other)
			}
		}
		l, _ := s.Scan(nil, nil)
		other, _ := s.Scan(nil, nil)
		for i := range l {
			spoil(l[i].Key)
			if string(l[i].Value) != m[string(other[i].Key)] {
				t.Error("R3: a key and a value share their bytes")
			}
			spoil(l[i].Value)
			for k := i + 1; k < len(l); k++ {
				if string(l[k].Key) != m.keys()[k] || string(l[k].Value) != m[m.keys()[k]] {
					t.Error("R3: two pairs of an answer share their bytes")
				}
			}
		}
		l = l[:cap(l)]
		clear(l)
		if !slices.Equal(flat(other), m.scan("", "")) {
			t.Error("R3: two answers of Scan share their bytes")
		}
		holds(t, "what was handed out is turned", s, m)
		switch round {
		case 0:
			told(t, "P9.4: Checkpoint", s.Checkpoint(), api.OK)
		case 1:
			s = kept(t, "what was handed out is turned", d, m)
		}
	}
}
