package store_test

import (
	"math/rand"
	"slices"
	"strconv"
	"strings"
	"testing"

	"gablet/api"
	"gablet/device"
	"gablet/store"
)

// walk are many calls, held against a model.
type walk struct {
	t    testing.TB
	dice func(n int) int // from 0 to n - 1
	d    *device.Device
	s    *store.Store
	m    model
	room int
	step int
}

func newWalk(t testing.TB, blocks int, dice func(n int) int) *walk {
	d := newDevice(t, blocks)
	return &walk{t: t, dice: dice, d: d, s: made(t, "a walk", d), m: model{}, room: roomOf(blocks)}
}

func (k *walk) what(name string) string { return name + ", step " + strconv.Itoa(k.step) }

// key is one of some sixty that come again and again, of all lengths.
func (k *walk) key() string {
	n := k.dice(60)
	return text(n, 1+n*7%32)
}

// write is a write that may be.
func (k *walk) write() api.Write {
	if k.dice(4) == 0 {
		return gone(k.key())
	}
	return put(k.key(), text(k.step, k.dice(129)))
}

// some are writes, no two of one key.
func (k *walk) some(n int) (l []api.Write) {
	seen := map[string]bool{}
	for range n {
		if w := k.write(); !seen[string(w.Key)] {
			seen[string(w.Key)] = true
			l = append(l, w)
		}
	}
	return l
}

// wrong are writes, one of which may not be, or which are two of one key.
func (k *walk) wrong() []api.Write {
	l := append(k.some(1+k.dice(5)), put("other", "1"))
	w := []api.Write{put("", "v"), gone(""), put(text(1, 33), ""), put("k", text(1, 129)), {Key: []byte("k"), Value: []byte("v"), Gone: true}, put("other", "2"), gone("other")}[k.dice(7)]
	return slices.Insert(l, k.dice(len(l)+1), w)
}

// commit does a commit, of which the model tells the answer.
func (k *walk) commit(l []api.Write) {
	want := k.m.refusal(k.room, l)
	told(k.t, k.what("P9.4: Commit"), k.s.Commit(l), want)
	if want == api.OK {
		k.m = k.m.behind(l...)
	}
}

// picks say by chance what is kept.
func (k *walk) picks() (l []int) {
	for range k.dice(40) {
		l = append(l, k.dice(4))
	}
	return l
}

// dark lets the power go in a call, if that writes enough, and opens what is left.
func (k *walk) dark(will model, call func() api.Errno) {
	told(k.t, k.what("Arm"), k.d.Arm(k.dice(9)*k.dice(5)), api.OK)
	e := call()
	if k.d.Power() {
		told(k.t, k.what("a call ahead of the power"), e, api.OK)
		told(k.t, k.what("Arm"), k.d.Arm(-1), api.OK)
		k.m = will
		return
	}
	told(k.t, k.what("P9.4: a call in which the power goes"), e, api.ErrPower)
	told(k.t, k.what("On"), k.d.On(k.picks()...), api.OK)
	for range k.dice(3) {
		told(k.t, k.what("Arm"), k.d.Arm(k.dice(4)), api.OK)
		store.Open(k.d)
		crashed(k.t, k.d, k.picks()...)
	}
	s, e := store.Open(k.d)
	if e == api.ErrNone && len(will) == 0 {
		s = made(k.t, k.what("where nothing is left"), k.d)
	} else if s == nil || e != api.OK {
		k.t.Fatalf("P9.5: %s: %d", k.what("Open"), e)
	}
	k.s = s
	if l, _ := s.Scan(nil, nil); !slices.Equal(flat(l), k.m.scan("", "")) {
		k.m = will
	}
	holds(k.t, k.what("P9.5: behind the power"), s, k.m)
}

// look holds some of what is told against the model.
func (k *walk) look() {
	from, to := k.key(), k.key()
	if k.dice(4) == 0 {
		to = ""
	}
	l, e := k.s.Scan([]byte(from), []byte(to))
	if !slices.Equal(flat(l), k.m.scan(from, to)) || e != api.OK {
		k.t.Errorf("P9.3: %s: %.40q, %d", k.what("Scan"), flat(l), e)
	}
	if n := k.s.Bytes(); n != k.m.counts() {
		k.t.Errorf("P9.3: %s: %d and not %d", k.what("Bytes"), n, k.m.counts())
	}
}

// next is one call, or some that belong together.
func (k *walk) next() {
	k.step++
	switch n := k.dice(100); {
	case n < 40:
		k.commit(k.some(k.dice(6)))
	case n < 50:
		k.commit(k.some(k.dice(200)))
	case n < 58:
		k.commit(k.wrong())
	case n < 60:
		k.commit(append(k.some(3), many("beyond ", 100, k.room/100+1)...))
	case n < 61:
		k.commit(make([]api.Write, 1001+k.dice(100)))
	case n < 65:
		told(k.t, k.what("P9.4: Checkpoint"), k.s.Checkpoint(), api.OK)
	case n < 72:
		crashed(k.t, k.d, k.picks()...)
		k.s = opened(k.t, k.what("behind the power"), k.d)
		holds(k.t, k.what("behind the power"), k.s, k.m)
	case n < 76:
		crashed(k.t, k.d, k.picks()...)
	case n < 88:
		if l := k.some(k.dice(40)); k.m.refusal(k.room, l) == api.OK {
			k.dark(k.m.behind(l...), func() api.Errno { return k.s.Commit(l) })
		}
	case n < 98:
		k.dark(k.m, func() api.Errno { return k.s.Checkpoint() })
	case k.dice(4) > 0:
		k.look()
	default:
		k.dark(model{}, func() api.Errno { s, e := store.New(k.d); k.s = s; return e })
	}
	k.look()
}

func TestWalksOfManyCalls(t *testing.T) {
	t.Parallel()
	for seed := range 10 {
		dice := rand.New(rand.NewSource(int64(seed))).Intn
		k := newWalk(t, []int{442, 443, 450, 480, 700}[seed%5], dice)
		for range 600 {
			k.next()
		}
		holds(t, "at last", k.s, k.m)
		kept(t, "at last", k.d, k.m)
	}
}

// bytesOf are dice whose numbers are some bytes, and noughts behind these.
func bytesOf(b []byte) func(n int) int {
	return func(n int) int {
		if len(b) == 0 {
			return 0
		}
		one := int(b[0])
		b = b[1:]
		return one * 7 % n
	}
}

func FuzzStore(f *testing.F) {
	f.Add(uint16(0), []byte(strings.Repeat("\x00\x05\x00abcdefgh\x46\x61", 30)))
	f.Add(uint16(200), []byte("\x00\x01\x02\x03 some bytes, the one behind the other \x50\x10\x20\xff\xfe\xfd"))
	f.Fuzz(func(t *testing.T, more uint16, calls []byte) {
		k := newWalk(t, least+int(more)%200, bytesOf(calls))
		for range min(len(calls)/3, 100) {
			k.next()
		}
		kept(t, "at last", k.d, k.m)
	})
}

// shapes are the sizes of pairs, by turns, that fill nodes badly, or well, or are the greatest and the least that there are.
func shapes() map[string][]int {
	return map[string][]int{
		"the greatest": {164}, "two great ones and a small one": {164, 164, 36}, "three to a leaf": {126}, "four to a leaf": {101}, "a great one and a small one": {164, 88}, "of 85": {85}, "the least": {36},
		"a leaf's bytes and one": {164, 164, 164, 12}, "of all sizes": {164, 40, 99, 126, 13, 150, 36, 70},
	}
}

// longKey is a key of 32 bytes, if a pair of that size has so many, that is like the others up to its end.
func longKey(n, size int) string {
	key := strconv.Itoa(1000000 + n)
	return strings.Repeat("k", max(0, min(32, size-4)-len(key))) + key
}

// filled are commits that fill a store up to its room with pairs of such sizes; the last one may be another.
func (k *walk) filled(sizes []int) {
	var l []api.Write
	count := k.m.counts()
	for n := 0; count < k.room; n++ {
		size := sizes[n%len(sizes)]
		if rest := k.room - count; rest < size+20 {
			size = rest
			if rest > 164 {
				size = rest - 20
			}
		}
		key := longKey(n, size)
		l = append(l, put(key, text(n, size-4-len(key))))
		count += size
	}
	for chunk := range slices.Chunk(l, 1000) {
		k.commit(chunk)
	}
	if k.s.Bytes() != k.room {
		k.t.Errorf("P9.4: %s: %d bytes and not %d", k.what("full"), k.s.Bytes(), k.room)
	}
}

// change is a commit of a full store: some pairs for others, of which the model tells whether there is room for them.
func (k *walk) change(keys []string) {
	var l []api.Write
	seen := map[string]bool{}
	for range 1 + k.dice(30) {
		key := keys[k.dice(len(keys))]
		value, there := k.m[key]
		if seen[key] {
			continue
		}
		seen[key] = true
		switch n := k.dice(8); {
		case n < 4 && there:
			l = append(l, put(key, text(k.step, len(value))))
		case n < 6:
			l = append(l, gone(key))
		default:
			l = append(l, put(key, text(k.step, k.dice(129))))
		}
	}
	k.commit(l)
}

// changed changes a full store for long.
func (k *walk) changed(times int) {
	keys := k.m.keys()
	for range times {
		k.step++
		k.change(keys)
		switch k.dice(12) {
		case 0:
			told(k.t, k.what("P9.4: Checkpoint"), k.s.Checkpoint(), api.OK)
		case 1:
			crashed(k.t, k.d, k.picks()...)
			k.s = opened(k.t, k.what("full"), k.d)
		case 2:
			l := []api.Write{gone(keys[k.dice(len(keys))])}
			k.dark(k.m.behind(l...), func() api.Errno { return k.s.Commit(l) })
		case 3:
			k.dark(k.m, func() api.Errno { return k.s.Checkpoint() })
		}
		if k.step%10 == 0 {
			k.look()
		}
	}
	// As full as it may be again.
	for i := 0; k.room-k.m.counts() >= 20; i++ {
		key := "fill " + strconv.Itoa(i)
		rest := min(k.room-k.m.counts()-4-len(key), 128)
		k.commit([]api.Write{put(key, text(i, rest))})
	}
}

func TestFullStoresAreChangedForLong(t *testing.T) {
	t.Parallel()
	seed := int64(0)
	for name, sizes := range shapes() {
		for _, blocks := range []int{442, 443, 452, 640} {
			seed++
			k := newWalk(t, blocks, rand.New(rand.NewSource(seed)).Intn)
			k.filled(sizes)
			holds(t, name+", full", k.s, k.m)
			told(t, "P9.4: "+name+": Checkpoint", k.s.Checkpoint(), api.OK)
			k.commit([]api.Write{put("one", "more than there is room for, whatever is left of it")})
			k.changed(150)
			holds(t, name+", changed", k.s, k.m)
			kept(t, name+", changed", k.d, k.m)
		}
	}
}

func TestGreatStoresAreFilled(t *testing.T) {
	t.Parallel()
	for _, c := range []struct {
		blocks int
		name   string
	}{{1500, "two great ones and a small one"}, {3001, "three to a leaf"}, {4096, "of all sizes"}} {
		k := newWalk(t, c.blocks, rand.New(rand.NewSource(int64(c.blocks))).Intn)
		k.filled(shapes()[c.name])
		for range 3 {
			told(t, "P9.4: "+c.name+": Checkpoint", k.s.Checkpoint(), api.OK)
		}
		k.commit([]api.Write{put("k", "")})
		k.changed(20)
		holds(t, c.name, k.s, k.m)
		kept(t, c.name, k.d, k.m)
	}
}

// The least pairs count five bytes and six, so that there are many.
func TestAStoreOfTheLeastPairs(t *testing.T) {
	t.Parallel()
	d := newDevice(t, least)
	s, m := made(t, "the least pairs", d), model{}
	var l []api.Write
	for n := 0; n < 256; n++ {
		l = append(l, put(string([]byte{byte(n)}), ""))
	}
	for n := 0; len(l)*6-256+6 <= leastRoom; n++ {
		l = append(l, put(string([]byte{byte(n), byte(n >> 8)}), ""))
	}
	for chunk := range slices.Chunk(l, 1000) {
		committed(t, "the least pairs", s, chunk...)
	}
	m = m.behind(l...)
	holds(t, "the least pairs", s, m)
	told(t, "P9.4: Checkpoint", s.Checkpoint(), api.OK)
	s = kept(t, "the least pairs", d, m)
	for chunk := range slices.Chunk(goneAll(l), 1000) {
		committed(t, "the least pairs, gone", s, chunk...)
		told(t, "P9.4: Checkpoint", s.Checkpoint(), api.OK)
	}
	kept(t, "the least pairs, gone", d, model{})
}
