package store_test

import (
	"maps"
	"math/rand"
	"slices"
	"strconv"
	"testing"

	"gablet/api"
	"gablet/device"
	"gablet/shadow"
	"gablet/store"
)

// scene is a call ahead of which some others are done, and within which the power goes.
type scene struct {
	name   string
	blocks int
	ahead  func(t *testing.T, d *device.Device) (*store.Store, model) // nil and no pairs, if there is no store yet
	do     func(d *device.Device, s *store.Store) api.Errno
	will   func(m model) model // what is held behind the call
	anew   bool                // the call is New
}

// commitScene is a scene whose call is a Commit.
func commitScene(name string, blocks int, ahead func(t *testing.T, d *device.Device) (*store.Store, model), l ...api.Write) scene {
	return scene{name: name, blocks: blocks, ahead: ahead,
		do:   func(d *device.Device, s *store.Store) api.Errno { return s.Commit(l) },
		will: func(m model) model { return m.behind(l...) },
	}
}

// checkpointScene is a scene whose call is a Checkpoint.
func checkpointScene(name string, blocks int, ahead func(t *testing.T, d *device.Device) (*store.Store, model)) scene {
	return scene{name: name, blocks: blocks, ahead: ahead,
		do:   func(d *device.Device, s *store.Store) api.Errno { return s.Checkpoint() },
		will: func(m model) model { return m },
	}
}

// newScene is a scene whose call is New.
func newScene(name string, blocks int, ahead func(t *testing.T, d *device.Device) (*store.Store, model)) scene {
	return scene{name: name, blocks: blocks, ahead: ahead, anew: true,
		do:   func(d *device.Device, s *store.Store) api.Errno { _, e := store.New(d); return e },
		will: func(m model) model { return model{} },
	}
}

// A stage is what is done ahead of a scene's call, one thing behind the other: a list is committed, nil is a checkpoint.
func stage(todo ...[]api.Write) func(t *testing.T, d *device.Device) (*store.Store, model) {
	return func(t *testing.T, d *device.Device) (*store.Store, model) {
		t.Helper()
		s, m := made(t, "ahead of the scene", d), model{}
		for _, l := range todo {
			if l == nil {
				told(t, "P9.4: Checkpoint ahead of the scene", s.Checkpoint(), api.OK)
			} else {
				committed(t, "ahead of the scene", s, l...)
				m = m.behind(l...)
			}
		}
		return s, m
	}
}

// often is a list of small commits, so many.
func often(n int) (l [][]api.Write) {
	for i := range n {
		l = append(l, []api.Write{put("often "+strconv.Itoa(i%15), strconv.Itoa(i)), gone("often " + strconv.Itoa((i+4)%15))})
	}
	return l
}

// goneAll are writes behind which none of these keys is there.
func goneAll(l []api.Write) (out []api.Write) {
	for _, w := range l {
		out = append(out, gone(string(w.Key)))
	}
	return out
}

// fewChoices say what is kept of what was loose: nothing, the first things, the last ones, some.
func fewChoices(seed int) [][]int {
	ones, last := slices.Repeat([]int{1}, 800), slices.Repeat([]int{1 << 20}, 800)
	dice := rand.New(rand.NewSource(int64(seed)))
	for i := range last {
		last[i] = 1 + dice.Intn(2)
	}
	return [][]int{nil, ones, noise(dice), noise(dice), last}
}

// noise says by chance what is kept of each block.
func noise(dice *rand.Rand) []int {
	l := make([]int, 800)
	for i := range l {
		l[i] = dice.Intn(4)
	}
	return l
}

// manyChoices are these, and each choice of the first four blocks with all or none of those behind them, and one block alone, or all but one.
func manyChoices(seed int) [][]int {
	l := fewChoices(seed)
	for mask := range 16 {
		for tail := range 2 {
			picks := slices.Repeat([]int{tail}, 800)
			for bit := range 4 {
				picks[bit] = mask >> bit & 1
			}
			l = append(l, picks)
		}
	}
	for alone := 4; alone < 12; alone++ {
		for rest := range 2 {
			picks := slices.Repeat([]int{rest}, 800)
			picks[alone] = 1 - rest
			l = append(l, picks)
		}
	}
	return l
}

// play lets the power go ahead of each Write and each Flush of the scene's call, with each of the choices.
func (c scene) play(t *testing.T, choices func(seed int) [][]int) {
	t.Helper()
	for arm := 0; ; arm++ {
		for i, picks := range choices(arm) {
			what := c.name + ", armed with " + strconv.Itoa(arm) + ", choice " + strconv.Itoa(i)
			d := newDevice(t, c.blocks)
			s, was := c.ahead(t, d)
			told(t, "Arm", d.Arm(arm), api.OK)
			e := c.do(d, s)
			if d.Power() != (e == api.OK) {
				t.Fatalf("P9.4: %s: %d, and the power is %v", what, e, d.Power())
			}
			if e == api.OK {
				kept(t, what+", done", d, c.will(was))
				if arm == 0 {
					t.Errorf("the test's own %s: nothing was written", c.name)
				}
				return
			}
			told(t, "P9.4: "+what, e, api.ErrPower)
			if !c.anew {
				dead(t, what, s)
			}
			told(t, "On", d.On(picks...), api.OK)
			if !c.anew {
				dead(t, what+", On", s)
			}
			c.found(t, what, d, s != nil, was, picks)
			if t.Failed() {
				t.Fatal(what)
			}
		}
	}
}

// found checks what is held behind the power, and goes on from there.
func (c scene) found(t *testing.T, what string, d *device.Device, there bool, was model, picks []int) {
	t.Helper()
	s, e := store.Open(d)
	if c.anew && e == api.ErrNone && s == nil {
		_, e = store.Open(d)
		told(t, "P9.5: "+what+": Open once more", e, api.ErrNone)
		crashed(t, d, picks...)
		_, e = store.Open(d)
		told(t, "P9.5: "+what+": Open behind another loss", e, api.ErrNone)
		s = made(t, what, d)
		was, there = model{}, true
	}
	if s == nil || e != api.OK && e != api.ErrNone {
		t.Fatalf("P9.5: %s: Open %d", what, e)
	}
	will := c.will(was)
	is := will
	if l, _ := s.Scan(nil, nil); there && slices.Equal(flat(l), was.scan("", "")) {
		is = was
	}
	holds(t, "P9.5: "+what, s, is)
	// The power goes again while it is opened, as often as there is something to write then.
	for arm := range 2 {
		told(t, "Arm", d.Arm(arm), api.OK)
		if s, e := store.Open(d); e != api.OK && e != api.ErrPower || (s != nil) != (e == api.OK) {
			t.Errorf("P9.5: %s: Open armed with %d: %d", what, arm, e)
		}
		crashed(t, d, picks...)
		holds(t, "P9.5: "+what+", opened again", opened(t, what, d), is)
	}
	// What is committed now does not bring back what was lost, nor the rests of it.
	s = opened(t, what, d)
	for _, l := range [][]api.Write{{put("and", "on"), put("key 1", "again")}, {put("and", "so on"), gone("key 1")}} {
		committed(t, what+", and on", s, l...)
		is = is.behind(l...)
	}
	holds(t, "P9.5: "+what+", and on", s, is)
	crashed(t, d, picks...)
	s = opened(t, what+", and on", d)
	holds(t, "P9.5: "+what+", and on, opened", s, is)
	told(t, "P9.4: "+what+": Checkpoint", s.Checkpoint(), api.OK)
	crashed(t, d, picks...)
	holds(t, "P9.5: "+what+", a checkpoint", opened(t, what+", a checkpoint", d), is)
}

// P9.5

func TestThePowerGoesInACommit(t *testing.T) {
	t.Parallel()
	some, others := many("some ", 25, 100), many("others ", 30, 110)
	several := slices.Concat(many("some ", 10, 120), many("more ", 12, 130), goneAll(others[:5]))
	for _, c := range []scene{
		commitScene("a first commit", least, stage(), put("a", "1")),
		commitScene("a commit of nothing", least, stage(some), []api.Write{}...),
		commitScene("a commit of what is there", least, stage(some), some[:3]...),
		commitScene("a commit of some blocks", least, stage(some, others), several...),
		commitScene("a commit behind a checkpoint", 500, stage(some, nil, others), several...),
		commitScene("a commit at a checkpoint", 500, stage(some, others, nil), several...),
		commitScene("a commit of what is gone", 500, stage(some, nil, others), goneAll(slices.Concat(some, others))...),
		commitScene("a commit in the middle of many", least, stage(often(40)...), several...),
	} {
		c.play(t, manyChoices)
	}
}

func TestThePowerGoesInACommitOfManyWrites(t *testing.T) {
	t.Parallel()
	var l []api.Write
	for i := range 1000 {
		l = append(l, gone(text(i, 32)))
	}
	l[0], l[999] = put(text(0, 32), "first"), put(text(999, 32), "last")
	commitScene("a commit of 1,000 writes", least, stage([]api.Write{put("a", "1"), put(text(500, 32), "gone")}), l...).play(t, fewChoices)
}

// There is a time when the blocks of small commits are all taken: what is behind so many of them finds none left, or too few.
func TestThePowerGoesInACommitThatMakesRoom(t *testing.T) {
	t.Parallel()
	some, others := many("some ", 25, 100), many("others ", 30, 110)
	several := slices.Concat(many("some ", 10, 120), many("more ", 12, 130), goneAll(others[:5]))
	for _, n := range []int{173, 176} {
		todo := slices.Concat([][]api.Write{some, nil, others}, often(n))
		commitScene("a commit behind "+strconv.Itoa(n)+" small ones", least, stage(todo...), several...).play(t, fewChoices)
	}
	for _, n := range []int{179, 180, 181} {
		todo := slices.Concat([][]api.Write{some, nil}, often(n))
		commitScene("a small commit behind "+strconv.Itoa(n), least, stage(todo...), put("a", "1")).play(t, fewChoices)
	}
}

func TestThePowerGoesInACheckpoint(t *testing.T) {
	t.Parallel()
	some, others := many("some ", 25, 100), many("others ", 30, 110)
	for _, c := range []scene{
		checkpointScene("a checkpoint of nothing", least, stage()),
		checkpointScene("a checkpoint of one pair", least, stage([]api.Write{put("a", "1")})),
		checkpointScene("a first checkpoint", least, stage(some, others)),
		checkpointScene("a second checkpoint", least, stage(some, nil, others)),
		checkpointScene("a third checkpoint", least, stage(some, nil, others, nil, goneAll(some[:20]))),
		checkpointScene("a fourth checkpoint", least, stage(some, nil, others, nil, goneAll(some[:20]), nil, often(3)[0], often(3)[1])),
		checkpointScene("a checkpoint of what is all gone", least, stage(some, nil, goneAll(some))),
		checkpointScene("a checkpoint of the same", least, stage(some, nil)),
		checkpointScene("a checkpoint of the same, once more", least, stage(some, nil, nil, nil)),
	} {
		c.play(t, fewChoices)
	}
	checkpointScene("a checkpoint of few", least, stage([]api.Write{put("a", "1")}, nil, many("few ", 4, 160))).play(t, manyChoices)
}

func TestThePowerGoesInNew(t *testing.T) {
	t.Parallel()
	some, others := many("some ", 25, 100), many("others ", 30, 110)
	for _, c := range []scene{
		newScene("New where nothing is", least, func(t *testing.T, d *device.Device) (*store.Store, model) { return nil, nil }),
		newScene("New over other roots", least, func(t *testing.T, d *device.Device) (*store.Store, model) {
			told(t, "Save", shadow.Save(d, 1<<62, []byte("x")), api.OK)
			told(t, "Save", shadow.Save(d, 1<<62-1, []byte("y")), api.OK)
			return nil, nil
		}),
		newScene("New over commits", least, stage(slices.Concat([][]api.Write{some, others}, often(30))...)),
		newScene("New over a checkpoint", least, stage(slices.Concat([][]api.Write{some, nil, others}, often(30))...)),
		newScene("New over two checkpoints", least, stage(slices.Concat([][]api.Write{some, nil, others, nil}, often(3))...)),
	} {
		c.play(t, func(seed int) [][]int {
			// Most of the Writes are like one another.
			if seed > 12 && seed%8 > 0 {
				return fewChoices(seed)[:2]
			}
			return fewChoices(seed)
		})
	}
}

// copied is a device on which the same stands, and is sure.
func copied(t *testing.T, d *device.Device) *device.Device {
	t.Helper()
	out := newDevice(t, d.Size())
	for k := range d.Size() {
		b, e := d.Read(k)
		told(t, "Read", e, api.OK)
		told(t, "Write", out.Write(k, b), api.OK)
	}
	told(t, "Flush", out.Flush(), api.OK)
	return out
}

func TestThePowerGoesInTheGreatestCommits(t *testing.T) {
	t.Parallel()
	whole := newDevice(t, 3000)
	s, m := made(t, "the greatest", whole), model{}
	var commits [2][]api.Write
	for i := range commits {
		for k := range 1000 {
			commits[i] = append(commits[i], put(text(k+500*i, 32), text(k+i, 128)))
		}
	}
	committed(t, "the greatest", s, commits[0]...)
	m = m.behind(commits[0]...)
	ends := 0
	for arm := 0; ends < 2; arm += 1 + arm%61 {
		d := copied(t, whole)
		s := opened(t, "the greatest", d)
		told(t, "Arm", d.Arm(arm), api.OK)
		e := s.Commit(commits[1])
		if e == api.OK {
			ends++
			kept(t, "the greatest, done", d, m.behind(commits[1]...))
			continue
		}
		told(t, "P9.4: the greatest", e, api.ErrPower)
		told(t, "On", d.On(fewChoices(arm)[arm%5]...), api.OK)
		s = opened(t, "the greatest", d)
		is := m
		if v, _, _ := s.Get([]byte(text(1200, 32))); len(v) > 0 {
			is = m.behind(commits[1]...)
		}
		holds(t, "P9.5: the greatest, armed with "+strconv.Itoa(arm), s, is)
		committed(t, "the greatest, again", s, commits[1]...)
		kept(t, "the greatest, again", d, m.behind(commits[1]...))
	}
}

func TestTheSameCommitAgain(t *testing.T) {
	t.Parallel()
	long, next := many("long ", 30, 150), many("next ", 20, 150)
	for arm := range 16 {
		for _, picks := range manyChoices(arm) {
			d := newDevice(t, least)
			s := made(t, "at first", d)
			committed(t, "the first", s, put("a", "1"))
			told(t, "Arm", d.Arm(arm), api.OK)
			if e := s.Commit(long); e == api.OK {
				break
			}
			told(t, "On", d.On(picks...), api.OK)
			s = opened(t, "the same", d)
			m := model{"a": "1"}
			if s.Bytes() != m.counts() {
				m = m.behind(long...)
			}
			holds(t, "P9.5: the same commit", s, m)
			// One that begins alike, but is shorter, stands ahead of the rests of the long one.
			for _, l := range [][]api.Write{long[:4], next, long[:10], long} {
				committed(t, "the same commit", s, l...)
				m = m.behind(l...)
				holds(t, "P9.5: the same commit", opened(t, "the same commit", d), m)
			}
			kept(t, "P9.5: the same commit", d, m)
		}
	}
}

// To open it is to tell what is there: how often that is done, and what the power does between, is not told later.
func TestToOpenTwiceIsToOpenOnce(t *testing.T) {
	t.Parallel()
	some := many("some ", 25, 100)
	for times := range 5 {
		d := newDevice(t, least)
		s, m := stage(slices.Concat([][]api.Write{some, nil}, often(20))...)(t, d)
		told(t, "Arm", d.Arm(1), api.OK)
		told(t, "P9.4: Commit", s.Commit(many("lost ", 20, 100)), api.ErrPower)
		told(t, "On", d.On(1), api.OK)
		for i := range times {
			told(t, "Arm", d.Arm(i), api.OK)
			store.Open(d)
			crashed(t, d, i, i, i)
		}
		s = opened(t, "twice", d)
		holds(t, "P9.5: opened so often: "+strconv.Itoa(times), s, m)
		for i, l := range often(200) {
			committed(t, "opened so often", s, l...)
			m = m.behind(l...)
			if i%20 == 0 {
				s = opened(t, "opened so often", d)
			}
		}
		if m := maps.Clone(m); !t.Failed() {
			kept(t, "P9.5: opened so often", d, m)
		}
	}
}
