package rest_test

import (
	"math/big"
	"slices"
	"testing"

	"gablet/api"
	"gablet/net"
	"gablet/rest"
)

// A model of the chapter's words, in numbers that know no bounds.

// modelArcs: all arcs of a net that is right, in their order, each with its ends and its cost.
func modelArcs(n api.Net) []api.Edge {
	var arcs []api.Edge
	if net.Right(n) {
		for _, e := range n.Edges {
			arcs = append(arcs, e, api.Edge{From: e.To, To: e.From, Cost: -e.Cost})
		}
	}
	return arcs
}

func modelEnds(n api.Net, arc int) (from, to int, cost int64) {
	arcs := modelArcs(n)
	if arc < 0 || arc >= len(arcs) {
		return 0, 0, 0
	}
	return arcs[arc].From, arcs[arc].To, arcs[arc].Cost
}

// modelRooms: of all arcs, in their order; none of a flow that is not within.
func modelRooms(n api.Net, flow []int64) []int64 {
	var rooms []int64
	if net.Within(n, flow) {
		for i, e := range n.Edges {
			rooms = append(rooms, e.Cap-flow[i], flow[i])
		}
	}
	return rooms
}

func modelRoom(n api.Net, flow []int64, arc int) int64 {
	rooms := modelRooms(n, flow)
	if arc < 0 || arc >= len(rooms) {
		return 0
	}
	return rooms[arc]
}

// modelWay asks arc by arc for the next one.
func modelWay(n api.Net, arcs []int) bool {
	all := modelArcs(n)
	for _, arc := range arcs {
		if arc < 0 || arc >= len(all) {
			return false
		}
	}
	for i := 1; i < len(arcs); i++ {
		if all[arcs[i-1]].To != all[arcs[i]].From {
			return false
		}
	}
	return len(arcs) != 0
}

func modelAlong(n api.Net, flow []int64, arcs []int, by int64) ([]int64, api.Errno) {
	if !net.Within(n, flow) || by < 0 || !modelWay(n, arcs) {
		return nil, api.ErrArg
	}
	return modelPushes(modelRooms(n, flow), arcs, by)
}

// modelPushes moves rooms, arc by arc, from one arc of an edge to the other; the arcs are a way.
func modelPushes(rooms []int64, arcs []int, by int64) ([]int64, api.Errno) {
	left := map[int]*big.Int{} // of the edges that the way goes over
	for _, arc := range arcs {
		left[arc], left[otherOf(arc)] = big.NewInt(rooms[arc]), big.NewInt(rooms[otherOf(arc)])
	}
	b := big.NewInt(by)
	for _, arc := range arcs {
		if left[arc].Cmp(b) < 0 {
			return nil, api.ErrFull
		}
		left[arc].Sub(left[arc], b)
		left[otherOf(arc)].Add(left[otherOf(arc)], b)
	}
	var behind []int64
	for arc := 1; arc < len(rooms); arc += 2 {
		x := rooms[arc]
		if left[arc] != nil {
			x = left[arc].Int64()
		}
		behind = append(behind, x)
	}
	return behind, api.OK
}

// otherOf: the other arc of the same edge.
func otherOf(arc int) int {
	if arc%2 == 1 {
		return arc - 1
	}
	return arc + 1
}

// modelBottle tries: all numbers where they are few, and halves of what is left to try where they are many.
func modelBottle(n api.Net, flow []int64, arcs []int) int64 {
	if _, e := modelAlong(n, flow, arcs, 0); e != api.OK {
		return 0
	}
	rooms := modelRooms(n, flow)
	may := func(by int64) bool {
		_, e := modelPushes(rooms, arcs, by)
		return e == api.OK
	}
	most := slices.Max(rooms)
	if most <= 30 {
		for by := most + 1; ; by-- {
			if may(by) {
				return by
			}
		}
	}
	low, high := int64(0), most+1
	for high-low > 1 {
		if mid := low + (high-low)/2; may(mid) {
			low = mid
		} else {
			high = mid
		}
	}
	return low
}

// short tells a net in few words, for there may be many edges.
func short(n api.Net) api.Net {
	n.Edges = n.Edges[:min(len(n.Edges), 6)]
	return n
}

// heldArc asks the calls of one arc, and holds the answers against the model's.
func heldArc(t *testing.T, what string, n api.Net, flow []int64, arc int, by int64) {
	t.Helper()
	bad := func(promise string, got, want any) {
		t.Helper()
		t.Errorf("%s: %s: %v and not %v, of arc %d, by %d, %d edges %v, flow %v", promise, what, got, want, arc, by, len(n.Edges), short(n), flow[:min(len(flow), 6)])
	}
	from, to, cost := rest.Ends(n, arc)
	wantFrom, wantTo, wantCost := modelEnds(n, arc)
	if from != wantFrom || to != wantTo || cost != wantCost {
		bad("P12.1: Ends", []int64{int64(from), int64(to), cost}, []int64{int64(wantFrom), int64(wantTo), wantCost})
	}
	if got, want := rest.Room(n, flow, arc), modelRoom(n, flow, arc); got != want {
		bad("P12.1: Room", got, want)
	}
	got, e := rest.Push(n, flow, arc, by)
	want, wantE := modelAlong(n, flow, []int{arc}, by)
	if !slices.Equal(got, want) || e != wantE {
		bad("P12.2: Push", []any{got, e}, []any{want, wantE})
	}
}

// held asks the calls of a way, and those of its arcs, and holds the answers against the model's.
func held(t *testing.T, what string, n api.Net, flow []int64, arcs []int, by int64) {
	t.Helper()
	bad := func(promise string, got, want any) {
		t.Helper()
		t.Errorf("%s: %s: %v and not %v, of %v, by %d, %d edges %v, flow %v", promise, what, got, want, arcs, by, len(n.Edges), short(n), flow[:min(len(flow), 6)])
	}
	got, e := rest.Along(n, flow, arcs, by)
	want, wantE := modelAlong(n, flow, arcs, by)
	if !slices.Equal(got, want) || e != wantE {
		bad("P12.3: Along", []any{got, e}, []any{want, wantE})
	}
	if got, want := rest.Bottle(n, flow, arcs), modelBottle(n, flow, arcs); got != want {
		bad("P12.3: Bottle", got, want)
	}
	for _, arc := range arcs[:min(len(arcs), 6)] {
		heldArc(t, what, n, flow, arc, by)
	}
}

// bottled asks for the Bottle that the test says, and pushes by it, by one more, and by nothing.
func bottled(t *testing.T, what string, n api.Net, flow []int64, arcs []int, want int64) {
	t.Helper()
	if got := rest.Bottle(n, flow, arcs); got != want {
		t.Errorf("P12.3: Bottle: %s: %d and not %d, of %v", what, got, want, arcs)
	}
	for _, by := range []int64{-1, 0, 1, want - 1, want, want + 1, want + 2, 2*want + 1} {
		held(t, what, n, flow, arcs, by)
		e := api.OK
		switch {
		case by < 0:
			e = api.ErrArg
		case by > want:
			e = api.ErrFull
		}
		if l, got := rest.Along(n, flow, arcs, by); got != e || (e != api.OK && l != nil) {
			t.Errorf("P12.3: Along: %s: %v, %v and not %v, of %v by %d", what, l, got, e, arcs, by)
		}
	}
}

// refused holds that of such arguments nothing is answered, whatever by is.
func refused(t *testing.T, what string, n api.Net, flow []int64, arcs []int) {
	t.Helper()
	for _, by := range []int64{-1, 0, 1, 2, amount} {
		if l, e := rest.Along(n, flow, arcs, by); l != nil || e != api.ErrArg {
			t.Errorf("P12.3: Along: %s: %v, %v, of %v by %d", what, l, e, arcs, by)
		}
		held(t, what, n, flow, arcs, by)
	}
	if got := rest.Bottle(n, flow, arcs); got != 0 {
		t.Errorf("P12.3: Bottle: %s: %d, of %v", what, got, arcs)
	}
}
