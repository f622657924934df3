package rest_test

import (
	"math"
	"math/rand"
	"slices"
	"testing"

	"gablet/api"
	"gablet/net"
	"gablet/rest"
)

const amount = 1 << 52

// Numbers that are far from any bound, or that wrap round to a small one.
var (
	farInts = []int{math.MinInt, math.MinInt + 1, -1 << 62, -1 << 32, -1<<32 + 1, -1 << 31, -1000, -3, -2, -1, 401, 1000, 1 << 31, 1 << 32, 1<<32 + 1, 1 << 62, 1<<62 + 1, 1<<63 - 1<<32, math.MaxInt - 1, math.MaxInt}
	far64   = []int64{math.MinInt64, math.MinInt64 + 1, -1 << 62, -1 << 53, -1 << 52, -1 << 32, -1, amount + 1, 1 << 53, 1 << 61, 1 << 62, 1<<62 + 1, math.MaxInt64 - amount, math.MaxInt64 - 5, math.MaxInt64 - 1, math.MaxInt64}
)

func example() (api.Net, []int64) {
	return api.Net{N: 2, Edges: []api.Edge{{From: 0, To: 1, Cap: 5, Cost: 2}, {From: 1, To: 0, Cap: 3, Cost: -1}}}, []int64{2, 0}
}

// ring is a net of the nodes 0 to 3: around by the edges 0 to 3, across by 4 and 5, from 2 to itself by 6.
func ring() (api.Net, []int64) {
	return api.Net{N: 4, Edges: []api.Edge{
		{From: 0, To: 1, Cap: 9, Cost: 1},
		{From: 1, To: 2, Cap: 8, Cost: -2},
		{From: 2, To: 3, Cap: 7, Cost: 3},
		{From: 3, To: 0, Cap: 6, Cost: 0},
		{From: 2, To: 0, Cap: 9, Cost: 5},
		{From: 0, To: 2, Cap: 4, Cost: -4},
		{From: 2, To: 2, Cap: 10, Cost: 7},
	}}, []int64{4, 4, 3, 2, 0, 4, 3}
}

// wrongNets are nets of some edges that are not right.
func wrongNets() map[string]api.Net {
	return map[string]api.Net{
		"no nodes":          {},
		"below no nodes":    {N: -1, Edges: []api.Edge{{Cap: 1, Cost: 1}}},
		"no nodes, an edge": {Edges: []api.Edge{{Cap: 1, Cost: 1}}},
		"too many nodes":    {N: 41, Edges: []api.Edge{{From: 1, Cap: 1, Cost: 1}}},
		"too many edges":    {N: 2, Edges: slices.Repeat([]api.Edge{{From: 1, Cap: 1, Cost: 1}}, 201)},
		"From":              {N: 2, Edges: []api.Edge{{From: 2, To: 1, Cap: 1, Cost: 1}}},
		"To":                {N: 2, Edges: []api.Edge{{From: 1, To: -1, Cap: 1, Cost: 1}}},
		"a Cap":             {N: 2, Edges: []api.Edge{{From: 1, Cap: amount + 1, Cost: 1}}},
		"a Cap below 0":     {N: 2, Edges: []api.Edge{{From: 1, Cap: -1, Cost: 1}}},
		"a Cost":            {N: 2, Edges: []api.Edge{{From: 1, Cap: 1, Cost: 1001}}},
		"the last edge":     {N: 2, Edges: []api.Edge{{From: 1, Cap: 1, Cost: 1}, {From: 1, To: 1, Cap: 1, Cost: -1001}}},
		"the sum":           {N: 2, Edges: slices.Repeat([]api.Edge{{From: 1, Cap: amount, Cost: 1000}}, 2)},
	}
}

// wrongFlows are flows of the ring that are not within.
func wrongFlows() map[string][]int64 {
	m := map[string][]int64{"none": nil, "no numbers": {}, "one number": {4}}
	_, flow := ring()
	m["one fewer"] = flow[:6]
	m["one more"] = append(slices.Clone(flow), 0)
	n, _ := ring()
	for i, e := range n.Edges {
		for what, x := range map[string]int64{"below 0": -1, "beyond the Cap": e.Cap + 1, "far below": math.MinInt64, "far beyond": math.MaxInt64, "that wraps round": 1 << 32} {
			l := slices.Clone(flow)
			l[i] = x
			m[what+" on "+string(rune('0'+i))] = l
		}
	}
	return m
}

func TestNumbersThatAreGiven(t *testing.T) {
	if api.MaxEdges != 200 || api.MaxAmount != amount || api.OK != 0 || api.ErrArg != 1 || api.ErrFull != 7 {
		t.Error("the numbers of limits and errors")
	}
}

func TestTheChaptersExamples(t *testing.T) {
	n, flow := example()
	for arc, want := range map[int][4]int64{0: {0, 1, 2, 3}, 1: {1, 0, -2, 2}, 2: {1, 0, -1, 3}, 3: {0, 1, 1, 0}, 4: {}} {
		from, to, cost := rest.Ends(n, arc)
		if got := [4]int64{int64(from), int64(to), cost, rest.Room(n, flow, arc)}; got != want {
			t.Errorf("P12.1: Ends and Room of %d: %v and not %v", arc, got, want)
		}
	}
	for _, c := range []struct {
		arc  int
		by   int64
		want []int64
		e    api.Errno
	}{{1, 2, []int64{0, 0}, api.OK}, {1, 3, nil, api.ErrFull}, {0, -1, nil, api.ErrArg}} {
		if got, e := rest.Push(n, flow, c.arc, c.by); !slices.Equal(got, c.want) || e != c.e {
			t.Errorf("P12.2: Push of %d by %d: %v, %v", c.arc, c.by, got, e)
		}
	}
	for _, c := range []struct {
		arcs []int
		want int64
	}{{[]int{0, 2}, 3}, {[]int{0, 1}, 3}, {[]int{0, 0}, 0}} {
		if got := rest.Bottle(n, flow, c.arcs); got != c.want {
			t.Errorf("P12.3: Bottle of %v: %d", c.arcs, got)
		}
	}
	for _, c := range []struct {
		arcs []int
		by   int64
		want []int64
		e    api.Errno
	}{{[]int{0, 1}, 3, []int64{2, 0}, api.OK}, {[]int{0, 2}, 4, nil, api.ErrFull}, {[]int{0, 3}, 1, nil, api.ErrArg}} {
		if got, e := rest.Along(n, flow, c.arcs, c.by); !slices.Equal(got, c.want) || e != c.e {
			t.Errorf("P12.3: Along %v by %d: %v, %v", c.arcs, c.by, got, e)
		}
	}
}

// P12.1

func TestEachArcOfEachEdge(t *testing.T) {
	n, flow := ring()
	for arc, want := range [][4]int64{
		{0, 1, 1, 5}, {1, 0, -1, 4}, {1, 2, -2, 4}, {2, 1, 2, 4}, {2, 3, 3, 4}, {3, 2, -3, 3}, {3, 0, 0, 4}, {0, 3, 0, 2},
		{2, 0, 5, 9}, {0, 2, -5, 0}, {0, 2, -4, 0}, {2, 0, 4, 4}, {2, 2, 7, 7}, {2, 2, -7, 3}, {},
	} {
		from, to, cost := rest.Ends(n, arc)
		if got := [4]int64{int64(from), int64(to), cost, rest.Room(n, flow, arc)}; got != want {
			t.Errorf("P12.1: Ends and Room of %d: %v and not %v", arc, got, want)
		}
	}
}

// Of so many edges the last arc is that of the last one; one more is none.
func TestHowManyArcs(t *testing.T) {
	for edges := range 201 {
		n := api.Net{N: 40}
		var flow []int64
		for i := range edges {
			n.Edges = append(n.Edges, api.Edge{From: 39 - i%7, To: 1 + i%31, Cap: 300, Cost: int64(i%2000) - 1000})
			flow = append(flow, int64(i))
		}
		for _, arc := range []int{-3, -2, -1, 0, 1, 2 * edges / 2, 2*edges - 2, 2*edges - 1, 2 * edges, 2*edges + 1, 2*edges + 2, 3 * edges, 4 * edges} {
			heldArc(t, "so many edges", n, flow, arc, 1)
			is := arc >= 0 && arc < 2*edges
			if from, _, _ := rest.Ends(n, arc); (from != 0) != is {
				t.Errorf("P12.1: Ends of %d, of %d edges: from %d", arc, edges, from)
			}
			if _, e := rest.Push(n, flow, arc, 0); (e == api.OK) != is {
				t.Errorf("P12.2: Push of %d, of %d edges: %v", arc, edges, e)
			}
		}
	}
}

func TestArcsThatAreAnyNumber(t *testing.T) {
	n, flow := ring()
	for _, arc := range append([]int{14, 15, 28}, farInts...) {
		from, to, cost := rest.Ends(n, arc)
		if from != 0 || to != 0 || cost != 0 || rest.Room(n, flow, arc) != 0 {
			t.Errorf("P12.1: of arc %d: %d, %d, %d, %d", arc, from, to, cost, rest.Room(n, flow, arc))
		}
		for _, by := range append([]int64{0, 1}, far64...) {
			if l, e := rest.Push(n, flow, arc, by); l != nil || e != api.ErrArg {
				t.Errorf("P12.2: Push of arc %d by %d: %v, %v", arc, by, l, e)
			}
		}
		refused(t, "one arc that is not there", n, flow, []int{arc})
	}
}

func TestNetsThatAreNotRight(t *testing.T) {
	for what, n := range wrongNets() {
		for _, flow := range [][]int64{make([]int64, len(n.Edges)), slices.Repeat([]int64{1}, len(n.Edges)), nil} {
			for _, arc := range []int{-1, 0, 1, 2, 3, 2*len(n.Edges) - 1, 2 * len(n.Edges)} {
				from, to, cost := rest.Ends(n, arc)
				if from != 0 || to != 0 || cost != 0 || rest.Room(n, flow, arc) != 0 {
					t.Errorf("P12.1: %s: of arc %d: %d, %d, %d, %d", what, arc, from, to, cost, rest.Room(n, flow, arc))
				}
				if l, e := rest.Push(n, flow, arc, 0); l != nil || e != api.ErrArg {
					t.Errorf("P12.2: %s: Push of %d: %v, %v", what, arc, l, e)
				}
				refused(t, what, n, flow, []int{arc})
			}
			refused(t, what, n, flow, nil)
		}
	}
}

func TestNetsOfNoEdges(t *testing.T) {
	for nodes := 1; nodes <= 40; nodes++ {
		n := api.Net{N: nodes}
		for _, flow := range [][]int64{nil, {}, {0}} {
			for _, arc := range append([]int{-1, 0, 1}, farInts...) {
				heldArc(t, "no edges", n, flow, arc, 0)
				refused(t, "no edges", n, flow, []int{arc})
			}
			refused(t, "no edges", n, flow, nil)
			refused(t, "no edges", n, flow, []int{})
		}
	}
}

// Whatever arc is asked for: the fault may be on another edge.
func TestFlowsThatAreNotWithin(t *testing.T) {
	n, _ := ring()
	for what, flow := range wrongFlows() {
		for arc := -1; arc <= 14; arc++ {
			if got := rest.Room(n, flow, arc); got != 0 {
				t.Errorf("P12.1: %s: Room of %d: %d", what, arc, got)
			}
			for _, by := range []int64{-1, 0, 1} {
				if l, e := rest.Push(n, flow, arc, by); l != nil || e != api.ErrArg {
					t.Errorf("P12.2: %s: Push of %d by %d: %v, %v", what, arc, by, l, e)
				}
			}
			refused(t, what, n, flow, []int{arc})
		}
		// Ends asks for no flow.
		if from, to, cost := rest.Ends(n, 5); from != 3 || to != 2 || cost != -3 {
			t.Errorf("P12.1: Ends of 5: %d, %d, %d", from, to, cost)
		}
		refused(t, what, n, flow, []int{0, 2, 4, 6})
		refused(t, what, n, flow, nil)
	}
}

func TestRoomsOfEachFlow(t *testing.T) {
	for _, c := range []int64{0, 1, 2, 5, amount - 1, amount} {
		for _, x := range []int64{0, 1, c / 2, c - 1, c} {
			if x < 0 || x > c {
				continue
			}
			n := api.Net{N: 3, Edges: []api.Edge{{From: 1, To: 2, Cap: 4, Cost: 3}, {From: 2, To: 1, Cap: c, Cost: -3}, {From: 1, To: 0, Cap: 6, Cost: 9}}}
			flow := []int64{1, x, 4}
			for arc, want := range []int64{3, 1, c - x, x, 2, 4, 0} {
				if got := rest.Room(n, flow, arc); got != want {
					t.Errorf("P12.1: Room of %d, %d of %d: %d and not %d", arc, x, c, got, want)
				}
				for _, by := range append([]int64{0, 1, want - 1, want, want + 1}, far64...) {
					heldArc(t, "each flow", n, flow, arc, by)
				}
			}
		}
	}
}

// The cost of an arc back has the other sign, nought has none.
func TestCostsOfArcs(t *testing.T) {
	for _, cost := range []int64{-1000, -999, -1, 0, 1, 2, 999, 1000} {
		n := api.Net{N: 3, Edges: []api.Edge{{From: 2, To: 1, Cap: 1, Cost: 5}, {From: 1, To: 2, Cap: 3, Cost: cost}}}
		if from, to, got := rest.Ends(n, 2); from != 1 || to != 2 || got != cost {
			t.Errorf("P12.1: Ends forward: %d, %d, %d", from, to, got)
		}
		if from, to, got := rest.Ends(n, 3); from != 2 || to != 1 || got != -cost {
			t.Errorf("P12.1: Ends back: %d, %d, %d", from, to, got)
		}
	}
}

// P12.2

func TestPushesOfEachNumber(t *testing.T) {
	n, flow := ring()
	for arc := range 14 {
		left := rest.Room(n, flow, arc)
		for by := int64(-3); by <= left+3; by++ {
			got, e := rest.Push(n, flow, arc, by)
			want, wantE := slices.Clone(flow), api.OK
			if arc%2 == 0 {
				want[arc/2] += by
			} else {
				want[arc/2] -= by
			}
			if by < 0 {
				want, wantE = nil, api.ErrArg
			} else if by > left {
				want, wantE = nil, api.ErrFull
			}
			if !slices.Equal(got, want) || e != wantE {
				t.Errorf("P12.2: Push of %d by %d: %v, %v and not %v, %v", arc, by, got, e, want, wantE)
			}
		}
		for _, by := range far64 {
			want := api.ErrFull
			if by < 0 {
				want = api.ErrArg
			}
			if got, e := rest.Push(n, flow, arc, by); got != nil || e != want {
				t.Errorf("P12.2: Push of %d by %d: %v, %v", arc, by, got, e)
			}
		}
	}
}

// What may not be handed in is told ahead of what there is no room for.
func TestPushTellsErrArgFirst(t *testing.T) {
	n, flow := ring()
	tooMuch := append(slices.Clone(flow[:6]), 11)
	for what, c := range map[string]struct {
		flow []int64
		arc  int
		by   int64
	}{
		"a flow that is not within": {tooMuch, 0, 6},
		"no such arc":               {flow, 14, 1},
		"an arc below 0":            {flow, -1, amount},
		"by below 0, a full arc":    {flow, 10, -1},
		"by below 0, an empty arc":  {flow, 9, -1},
		"all of them":               {tooMuch, 14, -1},
	} {
		if l, e := rest.Push(n, c.flow, c.arc, c.by); l != nil || e != api.ErrArg {
			t.Errorf("P12.2: %s: %v, %v", what, l, e)
		}
	}
}

// P12.3

func TestWays(t *testing.T) {
	n, flow := ring()
	for what, c := range map[string]struct {
		arcs   []int
		bottle int64
	}{
		"one arc":                               {[]int{0}, 5},
		"one arc back":                          {[]int{1}, 4},
		"one that is full":                      {[]int{10}, 0},
		"one back of which nothing flows":       {[]int{9}, 0},
		"two":                                   {[]int{0, 2}, 4},
		"the first is the least":                {[]int{2, 8}, 4},
		"the last is the least":                 {[]int{8, 7}, 2},
		"the middle is the least":               {[]int{8, 7, 5}, 2},
		"all around":                            {[]int{0, 2, 4, 6}, 4},
		"all around, from elsewhere":            {[]int{4, 6, 0, 2}, 4},
		"all around, back":                      {[]int{7, 5, 3, 1}, 2},
		"forward and back":                      {[]int{0, 2, 11}, 4},
		"a full one at the end":                 {[]int{8, 10}, 0},
		"a full one at the beginning":           {[]int{10, 8}, 0},
		"both arcs of one edge":                 {[]int{0, 1}, 5},
		"both arcs of one edge, back first":     {[]int{1, 0}, 4},
		"to and fro":                            {[]int{0, 1, 0, 1, 0}, 5},
		"from a node to itself":                 {[]int{12}, 7},
		"from a node to itself, back":           {[]int{13}, 3},
		"from a node to itself, twice":          {[]int{12, 12}, 3},
		"from a node to itself, three times":    {[]int{12, 12, 12}, 2},
		"from a node to itself, eight times":    {slices.Repeat([]int{12}, 8), 0},
		"from a node to itself, back twice":     {[]int{13, 13}, 1},
		"from a node to itself, to and fro":     {[]int{12, 13}, 7},
		"from a node to itself, fro and to":     {[]int{13, 12}, 3},
		"to itself: one, back twice, one":       {[]int{12, 13, 13, 12}, 3},
		"to itself: twice, back three":          {[]int{12, 12, 13, 13, 13}, 3},
		"to itself: back twice, three":          {[]int{13, 13, 12, 12, 12}, 1},
		"to itself: back, twice, back, twice":   {[]int{13, 12, 12, 13, 12, 12}, 3},
		"to itself: back twice, five, back two": {[]int{13, 13, 12, 12, 12, 12, 12, 13, 13}, 1},
		"to itself in the middle":               {[]int{2, 12, 4}, 4},
		"around twice":                          {[]int{0, 2, 4, 6, 0, 2, 4, 6}, 2},
		"around three times":                    {slices.Repeat([]int{0, 2, 4, 6}, 3), 1},
		"around five times":                     {slices.Repeat([]int{0, 2, 4, 6}, 5), 0},
		"around, and all back":                  {[]int{0, 2, 4, 6, 7, 5, 3, 1}, 4},
		"around back, and all forward":          {[]int{7, 5, 3, 1, 0, 2, 4, 6}, 2},
		"a full one behind what it gave back":   {[]int{11, 10}, 4},
		"a full one behind twice":               {[]int{11, 10, 11, 10}, 4},
		"an empty one behind what came on it":   {[]int{8, 9}, 9},
		"an empty one ahead of it":              {[]int{9, 8}, 0},
	} {
		bottled(t, what, n, flow, c.arcs, c.bottle)
	}
}

func TestAlongAnswersTheFlowBehindIt(t *testing.T) {
	n, flow := ring()
	for _, c := range []struct {
		arcs []int
		by   int64
		want []int64
	}{
		{[]int{0}, 5, []int64{9, 4, 3, 2, 0, 4, 3}},
		{[]int{0, 2, 4, 6}, 4, []int64{8, 8, 7, 6, 0, 4, 3}},
		{[]int{7, 5, 3, 1}, 2, []int64{2, 2, 1, 0, 0, 4, 3}},
		{[]int{0, 2, 12, 13, 11}, 3, []int64{7, 7, 3, 2, 0, 1, 3}},
		{[]int{0, 2, 4, 6, 0, 2, 4, 6}, 2, []int64{8, 8, 7, 6, 0, 4, 3}},
		{[]int{12, 12}, 3, []int64{4, 4, 3, 2, 0, 4, 9}},
		{[]int{13, 12, 12}, 3, []int64{4, 4, 3, 2, 0, 4, 6}},
		{[]int{8, 0, 1, 10}, 0, []int64{4, 4, 3, 2, 0, 4, 3}},
		{[]int{0, 1}, 5, []int64{4, 4, 3, 2, 0, 4, 3}},
	} {
		if got, e := rest.Along(n, flow, c.arcs, c.by); !slices.Equal(got, c.want) || e != api.OK {
			t.Errorf("P12.3: Along %v by %d: %v, %v", c.arcs, c.by, got, e)
		}
	}
}

func TestArcsThatAreNoWay(t *testing.T) {
	n, flow := ring()
	for what, arcs := range map[string][]int{
		"none":                         nil,
		"no arcs":                      {},
		"the same arc twice":           {0, 0},
		"the same arc back twice":      {1, 1},
		"two that do not meet":         {0, 4},
		"two that end at the same one": {0, 3},
		"two that begin at the same":   {2, 1},
		"ones in the other order":      {2, 0},
		"the last one does not meet":   {0, 2, 4, 2},
		"the first one does not meet":  {4, 0, 2, 4},
		"the middle one does not meet": {0, 2, 8, 5, 6},
		"not there":                    {14},
		"not there at the end":         {0, 2, 14},
		"not there at the beginning":   {14, 0, 2},
		"not there in the middle":      {0, 14, 2},
		"below 0 in the middle":        {0, -1, 2},
		"one that would fit, but far":  {0, 2 + 1<<32, 4},
		"all around, one left out":     {0, 2, 6},
		"to itself, twice elsewhere":   {0, 12, 2},
		"full, and no way behind it":   {10, 10},
		"full, and not there behind":   {10, 14},
		"no way, and full behind it":   {0, 10},
	} {
		refused(t, what, n, flow, arcs)
	}
	for _, arc := range farInts {
		refused(t, "far", n, flow, []int{0, arc, 2})
		refused(t, "far", n, flow, []int{arc, 2})
		refused(t, "far", n, flow, []int{0, arc})
	}
}

// Each pair of arcs: a way where one begins where the other ends.
func TestEachPairOfArcs(t *testing.T) {
	n, flow := ring()
	for a := range 14 {
		for b := range 14 {
			_, meets, _ := rest.Ends(n, a)
			begins, _, _ := rest.Ends(n, b)
			if _, e := rest.Along(n, flow, []int{a, b}, 0); (e == api.OK) != (meets == begins) {
				t.Errorf("P12.3: Along %d, %d by 0: %v", a, b, e)
			}
			for by := int64(-1); by <= 11; by++ {
				held(t, "a pair", n, flow, []int{a, b}, by)
			}
			for c := range 14 {
				held(t, "three", n, flow, []int{a, b, c}, int64(c%4))
			}
		}
	}
}

// The first error goes ahead, but what may not be handed in ahead of all.
func TestWhichErrorAlongTells(t *testing.T) {
	n, flow := ring()
	tooMuch := append(slices.Clone(flow[:6]), 11)
	for what, c := range map[string]struct {
		flow []int64
		arcs []int
		by   int64
		e    api.Errno
	}{
		"the first is full":                {flow, []int{10, 8}, 1, api.ErrFull},
		"the last is full":                 {flow, []int{8, 10}, 1, api.ErrFull},
		"the middle one is full":           {flow, []int{8, 10, 12}, 1, api.ErrFull},
		"all are full":                     {flow, []int{10, 8, 10}, 100, api.ErrFull},
		"full, and not there later":        {flow, []int{10, 8, 14}, 1, api.ErrArg},
		"full, and no way later":           {flow, []int{10, 8, 4}, 1, api.ErrArg},
		"full, and by below 0":             {flow, []int{10}, -1, api.ErrArg},
		"full, and a flow not within":      {tooMuch, []int{10}, 1, api.ErrArg},
		"full at first, with room later":   {flow, []int{10, 11}, 1, api.ErrFull},
		"with room at first, full later":   {flow, []int{11, 10, 4, 6, 10}, 1, api.ErrFull},
		"empty at first, with room later":  {flow, []int{9, 8}, 1, api.ErrFull},
		"as much as all may be":            {flow, []int{0}, math.MaxInt64, api.ErrFull},
		"as much as all may be, back":      {flow, []int{1}, math.MaxInt64, api.ErrFull},
		"as much as all may be, no way":    {flow, []int{1, 1}, math.MaxInt64, api.ErrArg},
		"nothing, on full and empty ones":  {flow, []int{10, 8, 9, 8, 10}, 0, api.OK},
		"nothing below 0":                  {flow, []int{10, 8}, math.MinInt64, api.ErrArg},
		"what fits once does not so twice": {flow, []int{12, 12}, 4, api.ErrFull},
	} {
		l, e := rest.Along(n, c.flow, c.arcs, c.by)
		if e != c.e || (e != api.OK && l != nil) {
			t.Errorf("P12.3: %s: %v, %v", what, l, e)
		}
		held(t, what, n, c.flow, c.arcs, c.by)
	}
	for _, by := range far64 {
		held(t, "far", n, flow, []int{0, 2, 4, 6}, by)
		held(t, "far", n, flow, []int{13, 13, 12, 12}, by)
	}
}

// Each list of pushes to and fro on one edge from a node to itself, with each flow on it.
func TestBottlesOfOneEdge(t *testing.T) {
	n := api.Net{N: 1, Edges: []api.Edge{{Cap: 7, Cost: 3}}}
	for length := 1; length <= 8; length++ {
		for choice := range 1 << length {
			var arcs []int
			for i := range length {
				arcs = append(arcs, choice>>i&1)
			}
			for flow := range int64(8) {
				if got, want := rest.Bottle(n, []int64{flow}, arcs), modelBottle(n, []int64{flow}, arcs); got != want {
					t.Errorf("P12.3: Bottle of %v on %d: %d and not %d", arcs, flow, got, want)
				}
			}
		}
	}
}

func TestBottlesOfGreatAmounts(t *testing.T) {
	n := api.Net{N: 2, Edges: []api.Edge{{To: 1, Cap: amount, Cost: 1}, {From: 1, Cap: amount, Cost: -1}, {From: 1, To: 1, Cap: amount, Cost: 0}}}
	for _, c := range []struct {
		flow []int64
		arcs []int
		want int64
	}{
		{[]int64{0, 0, 0}, []int{0}, amount},
		{[]int64{amount, 0, 0}, []int{1}, amount},
		{[]int64{amount, 0, 0}, []int{0}, 0},
		{[]int64{0, 0, 0}, []int{0, 2}, amount},
		{[]int64{0, 0, 0}, []int{0, 2, 0, 2}, amount / 2},
		{[]int64{1, 0, 0}, []int{0, 2, 0, 2}, amount/2 - 1},
		{[]int64{0, 0, 0}, []int{0, 2, 0, 2, 0, 2}, amount / 3},
		{[]int64{0, 0, 0}, []int{0, 4, 4, 4, 2}, amount / 3},
		{[]int64{0, 0, amount - 1}, []int{0, 4, 2}, 1},
		{[]int64{0, 0, amount - 1}, []int{0, 5, 4, 4, 2}, 1},
		{[]int64{0, 0, amount - 1}, []int{5, 5, 5}, (amount - 1) / 3},
	} {
		bottled(t, "great amounts", n, c.flow, c.arcs, c.want)
	}
}

// A way may be of any length: each edge of it is gone over again and again.
func TestLongWays(t *testing.T) {
	n, flow := ring()
	n.Edges[6].Cap = amount
	for _, times := range []int{1, 10, 1000, 200000} {
		fro := slices.Repeat([]int{12, 13}, times)
		if got := rest.Bottle(n, flow, fro); got != amount-3 {
			t.Errorf("P12.3: Bottle of %d arcs: %d", len(fro), got)
		}
		if l, e := rest.Along(n, flow, fro, amount-3); !slices.Equal(l, flow) || e != api.OK {
			t.Errorf("P12.3: Along %d arcs: %v, %v", len(fro), l, e)
		}
		around := slices.Repeat([]int{12}, times)
		most := (amount - 3) / int64(times)
		if got := rest.Bottle(n, flow, around); got != most {
			t.Errorf("P12.3: Bottle of one arc %d times: %d and not %d", times, got, most)
		}
		if l, e := rest.Along(n, flow, around, most); e != api.OK || l[6] != 3+most*int64(times) {
			t.Errorf("P12.3: Along one arc %d times: %v, %v", times, l, e)
		}
		if l, e := rest.Along(n, flow, around, most+1); e != api.ErrFull || l != nil {
			t.Errorf("P12.3: Along one arc %d times, by one more: %v, %v", times, l, e)
		}
		if l, e := rest.Along(n, flow, append(slices.Clone(around), 0), 0); e != api.ErrArg || l != nil {
			t.Errorf("P12.3: Along one arc %d times, and one that does not meet: %v, %v", times, l, e)
		}
	}
}

// P12.4 and walks over nets that are made up.

// some answers a net that is right, with a flow that is within, of some edges.
func some(dice *rand.Rand) (api.Net, []int64) {
	n := api.Net{N: 1 + dice.Intn(40)}
	if dice.Intn(2) == 0 {
		n.N = 1 + dice.Intn(5)
	}
	most := int64(1) << dice.Intn(53)
	if dice.Intn(2) == 0 {
		most = int64(dice.Intn(20))
	}
	var flow []int64
	for range 1 + dice.Intn(200) {
		e := api.Edge{From: dice.Intn(n.N), To: dice.Intn(n.N), Cap: dice.Int63n(most + 1), Cost: dice.Int63n(2001) - 1000}
		if dice.Intn(4) == 0 {
			e.Cost = dice.Int63n(3) - 1
		}
		n.Edges = append(n.Edges, e)
		if !net.Right(n) { // the sum alone can be too much
			n.Edges = n.Edges[:len(n.Edges)-1]
			break
		}
		flow = append(flow, []int64{0, e.Cap, dice.Int63n(e.Cap + 1), dice.Int63n(e.Cap + 1)}[dice.Intn(4)])
	}
	return n, flow
}

// someWay answers a way of at most so many arcs, of any that meet, or of those with room.
func someWay(dice *rand.Rand, n api.Net, flow []int64, length int) []int {
	all, rooms := modelArcs(n), modelRooms(n, flow)
	withRoom := dice.Intn(4) != 0
	way := []int{dice.Intn(len(all))}
	for len(way) < length {
		var next []int
		for arc, a := range all {
			if a.From == all[way[len(way)-1]].To && (!withRoom || rooms[arc] > 0) {
				next = append(next, arc)
			}
		}
		if len(next) == 0 {
			break
		}
		way = append(way, next[dice.Intn(len(next))])
	}
	return way
}

func TestWhatIsPushedIsPushedBack(t *testing.T) {
	dice := rand.New(rand.NewSource(124))
	for range 1500 {
		n, flow := some(dice)
		if len(n.Edges) == 0 {
			continue
		}
		arc := dice.Intn(2 * len(n.Edges))
		other := arc ^ 1
		by := dice.Int63n(rest.Room(n, flow, arc) + 1)
		behind, e := rest.Push(n, flow, arc, by)
		if e != api.OK || rest.Room(n, behind, arc) != rest.Room(n, flow, arc)-by || rest.Room(n, behind, other) != rest.Room(n, flow, other)+by {
			t.Fatalf("P12.4: rooms behind a Push of %d by %d: %v", arc, by, e)
		}
		if again, e := rest.Push(n, behind, other, by); e != api.OK || !slices.Equal(again, flow) {
			t.Errorf("P12.4: pushed back: %v, %v", again, e)
		}
		if again, e := rest.Along(n, flow, []int{arc, other}, by); e != api.OK || !slices.Equal(again, flow) {
			t.Errorf("P12.4: there and back: %v, %v", again, e)
		}
		from, to, cost := rest.Ends(n, arc)
		if f, t2, c := rest.Ends(n, other); f != to || t2 != from || c != -cost {
			t.Errorf("P12.4: Ends of %d: %d, %d, %d", other, f, t2, c)
		}
	}
}

// A whole way, pushed back from its end: all is as it was.
func TestAWayIsPushedBack(t *testing.T) {
	dice := rand.New(rand.NewSource(1240))
	found := 0
	for range 1500 {
		n, flow := some(dice)
		if len(n.Edges) == 0 {
			continue
		}
		way := someWay(dice, n, flow, 1+dice.Intn(12))
		by := rest.Bottle(n, flow, way)
		behind, e := rest.Along(n, flow, way, by)
		if e != api.OK {
			t.Fatalf("P12.3: by the Bottle: %v", e)
		}
		var again []int
		for _, arc := range way {
			again = append([]int{arc ^ 1}, again...)
		}
		if l, e := rest.Along(n, behind, again, by); e != api.OK || !slices.Equal(l, flow) {
			t.Errorf("P12.4: a way back: %v, %v", l, e)
		}
		if by > 0 {
			found++
		}
	}
	if found < 500 {
		t.Errorf("%d ways alone had room", found)
	}
}

// What is over is more at the end and less at the beginning; the cost is more by what the arcs cost.
func TestWhatIsOverBehindAWay(t *testing.T) {
	dice := rand.New(rand.NewSource(1241))
	open, closed := 0, 0
	for range 4000 {
		n, flow := some(dice)
		if len(n.Edges) == 0 {
			continue
		}
		way := someWay(dice, n, flow, 1+dice.Intn(12))
		most := rest.Bottle(n, flow, way)
		for _, by := range []int64{0, dice.Int63n(most + 1), most} {
			behind, e := rest.Along(n, flow, way, by)
			if e != api.OK || !net.Within(n, behind) {
				t.Fatalf("P12.3: Along by %d of %d: %v, %v", by, most, behind, e)
			}
			want, cost := net.Over(n, flow), net.Cost(n, flow)
			first, _, _ := rest.Ends(n, way[0])
			_, last, _ := rest.Ends(n, way[len(way)-1])
			want[last] += by
			want[first] -= by
			for _, arc := range way {
				_, _, c := rest.Ends(n, arc)
				cost += c * by
			}
			if got := net.Over(n, behind); !slices.Equal(got, want) {
				t.Errorf("P12.4: Over behind %v by %d: %v and not %v", way, by, got, want)
			}
			if got := net.Cost(n, behind); got != cost {
				t.Errorf("P12.4: Cost behind %v by %d: %d and not %d", way, by, got, cost)
			}
			if by > 0 && first == last {
				closed++
			} else if by > 0 {
				open++
			}
		}
	}
	if open < 1000 || closed < 1000 {
		t.Errorf("%d ways that close and %d that do not were found", closed, open)
	}
}

// Ways that close, one behind the other, from nothing on: what flows goes on to flow.
func TestFlowsStayAlongWaysThatClose(t *testing.T) {
	dice := rand.New(rand.NewSource(1242))
	found := 0
	for range 800 {
		n, flow := some(dice)
		flow = make([]int64, len(flow))
		for range 12 {
			if len(n.Edges) == 0 {
				break
			}
			way := someWay(dice, n, flow, 1+dice.Intn(12))
			first, _, _ := rest.Ends(n, way[0])
			_, last, _ := rest.Ends(n, way[len(way)-1])
			by := rest.Bottle(n, flow, way)
			behind, e := rest.Along(n, flow, way, by)
			if e != api.OK || net.Flows(n, behind) != (first == last || by == 0) {
				t.Fatalf("P12.4: Flows behind %v by %d: %v, %v", way, by, behind, e)
			}
			if first == last {
				flow = behind
				if by > 0 {
					found++
				}
			}
		}
	}
	if found < 500 {
		t.Errorf("%d ways that close alone had room", found)
	}
}

func TestWalksHeldAgainstTheModel(t *testing.T) {
	dice := rand.New(rand.NewSource(1243))
	for range 600 {
		n, flow := some(dice)
		if len(n.Edges) == 0 {
			continue
		}
		for range 3 {
			way := someWay(dice, n, flow, 1+dice.Intn(12))
			most := rest.Bottle(n, flow, way)
			for _, by := range []int64{-1, 0, dice.Int63n(most + 1), most, most + 1, far64[dice.Intn(len(far64))]} {
				held(t, "a walk", n, flow, way, by)
			}
			turned := slices.Clone(way)
			turned[dice.Intn(len(turned))] = dice.Intn(2*len(n.Edges)+2) - 1
			held(t, "an arc turned", n, flow, turned, dice.Int63n(most+1))
			turned[dice.Intn(len(turned))] = farInts[dice.Intn(len(farInts))]
			held(t, "an arc turned", n, flow, turned, 0)
			flow, _ = rest.Along(n, flow, way, dice.Int63n(most+1))
		}
		turned := slices.Clone(flow)
		turned[dice.Intn(len(turned))] = far64[dice.Intn(len(far64))]
		held(t, "a number turned", n, turned, someWay(dice, n, flow, 4), 0)
	}
}

// R2 to R5

// roomy answers the same list with room behind its end, and all of that room, to look at.
func roomy[T any](l []T, behind T) (list, whole []T) {
	whole = append(slices.Clone(l), behind, behind, behind)
	return whole[:len(l)], whole
}

func TestWhatIsHandedInStays(t *testing.T) {
	n, flow := ring()
	for _, way := range [][]int{{0, 2, 4, 6}, {7, 5, 3, 1}, {12, 12, 12}, {0, 0}, {10, 8}, {14}, nil} {
		for _, by := range []int64{-1, 0, 1, 2, 3, 4, 9} {
			for _, given := range [][]int64{flow, flow[:6], {4, 4, 3, 2, 0, 4, 11}} {
				l, whole := roomy(given, 77)
				edges, all := roomy(n.Edges, api.Edge{From: 7, To: 7, Cap: 77, Cost: 77})
				arcs, most := roomy(way, 3)
				wasWhole, wasAll, wasMost := slices.Clone(whole), slices.Clone(all), slices.Clone(most)
				held(t, "R3", api.Net{N: 4, Edges: edges}, l, arcs, by)
				if !slices.Equal(whole, wasWhole) || !slices.Equal(all, wasAll) || !slices.Equal(most, wasMost) {
					t.Errorf("R3: %v, %v, %v behind the calls", whole, all, most)
				}
			}
		}
	}
}

// By nothing, too, a flow is answered in new memory.
func TestAnswersAreNewMemory(t *testing.T) {
	n, flow := ring()
	l, whole := roomy(flow, 77)
	for _, by := range []int64{0, 1} {
		for _, push := range []func() ([]int64, api.Errno){
			func() ([]int64, api.Errno) { return rest.Push(n, l, 0, by) },
			func() ([]int64, api.Errno) { return rest.Push(n, l, 1, by) },
			func() ([]int64, api.Errno) { return rest.Along(n, l, []int{0, 2}, by) },
			func() ([]int64, api.Errno) { return rest.Along(n, l, []int{0, 1}, by) },
		} {
			one, e := push()
			other, _ := push()
			want := slices.Clone(other)
			for i := range one {
				one[i] = 99
			}
			one = append(one, 99)
			again, _ := push()
			if e != api.OK || len(one) != 8 || !slices.Equal(other, want) || !slices.Equal(again, want) || !slices.Equal(l, flow) || whole[7] != 77 {
				t.Errorf("R3: %v, %v, %v behind a change of an answer", other, again, whole)
			}
			l[0]++
			if !slices.Equal(other, want) {
				t.Errorf("R3: %v behind a change of what was handed in", other)
			}
			l[0]--
		}
	}
}

func TestAnswersHangOnNothingElse(t *testing.T) {
	n, flow := ring()
	bad := wrongNets()["the sum"]
	for range 20 {
		held(t, "R5", n, flow, []int{0, 2, 4, 6}, 3)
		held(t, "R5", n, flow, []int{0, 2, 4, 6}, 5)
		held(t, "R5", bad, []int64{0, 0}, []int{0}, 0)
		held(t, "R5", api.Net{}, nil, nil, math.MinInt64)
		held(t, "R5", api.Net{N: 1, Edges: []api.Edge{}}, []int64{}, []int{}, 0)
	}
}

// FuzzRest makes a net, a flow and arcs of bytes, and holds all calls against the model.
func FuzzRest(f *testing.F) {
	f.Add(2, int64(5), int64(2), int64(3), []byte{0, 1, 0, 2, 1, 0, 0, 0}, []byte{0, 2})
	f.Add(1, int64(amount), int64(1000), int64(amount), []byte{0, 0, 0, 0}, []byte{0, 1, 0})
	f.Add(2, int64(amount), int64(-8), int64(1), []byte("\x00\x01\x00\x00\x01\x00\x11\x11"), []byte{0, 3, 1})
	f.Add(40, int64(math.MaxInt64), int64(math.MinInt64), int64(-1), []byte{39, 40, 1, 1, 255, 0, 9, 9}, []byte{255})
	f.Fuzz(func(t *testing.T, nodes int, cap, cost, by int64, l, way []byte) {
		n := api.Net{N: nodes}
		var flow []int64
		for ; len(l) >= 4 && len(n.Edges) < 20; l = l[4:] {
			e := api.Edge{From: int(int8(l[0])), To: int(int8(l[1])), Cap: cap, Cost: cost}
			if l[2]%2 == 1 {
				e.Cap, e.Cost = int64(l[2]/2), int64(int8(l[3]))
			}
			n.Edges = append(n.Edges, e)
			if l[3] != 255 {
				flow = append(flow, min(e.Cap, e.Cap>>(l[3]%64)))
			}
		}
		var arcs []int
		for _, arc := range way[:min(len(way), 30)] {
			arcs = append(arcs, int(int8(arc)))
		}
		held(t, "bytes", n, flow, arcs, by)
		held(t, "bytes, nothing", n, make([]int64, len(n.Edges)), arcs, by)
		held(t, "bytes, one", n, flow, arcs, 1)
	})
}
