package paths_test

import (
	"math"
	"math/rand"
	"slices"
	"testing"

	"gablet/api"
	"gablet/net"
	"gablet/paths"
	"gablet/rest"
)

const (
	amount  = 1 << 52
	mostPot = 1 << 40
)

// Numbers that are far from any bound, or that wrap round to a small one.
var (
	farInts = []int{math.MinInt, math.MinInt + 1, -1 << 62, -1 << 32, -1<<32 + 1, -1 << 31, -1000, -3, -2, -1, 41, 1000, 1 << 31, 1 << 32, 1<<32 + 1, 1 << 62, 1<<62 + 1, 1<<63 - 1<<32, math.MaxInt - 1, math.MaxInt}
	far64   = []int64{math.MinInt64, math.MinInt64 + 1, -1 << 62, -1 << 53, -1 << 52, -1 << 41, -mostPot - 1, mostPot + 1, 1 << 41, 1 << 52, 1 << 53, 1 << 61, 1 << 62, 1<<62 + 1, 1<<63 - 1<<40, math.MaxInt64 - 5, math.MaxInt64 - 1, math.MaxInt64}
)

// hill is a net of the nodes 0 to 4 with numbers that fit: no way leads to 4, edge 6 is from 2 to itself.
func hill() (n api.Net, flow, pot []int64) {
	return api.Net{N: 5, Edges: []api.Edge{
		{From: 0, To: 1, Cap: 9, Cost: 3},
		{From: 0, To: 2, Cap: 8, Cost: 7},
		{From: 1, To: 2, Cap: 7, Cost: 1},
		{From: 2, To: 3, Cap: 6, Cost: 2},
		{From: 3, To: 0, Cap: 5, Cost: -9},
		{From: 4, To: 1, Cap: 4, Cost: 6},
		{From: 2, To: 2, Cap: 3, Cost: 0},
		{From: 3, To: 1, Cap: 0, Cost: -900},
	}}, []int64{0, 0, 4, 0, 5, 0, 1, 0}, []int64{0, 1, 2, 3, 0}
}

// level is a net of the nodes 0 to 3 of which all arcs have the length 0 with these numbers, whatever flows.
func level() (n api.Net, pot []int64) {
	return api.Net{N: 4, Edges: []api.Edge{
		{From: 0, To: 1, Cap: 9, Cost: 4},
		{From: 1, To: 2, Cap: 1, Cost: -7},
		{From: 2, To: 3, Cap: amount, Cost: 0},
		{From: 3, To: 0, Cap: 0, Cost: 3},
		{From: 1, To: 1, Cap: 5, Cost: 0},
	}}, []int64{2, 6, -1, -1}
}

// wrongNets are nets that are not right, of which all lengths are 0 or more.
func wrongNets() map[string]api.Net {
	return map[string]api.Net{
		"no nodes":          {},
		"below no nodes":    {N: -1, Edges: []api.Edge{{Cap: 1, Cost: 1}}},
		"no nodes, an edge": {Edges: []api.Edge{{Cap: 1, Cost: 1}}},
		"too many nodes":    {N: 41, Edges: []api.Edge{{From: 1, Cap: 1, Cost: 1}}},
		"far too many":      {N: math.MaxInt, Edges: []api.Edge{{From: 1, Cap: 1, Cost: 1}}},
		"far below":         {N: math.MinInt},
		"too many edges":    {N: 2, Edges: slices.Repeat([]api.Edge{{From: 1, Cap: 1, Cost: 1}}, 201)},
		"From":              {N: 2, Edges: []api.Edge{{From: 2, To: 1, Cap: 1, Cost: 1}}},
		"From below 0":      {N: 2, Edges: []api.Edge{{From: -1, To: 1, Cap: 1, Cost: 1}}},
		"To":                {N: 2, Edges: []api.Edge{{From: 1, To: 2, Cap: 1, Cost: 1}}},
		"To, far":           {N: 2, Edges: []api.Edge{{From: 1, To: math.MaxInt, Cap: 1, Cost: 1}}},
		"a Cap":             {N: 2, Edges: []api.Edge{{From: 1, Cap: amount + 1, Cost: 1}}},
		"a Cap below 0":     {N: 2, Edges: []api.Edge{{From: 1, Cap: -1, Cost: 1}}},
		"a Cost":            {N: 2, Edges: []api.Edge{{From: 1, Cap: 1, Cost: 1001}}},
		"a Cost, no Cap":    {N: 2, Edges: []api.Edge{{From: 1, Cap: 0, Cost: -1001}}},
		"the last edge":     {N: 2, Edges: []api.Edge{{From: 1, Cap: 1, Cost: 1}, {From: 1, To: 1, Cap: 1, Cost: 1001}}},
		"the sum":           {N: 2, Edges: slices.Repeat([]api.Edge{{From: 1, Cap: amount, Cost: 1000}}, 2)},
	}
}

func TestNumbersThatAreGiven(t *testing.T) {
	if api.MaxNodes != 40 || api.MaxEdges != 200 || api.MaxAmount != amount || api.MaxWeight != 1000 || api.OK != 0 || api.ErrArg != 1 {
		t.Error("the numbers of limits and errors")
	}
}

// answers holds Ways against answers that the test says.
func answers(t *testing.T, what string, n api.Net, flow, pot []int64, from []int, dist []int64, by []int) {
	t.Helper()
	if gotDist, gotBy, e := paths.Ways(n, flow, pot, from); e != api.OK || !slices.Equal(gotDist, dist) || !slices.Equal(gotBy, by) {
		t.Errorf("P13.2: %s: %v, %v, %v and not %v, %v", what, gotDist, gotBy, e, dist, by)
	}
	held(t, what, n, flow, pot, from)
}

func TestTheChaptersExample(t *testing.T) {
	n := api.Net{N: 2, Edges: []api.Edge{{From: 0, To: 1, Cap: 5, Cost: 3}}}
	for _, c := range []struct {
		flow int64
		pot  []int64
		want bool
	}{{0, []int64{0, 0}, true}, {5, []int64{0, 0}, false}, {5, []int64{0, 3}, true}} {
		if got := paths.Fits(n, []int64{c.flow}, c.pot); got != c.want {
			t.Errorf("P13.1: Fits with the flow %d, pot %v: %v", c.flow, c.pot, got)
		}
	}
	answers(t, "no flow", n, []int64{0}, []int64{0, 0}, []int{0}, []int64{0, 3}, []int{-1, 0})
	answers(t, "no flow, from the other one", n, []int64{0}, []int64{0, 0}, []int{1}, []int64{-1, 0}, []int{-1, -1})
	refused(t, "the flow 5", n, []int64{5}, []int64{0, 0}, []int{0}, false)
	answers(t, "the arc back alone", n, []int64{5}, []int64{0, 3}, []int{0}, []int64{0, -1}, []int{-1, -1})
	answers(t, "the arc back", n, []int64{5}, []int64{0, 3}, []int{1}, []int64{0, 0}, []int{1, -1})
}

// P13.1

// One edge, between two nodes or from one to itself, of all Caps, flows, Costs and pots of a few.
func TestFitsOfOneEdge(t *testing.T) {
	for limit := int64(0); limit <= 2; limit++ {
		for flow := int64(-1); flow <= limit+1; flow++ {
			for cost := int64(-3); cost <= 3; cost++ {
				for p := int64(-2); p <= 2; p++ {
					for q := int64(-2); q <= 2; q++ {
						n := api.Net{N: 2, Edges: []api.Edge{{From: 0, To: 1, Cap: limit, Cost: cost}}}
						length := cost + p - q
						want := flow >= 0 && flow <= limit && (flow == limit || length >= 0) && (flow == 0 || length <= 0)
						if got := paths.Fits(n, []int64{flow}, []int64{p, q}); got != want {
							t.Errorf("P13.1: Fits of Cap %d, flow %d, Cost %d, pot %d, %d: %v", limit, flow, cost, p, q, got)
						}
						for _, from := range [][]int{{0}, {1}, {0, 1}} {
							heldAll(t, "one edge", n, []int64{flow}, []int64{p, q}, from)
						}
						n.Edges[0].To = 0
						want = flow >= 0 && flow <= limit && (flow == limit || cost >= 0) && (flow == 0 || cost <= 0)
						if got := paths.Fits(n, []int64{flow}, []int64{p, q}); got != want {
							t.Errorf("P13.1: Fits of Cap %d, flow %d, Cost %d to itself: %v", limit, flow, cost, got)
						}
						heldAll(t, "to itself", n, []int64{flow}, []int64{p, q}, []int{0})
					}
				}
			}
		}
	}
}

func TestNetsThatAreNotRight(t *testing.T) {
	for what, n := range wrongNets() {
		for _, flow := range [][]int64{make([]int64, len(n.Edges)), nil} {
			for _, nodes := range []int{0, 1, 2, 40, 41, 42} {
				for _, from := range [][]int{{0}, {1}, nil, {-1}, {math.MaxInt}} {
					refused(t, what, n, flow, make([]int64, nodes), from, false)
				}
			}
		}
	}
}

func TestNetsOfNoEdges(t *testing.T) {
	for nodes := 1; nodes <= 40; nodes++ {
		n, pot := api.Net{N: nodes}, make([]int64, nodes)
		pot[nodes-1] = mostPot
		pot[0] = -mostPot
		for _, flow := range [][]int64{nil, {}} {
			if !paths.Fits(n, flow, pot) {
				t.Errorf("P13.1: Fits of %d nodes without an edge", nodes)
			}
			for node := range nodes {
				dist := slices.Repeat([]int64{-1}, nodes)
				dist[node] = 0
				answers(t, "no edges", n, flow, pot, []int{node}, dist, slices.Repeat([]int{-1}, nodes))
			}
			refused(t, "no edges, no node", n, flow, pot, nil, true)
			refused(t, "no edges, a node that is none", n, flow, pot, []int{nodes}, true)
		}
		refused(t, "no edges, a number", n, []int64{0}, pot, []int{0}, false)
		refused(t, "no edges, a pot fewer", n, nil, pot[1:], []int{0}, false)
		refused(t, "no edges, a pot more", n, nil, append(slices.Clone(pot), 0), []int{0}, false)
		refused(t, "no edges, no pots", n, nil, nil, []int{0}, false)
	}
}

func TestHowManyNumbers(t *testing.T) {
	n, flow, pot := hill()
	if !paths.Fits(n, flow, pot) {
		t.Fatal("P13.1: Fits of the net that the test says")
	}
	few := func(l []int64) map[string][]int64 {
		return map[string][]int64{
			"none at all": nil, "none": {}, "one": l[:1], "one fewer": l[:len(l)-1],
			"one more": append(slices.Clone(l), 0), "one more, far": append(slices.Clone(l), math.MinInt64), "twice as many": slices.Repeat(l, 2),
		}
	}
	for what, l := range few(flow) {
		refused(t, "flow: "+what, n, l, pot, []int{0}, false)
		for other, p := range few(pot) {
			refused(t, "flow: "+what+", pot: "+other, n, l, p, []int{0}, false)
		}
	}
	for what, l := range few(pot) {
		refused(t, "pot: "+what, n, flow, l, []int{0}, false)
	}
	refused(t, "flow for pot", n, pot, flow, []int{0}, false)
}

// All lengths are 0, so that nothing but the number itself stands against what flows.
func TestNumbersOfFlow(t *testing.T) {
	n, pot := level()
	for edge, e := range n.Edges {
		for _, all := range [][]int64{{0, 0, 0, 0, 0}, {9, 1, amount, 0, 5}, {4, 1, 77, 0, 2}} {
			flow := slices.Clone(all)
			for _, x := range []int64{0, e.Cap / 2, e.Cap} {
				flow[edge] = x
				if !paths.Fits(n, flow, pot) {
					t.Errorf("P13.1: Fits of %v", flow)
				}
				for node := range n.N {
					heldAll(t, "a number of flow", n, flow, pot, []int{node})
				}
			}
			for _, x := range []int64{-1, e.Cap + 1, -2, math.MinInt64, math.MaxInt64, amount + 1, 1 << 53, -amount, e.Cap + 1<<32, e.Cap + math.MinInt64} {
				if flow[edge] = x; x < 0 || x > e.Cap {
					refused(t, "a number of flow", n, flow, pot, []int{0}, false)
				}
			}
		}
	}
}

// Each node's pot, with edges elsewhere alone: nothing but its own bound stands against it.
func TestBoundsOfPots(t *testing.T) {
	for nodes := 1; nodes <= 40; nodes += 13 {
		n := api.Net{N: nodes}
		for node := range nodes {
			pot := make([]int64, nodes)
			for _, p := range []int64{-mostPot, -mostPot + 1, -1, 0, 1, mostPot - 1, mostPot} {
				if pot[node] = p; !paths.Fits(n, nil, pot) {
					t.Errorf("P13.1: Fits of pot %d of node %d", p, node)
				}
				held(t, "a pot", n, nil, pot, []int{node})
			}
			for _, p := range far64 {
				pot[node] = p
				refused(t, "a pot", n, nil, pot, []int{node}, false)
			}
		}
	}
}

// Two nodes and their lengths: pots as far from each other as may be, and ones whose difference would wrap round.
func TestPotsThatAreFar(t *testing.T) {
	for _, cost := range []int64{-1000, 0, 1000} {
		n := api.Net{N: 2, Edges: []api.Edge{{From: 0, To: 1, Cap: 5, Cost: cost}}}
		for _, flow := range []int64{0, 2, 5} {
			all := append([]int64{-mostPot, -mostPot + 1, -1000, -1, 0, 1, 1000, mostPot - 1, mostPot}, far64...)
			for _, p := range all {
				for _, q := range all {
					for node := range 2 {
						heldAll(t, "far pots", n, []int64{flow}, []int64{p, q}, []int{node})
					}
				}
			}
		}
	}
	n := api.Net{N: 2, Edges: []api.Edge{{From: 0, To: 1, Cap: 5, Cost: 1000}}}
	answers(t, "down", n, []int64{0}, []int64{mostPot, -mostPot}, []int{0}, []int64{0, 1<<41 + 1000}, []int{-1, 0})
	answers(t, "up, back", n, []int64{5}, []int64{-mostPot, mostPot}, []int{1}, []int64{1<<41 - 1000, 0}, []int{1, -1})
}

// One arc whose length is below 0 by one, wherever it stands, and if it has room alone.
func TestWhichArcIsBelowNought(t *testing.T) {
	for _, edges := range []int{1, 2, 3, 31, 63, 64, 127, 128, 199, 200} {
		n := api.Net{N: 3, Edges: slices.Repeat([]api.Edge{{From: 0, To: 1, Cap: 6, Cost: 1}}, edges)}
		pot := []int64{0, 1, 0}
		for _, edge := range []int{0, edges / 2, edges - 1} {
			flow := slices.Repeat([]int64{3}, edges)
			if !paths.Fits(n, flow, pot) {
				t.Fatal("P13.1: Fits with lengths of 0")
			}
			for cost, room := range map[int64]int64{0: 6, 2: 0} { // of the one the arc forward is below 0, of the other the arc back
				n.Edges[edge].Cost = cost
				for _, x := range []int64{0, 1, 3, 5, 6} {
					flow[edge] = x
					if got := paths.Fits(n, flow, pot); got != (x == room) {
						t.Errorf("P13.1: Fits with %d on edge %d of %d, Cost %d: %v", x, edge, edges, cost, got)
					}
					held(t, "one arc", n, flow, pot, []int{0, 2})
				}
				n.Edges[edge].Cost, flow[edge] = 1, 3
			}
		}
	}
}

// P13.2

func TestFromOfWhichNodes(t *testing.T) {
	n, flow, pot := hill()
	for _, c := range []struct {
		from []int
		dist []int64
		by   []int
	}{
		{[]int{0}, []int64{0, 2, 2, 3, -1}, []int{-1, 0, 4, 6, -1}},
		{[]int{1}, []int64{-1, 0, 0, 1, -1}, []int{-1, -1, 4, 6, -1}},
		{[]int{2}, []int64{-1, 0, 0, 1, -1}, []int{-1, 5, -1, 6, -1}},
		{[]int{3}, []int64{-1, -1, -1, 0, -1}, []int{-1, -1, -1, -1, -1}},
		{[]int{4}, []int64{-1, 5, 5, 6, 0}, []int{-1, 10, 4, 6, -1}},
		{[]int{0, 4}, []int64{0, 2, 2, 3, 0}, []int{-1, 0, 4, 6, -1}},
		{[]int{4, 2}, []int64{-1, 0, 0, 1, 0}, []int{-1, 5, -1, 6, -1}},
		{[]int{1, 2}, []int64{-1, 0, 0, 1, -1}, []int{-1, -1, -1, 6, -1}},
		{[]int{2, 2}, []int64{-1, 0, 0, 1, -1}, []int{-1, 5, -1, 6, -1}},
		{[]int{2, 4, 2, 4, 4}, []int64{-1, 0, 0, 1, 0}, []int{-1, 5, -1, 6, -1}},
		{[]int{0, 1, 2, 3, 4}, []int64{0, 0, 0, 0, 0}, []int{-1, -1, -1, -1, -1}},
		{[]int{4, 3, 2, 1, 0}, []int64{0, 0, 0, 0, 0}, []int{-1, -1, -1, -1, -1}},
	} {
		answers(t, "from", n, flow, pot, c.from, c.dist, c.by)
		heldAll(t, "from", n, flow, pot, c.from)
	}
	// A node may be there as often as one likes.
	many := slices.Repeat([]int{4, 0}, 100000)
	answers(t, "many", n, flow, pot, many, []int64{0, 2, 2, 3, 0}, []int{-1, 0, 4, 6, -1})
}

func TestFromOfWhatIsNoNode(t *testing.T) {
	n, flow, pot := hill()
	refused(t, "none at all", n, flow, pot, nil, true)
	refused(t, "none", n, flow, pot, []int{}, true)
	for _, node := range append([]int{-1, 5, 6, 39, 40, 256, 1<<32 + 2, -1 << 32}, farInts...) {
		refused(t, "one", n, flow, pot, []int{node}, true)
		refused(t, "the first", n, flow, pot, []int{node, 0}, true)
		refused(t, "the last", n, flow, pot, []int{0, 1, 2, 3, 4, node}, true)
		refused(t, "the middle", n, flow, pot, []int{0, node, 1}, true)
		refused(t, "twice", n, flow, pot, []int{node, node}, true)
		refused(t, "behind many", n, flow, pot, append(slices.Repeat([]int{1}, 1000), node), true)
	}
	for nodes := 1; nodes <= 40; nodes++ {
		for node := -2; node < nodes+2; node++ {
			held(t, "each node", api.Net{N: nodes}, nil, make([]int64, nodes), []int{node})
		}
	}
}

func TestToWhichNoWayLeads(t *testing.T) {
	for what, c := range map[string]struct {
		edges []api.Edge
		flow  []int64
		dist  []int64
		by    []int
	}{
		"no edges":                      {nil, nil, []int64{0, -1, -1}, []int{-1, -1, -1}},
		"no Cap":                        {[]api.Edge{{From: 0, To: 1}}, []int64{0}, []int64{0, -1, -1}, []int{-1, -1, -1}},
		"full":                          {[]api.Edge{{From: 0, To: 1, Cap: 1}}, []int64{1}, []int64{0, -1, -1}, []int{-1, -1, -1}},
		"the wrong direction":           {[]api.Edge{{From: 1, To: 0, Cap: 1}}, []int64{0}, []int64{0, -1, -1}, []int{-1, -1, -1}},
		"back, where something flows":   {[]api.Edge{{From: 1, To: 0, Cap: 2}}, []int64{1}, []int64{0, 0, -1}, []int{-1, 1, -1}},
		"back, where all flows":         {[]api.Edge{{From: 1, To: 0, Cap: 2}}, []int64{2}, []int64{0, 0, -1}, []int{-1, 1, -1}},
		"from where no way leads":       {[]api.Edge{{From: 1, To: 2, Cap: 1}, {From: 2, To: 1, Cap: 1}}, []int64{0, 0}, []int64{0, -1, -1}, []int{-1, -1, -1}},
		"the second one of two is full": {[]api.Edge{{From: 0, To: 1, Cap: 1, Cost: 4}, {From: 1, To: 2, Cap: 1, Cost: -4}}, []int64{0, 1}, []int64{0, 4, -1}, []int{-1, 0, -1}},
		"to itself alone":               {[]api.Edge{{From: 0, To: 0, Cap: 1, Cost: 4}, {From: 2, To: 2, Cap: 1}}, []int64{0, 0}, []int64{0, -1, -1}, []int{-1, -1, -1}},
	} {
		answers(t, what, api.Net{N: 3, Edges: c.edges}, c.flow, []int64{0, 0, 0}, []int{0}, c.dist, c.by)
	}
}

// Of one sum the fewest arcs, though their numbers are greater; of unlike sums the least, though its arcs are more.
func TestSumsAndHowManyArcs(t *testing.T) {
	for what, c := range map[string]struct {
		edges []api.Edge
		dist  []int64
		by    []int
	}{
		"one arc ahead of two":                     {[]api.Edge{{From: 0, To: 1, Cost: 1}, {From: 1, To: 2, Cost: 1}, {From: 0, To: 2, Cost: 2}}, []int64{0, 1, 2, -1}, []int{-1, 0, 4, -1}},
		"two arcs of a lesser sum ahead of one":    {[]api.Edge{{From: 0, To: 2, Cost: 3}, {From: 0, To: 1, Cost: 1}, {From: 1, To: 2, Cost: 1}}, []int64{0, 1, 2, -1}, []int{-1, 2, 4, -1}},
		"one arc ahead of two of length 0":         {[]api.Edge{{From: 0, To: 1}, {From: 1, To: 2}, {From: 0, To: 2}}, []int64{0, 0, 0, -1}, []int{-1, 0, 4, -1}},
		"two arcs ahead of three":                  {[]api.Edge{{From: 0, To: 1, Cost: 1}, {From: 1, To: 2, Cost: 1}, {From: 2, To: 3, Cost: 1}, {From: 1, To: 3, Cost: 2}}, []int64{0, 1, 2, 3}, []int{-1, 0, 2, 6}},
		"the arcs of the whole way":                {[]api.Edge{{From: 0, To: 1}, {From: 1, To: 2}, {From: 2, To: 3, Cost: 5}, {From: 0, To: 2, Cost: 0}, {From: 1, To: 3, Cost: 5}}, []int64{0, 0, 0, 5}, []int{-1, 0, 6, 4}},
		"a node that is found late":                {[]api.Edge{{From: 0, To: 3, Cost: 0}, {From: 3, To: 2, Cost: 0}, {From: 2, To: 1, Cost: 0}, {From: 3, To: 1, Cost: 0}}, []int64{0, 0, 0, 0}, []int{-1, 6, 2, 0}},
		"a shorter way that is found behind":       {[]api.Edge{{From: 0, To: 1, Cost: 9}, {From: 0, To: 2, Cost: 5}, {From: 2, To: 1, Cost: 3}, {From: 1, To: 3, Cost: 0}}, []int64{0, 8, 5, 8}, []int{-1, 4, 2, 6}},
		"one sum, the longer way found ahead":      {[]api.Edge{{From: 0, To: 1, Cost: 1}, {From: 1, To: 2, Cost: 0}, {From: 2, To: 3, Cost: 4}, {From: 0, To: 3, Cost: 5}}, []int64{0, 1, 1, 5}, []int{-1, 0, 2, 6}},
		"fewer arcs, whose last number is greater": {[]api.Edge{{From: 1, To: 3, Cost: 0}, {From: 0, To: 2, Cost: 0}, {From: 2, To: 1, Cost: 0}, {From: 2, To: 3, Cost: 0}}, []int64{0, 0, 0, 0}, []int{-1, 4, 2, 6}},
	} {
		for i := range c.edges {
			c.edges[i].Cap = 1
		}
		answers(t, what, api.Net{N: 4, Edges: c.edges}, make([]int64, len(c.edges)), make([]int64, 4), []int{0}, c.dist, c.by)
		heldAll(t, what, api.Net{N: 4, Edges: c.edges}, make([]int64, len(c.edges)), make([]int64, 4), []int{0})
	}
}

// Of one sum and as many arcs the least last arc, wherever it comes from.
func TestLastArcs(t *testing.T) {
	for what, c := range map[string]struct {
		edges []api.Edge
		flow  []int64
		by    []int
	}{
		"two of the same ends":             {[]api.Edge{{From: 0, To: 1, Cost: 2}, {From: 0, To: 1, Cost: 2}}, nil, []int{-1, 0, -1, -1}},
		"the first one is longer":          {[]api.Edge{{From: 0, To: 1, Cost: 3}, {From: 0, To: 1, Cost: 2}, {From: 0, To: 1, Cost: 2}}, nil, []int{-1, 2, -1, -1}},
		"the first one is full":            {[]api.Edge{{From: 0, To: 1, Cost: 0}, {From: 0, To: 1, Cost: 0}}, []int64{1, 0}, []int{-1, 2, -1, -1}},
		"over 1, over 2":                   {[]api.Edge{{From: 0, To: 1}, {From: 0, To: 2}, {From: 1, To: 3}, {From: 2, To: 3}}, nil, []int{-1, 0, 2, 4}},
		"over 2, over 1":                   {[]api.Edge{{From: 0, To: 1}, {From: 0, To: 2}, {From: 2, To: 3}, {From: 1, To: 3}}, nil, []int{-1, 0, 2, 4}},
		"over 2, over 1, of length":        {[]api.Edge{{From: 2, To: 3, Cost: 1}, {From: 0, To: 2, Cost: 4}, {From: 1, To: 3, Cost: 4}, {From: 0, To: 1, Cost: 1}}, nil, []int{-1, 6, 2, 0}},
		"over 1, of length, the farther":   {[]api.Edge{{From: 1, To: 3, Cost: 1}, {From: 0, To: 1, Cost: 4}, {From: 2, To: 3, Cost: 4}, {From: 0, To: 2, Cost: 1}}, nil, []int{-1, 2, 6, 0}},
		"the least one is a way further":   {[]api.Edge{{From: 2, To: 3}, {From: 0, To: 1}, {From: 1, To: 2}, {From: 1, To: 3}, {From: 1, To: 3}}, nil, []int{-1, 2, 4, 6}},
		"an arc back ahead of one forward": {[]api.Edge{{From: 1, To: 0}, {From: 0, To: 1}}, []int64{1, 0}, []int{-1, 1, -1, -1}},
		"an arc forward ahead of one back": {[]api.Edge{{From: 0, To: 1}, {From: 1, To: 0}}, []int64{0, 1}, []int{-1, 0, -1, -1}},
		"both arcs of an edge to itself":   {[]api.Edge{{From: 1, To: 1, Cap: 2}, {From: 0, To: 1}}, []int64{1, 0}, []int{-1, 2, -1, -1}},
	} {
		for i := range c.edges {
			c.edges[i].Cap = max(c.edges[i].Cap, 1)
		}
		if c.flow == nil {
			c.flow = make([]int64, len(c.edges))
		}
		n, pot := api.Net{N: 4, Edges: c.edges}, make([]int64, 4)
		if _, by, e := paths.Ways(n, c.flow, pot, []int{0}); e != api.OK || !slices.Equal(by, c.by) {
			t.Errorf("P13.2: %s: %v, %v and not %v", what, by, e, c.by)
		}
		heldAll(t, what, n, c.flow, pot, []int{0})
	}
}

// All orders of the edges of two nets: the numbers of arcs turn, the sums do not.
func TestAllOrdersOfEdges(t *testing.T) {
	for _, edges := range [][]api.Edge{
		{{From: 0, To: 1}, {From: 0, To: 2}, {From: 1, To: 3}, {From: 2, To: 3}, {From: 1, To: 2}, {From: 3, To: 4}},
		{{From: 0, To: 1, Cost: 1}, {From: 0, To: 2, Cost: 2}, {From: 1, To: 3, Cost: 2}, {From: 2, To: 3, Cost: 1}, {From: 1, To: 2, Cost: 1}, {From: 0, To: 3, Cost: 3}, {From: 3, To: 4, Cost: 0}},
	} {
		n := api.Net{N: 5, Edges: edges}
		for i := range edges {
			edges[i].Cap = 1
		}
		var order func(k int)
		order = func(k int) {
			if k == len(edges) {
				heldAll(t, "an order", n, make([]int64, len(edges)), make([]int64, 5), []int{0})
				return
			}
			for i := k; i < len(edges); i++ {
				edges[k], edges[i] = edges[i], edges[k]
				order(k + 1)
				edges[k], edges[i] = edges[i], edges[k]
			}
		}
		order(0)
	}
}

func TestEdgesFromANodeToItself(t *testing.T) {
	for _, c := range []struct{ limit, cost, flow int64 }{{5, 0, 0}, {5, 0, 2}, {5, 0, 5}, {5, 7, 0}, {5, -7, 5}, {0, -7, 0}, {0, 7, 0}} {
		n := api.Net{N: 3, Edges: []api.Edge{
			{From: 0, To: 0, Cap: c.limit, Cost: c.cost},
			{From: 0, To: 1, Cap: 4, Cost: 2},
			{From: 1, To: 1, Cap: c.limit, Cost: c.cost},
			{From: 2, To: 2, Cap: c.limit, Cost: c.cost},
		}}
		flow := []int64{c.flow, 0, c.flow, c.flow}
		answers(t, "to itself", n, flow, []int64{0, 0, 0}, []int{0}, []int64{0, 2, -1}, []int{-1, 2, -1})
		answers(t, "to itself, two", n, flow, []int64{0, 0, 0}, []int{2, 0}, []int64{0, 2, 0}, []int{-1, 2, -1})
		answers(t, "to itself, from 1", n, flow, []int64{0, 0, 0}, []int{1}, []int64{-1, 0, -1}, []int{-1, -1, -1})
	}
}

// Ways that close, of length 0: none is gone round, and where they begin nothing leads to.
func TestArcsOfNoLengthThatClose(t *testing.T) {
	for nodes := 1; nodes <= 40; nodes++ {
		n := api.Net{N: nodes}
		for i := range nodes {
			n.Edges = append(n.Edges, api.Edge{From: i, To: (i + 1) % nodes, Cap: 2})
		}
		for begin := range nodes {
			dist, by := make([]int64, nodes), make([]int, nodes)
			for i := range nodes {
				by[i] = 2 * ((i + nodes - 1) % nodes)
			}
			by[begin] = -1
			answers(t, "around", n, make([]int64, nodes), dist, []int{begin}, dist, by)
			held(t, "around, forward and back", n, slices.Repeat([]int64{1}, nodes), dist, []int{begin})
			held(t, "around, from all", n, slices.Repeat([]int64{1}, nodes), dist, rand.New(rand.NewSource(int64(nodes))).Perm(nodes))
		}
		for i := range nodes {
			by := make([]int, nodes)
			for k := range nodes {
				by[k] = 2*k + 1
			}
			by[i] = -1
			answers(t, "around, back", n, slices.Repeat([]int64{2}, nodes), make([]int64, nodes), []int{i}, make([]int64, nodes), by)
		}
	}
}

func TestBothArcsOfAnEdge(t *testing.T) {
	n := api.Net{N: 3, Edges: []api.Edge{{From: 0, To: 1, Cap: 5, Cost: 3}, {From: 2, To: 1, Cap: 5, Cost: -4}}}
	flow, pot := []int64{1, 4}, []int64{0, 3, 7}
	answers(t, "from 0", n, flow, pot, []int{0}, []int64{0, 0, 0}, []int{-1, 0, 3})
	answers(t, "from 1", n, flow, pot, []int{1}, []int64{0, 0, 0}, []int{1, -1, 3})
	answers(t, "from 2", n, flow, pot, []int{2}, []int64{0, 0, 0}, []int{1, 2, -1})
	answers(t, "from both ends", n, flow, pot, []int{2, 0}, []int64{0, 0, 0}, []int{-1, 0, -1})
	for _, p := range [][]int64{{0, 2, 6}, {0, 4, 8}, {0, 3, 6}, {0, 3, 8}} {
		refused(t, "one of them below 0", n, flow, p, []int{0}, false)
	}
}

// Chains against one arc: as many arcs as a way may have are still fewer than a length of 1.
func TestLongChains(t *testing.T) {
	for arcs := 1; arcs <= 39; arcs++ {
		for _, length := range []int64{0, 1, 1000} {
			for _, more := range []int64{-1, 0, 1} {
				for choice := range 4 {
					chained(t, arcs, length, more, choice%2 == 0, choice/2 == 0)
				}
			}
		}
	}
}

// chained: a chain of so many arcs of one length, and one arc from its beginning to its end that is longer by more than all of them, the first one or the last one;
// behind them, if there is a node, an arc of length 0. The nodes are numbered along it, or turned.
func chained(t *testing.T, arcs int, length, more int64, first, turned bool) {
	whole := length * int64(arcs)
	if whole+more < 0 {
		return
	}
	at := func(i int) int {
		if turned {
			return 39 - i
		}
		return i
	}
	n, pot := api.Net{N: 40}, make([]int64, 40)
	direct := api.Edge{From: at(0), To: at(arcs), Cap: 1, Cost: more}
	chain, by := 2*(arcs-1), 2*arcs
	if first {
		n.Edges = append(n.Edges, direct)
		chain, by = 2*arcs, 0
	}
	for i := range arcs {
		n.Edges = append(n.Edges, api.Edge{From: at(i), To: at(i + 1), Cap: 1})
		pot[at(i+1)] = pot[at(i)] - length
	}
	if !first {
		n.Edges = append(n.Edges, direct)
	}
	if arcs < 39 {
		n.Edges = append(n.Edges, api.Edge{From: at(arcs), To: at(arcs + 1), Cap: 1})
		pot[at(arcs+1)] = pot[at(arcs)]
	}
	want := min(whole, whole+more)
	switch {
	case more > 0:
		by = chain
	case more == 0 && arcs == 1:
		by = 0 // both are one arc
	}
	dist, bys, e := paths.Ways(n, make([]int64, len(n.Edges)), pot, []int{at(0)})
	if e != api.OK || dist[at(arcs)] != want || bys[at(arcs)] != by || arcs < 39 && dist[at(arcs+1)] != want {
		t.Errorf("P13.2: a chain of %d arcs of length %d, or one arc longer by %d: %v, %v, %v", arcs, length, more, dist, bys, e)
	}
	held(t, "a chain", n, make([]int64, len(n.Edges)), pot, []int{at(0)})
}

// Ways as long as may be: all costs, and pots from one bound to the other.
func TestGreatSums(t *testing.T) {
	n, pot, dist, by := api.Net{N: 40}, make([]int64, 40), make([]int64, 40), []int{-1}
	for i := range 39 {
		n.Edges = append(n.Edges, api.Edge{From: i, To: i + 1, Cap: 1, Cost: 1000})
		by = append(by, 2*i)
	}
	for i := range 40 {
		pot[i] = mostPot - int64(i)*(1<<41)/39
		dist[i] = int64(i)*1000 + mostPot - pot[i]
	}
	if dist[39] != 1<<41+39000 {
		t.Fatal("the sum that the test says")
	}
	answers(t, "a long way", n, make([]int64, 39), pot, []int{0}, dist, by)
	n.Edges = append(n.Edges, api.Edge{From: 0, To: 39, Cap: 1, Cost: 1000})
	dist[39], by[39] = 1<<41+1000, 78
	answers(t, "a long way, and a shorter one", n, make([]int64, 40), pot, []int{0}, dist, by)
	// So great a sum of 39 arcs goes ahead of one arc that is longer by 1 alone.
	n.Edges[39].Cost = 1
	for i := range 39 {
		n.Edges[i].Cost = 0
	}
	for i := range 40 {
		dist[i] = mostPot - pot[i]
	}
	dist[39], by[39] = 1<<41, 76
	answers(t, "longer by one", n, make([]int64, 40), pot, []int{0}, dist, by)
	n.Edges[39].Cost = 0
	by[39] = 78
	answers(t, "as long", n, make([]int64, 40), pot, []int{0}, dist, by)
}

// As many edges as may be between two nodes: the length tells, then the number.
func TestManyEdgesOfTheSameEnds(t *testing.T) {
	dice := rand.New(rand.NewSource(130))
	for range 60 {
		n := api.Net{N: 3}
		for i := range 200 {
			n.Edges = append(n.Edges, api.Edge{From: i % 2, To: i%2 + 1, Cap: 1, Cost: int64(dice.Intn(8)) + int64(200-i)/16})
		}
		for node := range 3 {
			held(t, "many edges", n, make([]int64, 200), make([]int64, 3), []int{node})
		}
	}
}

// Each net of 3 nodes and up to 3 edges, each of few Costs, and with each flow on it.
func TestEachSmallNet(t *testing.T) {
	var kinds []api.Edge
	for from := range 3 {
		for to := range 3 {
			for cost := int64(0); cost < 2; cost++ {
				kinds = append(kinds, api.Edge{From: from, To: to, Cap: 2, Cost: cost})
			}
		}
	}
	fit := 0
	for code := range len(kinds) * len(kinds) * len(kinds) {
		n := api.Net{N: 3, Edges: []api.Edge{kinds[code%len(kinds)], kinds[code/len(kinds)%len(kinds)], kinds[code/len(kinds)/len(kinds)]}}
		for flows := range 27 {
			flow := []int64{int64(flows % 3), int64(flows / 3 % 3), int64(flows / 9)}
			for _, pot := range [][]int64{{0, 0, 0}, {0, 1, 1}} {
				if paths.Fits(n, flow, pot) != modelFits(n, flow, pot) {
					t.Errorf("P13.1: Fits of %v, flow %v, pot %v", n, flow, pot)
				}
				if !modelFits(n, flow, pot) || (code+flows)%3 != 0 {
					continue
				}
				fit++
				heldAll(t, "small", n, flow, pot, []int{0})
				heldAll(t, "small", n, flow, pot, []int{2, 1})
			}
		}
	}
	if fit < 5000 {
		t.Errorf("%d of them alone fit", fit)
	}
}

// P13.3 and walks over nets that are made up.

// some answers a net with what flows and numbers that fit: of few numbers, so that many ways are as long, or of any.
func some(dice *rand.Rand, nodes, edges int) (n api.Net, flow, pot []int64) {
	n.N = 1 + dice.Intn(nodes)
	spread := []int64{1, 3, 1000, mostPot}[dice.Intn(4)]
	for range n.N {
		pot = append(pot, dice.Int63n(2*spread+1)-spread)
	}
	bent, most := []int64{0, 1, 3, 2000}[dice.Intn(4)], int64(1)<<dice.Intn(45)
	for range 1 + dice.Intn(edges) {
		e := api.Edge{From: dice.Intn(n.N), To: dice.Intn(n.N), Cap: dice.Int63n(most + 1)}
		// Beside the cost that makes it of length 0 a little more or less.
		e.Cost = min(max(pot[e.To]-pot[e.From]+dice.Int63n(2*bent+1)-bent, -1000), 1000)
		n.Edges = append(n.Edges, e)
		switch length := e.Cost + pot[e.From] - pot[e.To]; {
		case length > 0:
			flow = append(flow, 0)
		case length < 0:
			flow = append(flow, e.Cap)
		default:
			flow = append(flow, []int64{0, e.Cap, dice.Int63n(e.Cap + 1)}[dice.Intn(3)])
		}
	}
	return n, flow, pot
}

// someFrom answers nodes, one at least.
func someFrom(dice *rand.Rand, n api.Net) []int {
	var from []int
	for range 1 + dice.Intn(1+dice.Intn(3)) {
		from = append(from, dice.Intn(n.N))
	}
	return from
}

func TestNetsMadeUp(t *testing.T) {
	dice := rand.New(rand.NewSource(131))
	found, far := 0, 0
	for range 1500 {
		n, flow, pot := some(dice, 40, 200)
		if !paths.Fits(n, flow, pot) {
			t.Fatalf("P13.1: Fits of %v, flow %v, pot %v", n, flow, pot)
		}
		from := someFrom(dice, n)
		held(t, "made up", n, flow, pot, from)
		dist, by, _ := paths.Ways(n, flow, pot, from)
		for node := range by {
			if by[node] >= 0 {
				found++
			}
			if dist[node] > 1<<40 {
				far++
			}
		}
	}
	if found < 10000 || far < 100 {
		t.Errorf("%d ways alone were found, %d of them long", found, far)
	}
}

func TestSmallNetsMadeUp(t *testing.T) {
	dice := rand.New(rand.NewSource(132))
	for range 20000 {
		n, flow, pot := some(dice, 6, 12)
		heldAll(t, "made up, small", n, flow, pot, someFrom(dice, n))
	}
}

// Numbers that are turned one at a time: mostly they fit no more.
func TestNumbersThatAreTurned(t *testing.T) {
	dice := rand.New(rand.NewSource(133))
	fit := 0
	for range 4000 {
		n, flow, pot := some(dice, 10, 30)
		from := someFrom(dice, n)
		switch dice.Intn(5) {
		case 0:
			flow[dice.Intn(len(flow))] += dice.Int63n(5) - 2
		case 1:
			flow[dice.Intn(len(flow))] = far64[dice.Intn(len(far64))]
		case 2:
			pot[dice.Intn(len(pot))] += dice.Int63n(5) - 2
		case 3:
			pot[dice.Intn(len(pot))] = far64[dice.Intn(len(far64))]
		case 4:
			from[dice.Intn(len(from))] = farInts[dice.Intn(len(farInts))]
		}
		held(t, "turned", n, flow, pot, from)
		if paths.Fits(n, flow, pot) {
			fit++
		}
	}
	if fit < 500 || fit > 3500 {
		t.Errorf("%d of them fit", fit)
	}
}

// Numbers raised again and again, and pushes along the ways: what fits goes on to fit, as the solver wants it.
func TestRaisedAndPushed(t *testing.T) {
	dice := rand.New(rand.NewSource(134))
	pushed := 0
	for range 150 {
		n, flow, pot := some(dice, 12, 40)
		for range 12 {
			from := someFrom(dice, n)
			held(t, "raised", n, flow, pot, from)
			dist, by, e := paths.Ways(n, flow, pot, from)
			if e != api.OK {
				t.Fatalf("P13.3: %v", e)
			}
			more := raisedPot(pot, dist)
			if slices.Max(more) > mostPot {
				break
			}
			pot = more
			at := dice.Intn(n.N)
			var way []int
			for by[at] >= 0 {
				way = append([]int{by[at]}, way...)
				at, _, _ = rest.Ends(n, by[at])
			}
			if bottle := rest.Bottle(n, flow, way); bottle > 0 {
				flow, _ = rest.Along(n, flow, way, dice.Int63n(bottle)+1)
				pushed++
			}
			if !paths.Fits(n, flow, pot) || !net.Within(n, flow) {
				t.Fatalf("P13.3: Fits behind what was raised and pushed: %v, %v, %v", n, flow, pot)
			}
		}
	}
	if pushed < 300 {
		t.Errorf("%d ways alone were pushed along", pushed)
	}
}

// Beyond 2^40 the numbers that P13.3 speaks of fit no more, at it they do.
func TestRaisedToTheBound(t *testing.T) {
	for more := int64(-2); more <= 2; more++ {
		n := api.Net{N: 3, Edges: []api.Edge{{From: 0, To: 1, Cap: 5, Cost: 7}}}
		pot := []int64{mostPot - 7 + more, mostPot - 9, 0}
		if pot[0]+7 < pot[1] {
			t.Fatal("the pots that the test says")
		}
		dist, by, e := paths.Ways(n, []int64{0}, pot, []int{0})
		if e != api.OK || dist[1] != 9+more || by[1] != 0 {
			t.Errorf("P13.2: %v, %v, %v", dist, by, e)
		}
		if got := paths.Fits(n, []int64{0}, raisedPot(pot, dist)); got != (more <= 0) {
			t.Errorf("P13.3: Fits of %v: %v", raisedPot(pot, dist), got)
		}
		held(t, "the bound", n, []int64{0}, pot, []int{0})
	}
}

// R2 to R5

// roomy answers the same list with room behind its end, and all of that room, to look at.
func roomy[T any](l []T, behind T) (list, whole []T) {
	whole = append(slices.Clone(l), behind, behind, behind)
	return whole[:len(l)], whole
}

func TestWhatIsHandedInStays(t *testing.T) {
	n, flow, pot := hill()
	for _, from := range [][]int{{0}, {2, 1, 0, 2}, {4, 5}, nil} {
		for _, given := range [][]int64{flow, flow[:7], {0, 0, 4, 0, 6, 0, 1, 0}} {
			for _, p := range [][]int64{pot, pot[:4], {0, 0, 0, 0, 0}} {
				l, whole := roomy(given, 77)
				edges, all := roomy(n.Edges, api.Edge{From: 7, To: 7, Cap: 77, Cost: 77})
				pots, most := roomy(p, 77)
				nodes, some := roomy(from, 3)
				wasWhole, wasAll, wasMost, wasSome := slices.Clone(whole), slices.Clone(all), slices.Clone(most), slices.Clone(some)
				held(t, "R3", api.Net{N: 5, Edges: edges}, l, pots, nodes)
				if !slices.Equal(whole, wasWhole) || !slices.Equal(all, wasAll) || !slices.Equal(most, wasMost) || !slices.Equal(some, wasSome) {
					t.Errorf("R3: %v, %v, %v, %v behind the calls", whole, all, most, some)
				}
			}
		}
	}
}

func TestAnswersAreNewMemory(t *testing.T) {
	n, flow, pot := hill()
	l, whole := roomy(pot, 77)
	from := []int{0, 4}
	dist, by, _ := paths.Ways(n, flow, l, from)
	other, otherBy, _ := paths.Ways(n, flow, l, from)
	for i := range dist {
		dist[i], by[i] = 99, 99
	}
	dist, by = append(dist, 99), append(by, 99)
	want, wantBy, _ := modelWays(n, flow, pot, from)
	if len(dist) != 6 || len(by) != 6 || !slices.Equal(other, want) || !slices.Equal(otherBy, wantBy) {
		t.Errorf("R3: %v, %v behind a change of another answer", other, otherBy)
	}
	if !slices.Equal(l, pot) || whole[5] != 77 || !slices.Equal(from, []int{0, 4}) {
		t.Errorf("R3: %v, %v behind a change of an answer", whole, from)
	}
	l[0], n.Edges[0].Cost, from[0] = 9, 5, 1
	if !slices.Equal(other, want) || !slices.Equal(otherBy, wantBy) {
		t.Errorf("R3: %v, %v behind a change of what was handed in", other, otherBy)
	}
}

func TestAnswersHangOnNothingElse(t *testing.T) {
	n, flow, pot := hill()
	for range 20 {
		held(t, "R5", n, flow, pot, []int{0, 4})
		held(t, "R5", n, flow, pot, []int{3})
		held(t, "R5", n, flow, []int64{0, 0, 0, 0, 0}, []int{0})
		held(t, "R5", api.Net{}, nil, nil, nil)
		held(t, "R5", api.Net{N: 1, Edges: []api.Edge{}}, []int64{}, []int64{0}, []int{0})
	}
}

// FuzzPaths makes a net, a flow, numbers and nodes of bytes, and holds both calls against the model.
func FuzzPaths(f *testing.F) {
	f.Add(2, int64(0), int64(3), []byte{0, 1, 5, 3, 0}, []byte{0, 0}, []byte{0})
	f.Add(3, int64(mostPot), int64(amount), []byte{0, 1, 1, 0, 1, 1, 2, 2, 0, 0, 2, 0, 3, 0, 3}, []byte{0, 0, 0}, []byte{0, 1})
	f.Add(4, int64(math.MinInt64), int64(-1), []byte{0, 1, 1, 1, 1, 1, 2, 2, 2, 2, 255, 3, 9, 9, 9}, []byte{127, 1, 2}, []byte{255, 4})
	f.Add(40, int64(-mostPot), int64(9), []byte{39, 38, 4, 0, 1, 38, 39, 4, 0, 2, 5, 5, 5, 0, 4}, []byte{}, []byte{39, 38})
	f.Fuzz(func(t *testing.T, nodes int, far, limit int64, l, pots, from []byte) {
		n := api.Net{N: nodes}
		var flow, pot []int64
		for ; len(l) >= 5 && len(n.Edges) < 20; l = l[5:] {
			e := api.Edge{From: int(int8(l[0])), To: int(int8(l[1])), Cap: int64(l[2]), Cost: int64(int8(l[3]))}
			if l[2] == 255 {
				e.Cap = limit
			}
			n.Edges = append(n.Edges, e)
			flow = append(flow, min(int64(l[4]), e.Cap))
		}
		for node := range min(max(nodes, 0), 42) {
			switch {
			case node >= len(pots):
				pot = append(pot, 0)
			case pots[node] == 127:
				pot = append(pot, far)
			default:
				pot = append(pot, int64(int8(pots[node])))
			}
		}
		var begin []int
		for _, node := range from[:min(len(from), 30)] {
			begin = append(begin, int(int8(node)))
		}
		held(t, "bytes", n, flow, pot, begin)
		// Nothing flows where an arc is of length 0 or more, and all does where it is not: so numbers fit more often.
		if net.Right(n) && len(pot) == n.N {
			for i, e := range n.Edges {
				if flow[i] = 0; e.Cost+pot[e.From]-pot[e.To] < 0 {
					flow[i] = e.Cap
				}
			}
			held(t, "bytes that fit", n, flow, pot, begin)
		}
	})
}
