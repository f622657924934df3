package net_test

import (
	"math"
	"math/rand"
	"slices"
	"testing"

	"gablet/api"
	"gablet/net"
)

const amount = 1 << 52

// Numbers that are far from any bound, or that wrap round to a small one.
var (
	farInts = []int{math.MinInt, math.MinInt + 1, -1 << 32, -1<<32 + 1, -1 << 31, -1000, -2, 41, 1000, 1 << 31, 1 << 32, 1<<32 + 1, 1<<63 - 1<<32, math.MaxInt - 1, math.MaxInt}
	far64   = []int64{math.MinInt64, math.MinInt64 + 1, -1 << 62, -1 << 53, -1<<52 - 1, -1 << 52, -1 << 32, -1<<32 + 1, -1 << 31, 1<<52 + 2, 1 << 53, 1 << 61, 1 << 62, 1<<62 + 1, math.MaxInt64 - 1, math.MaxInt64}
)

func example() api.Net {
	return api.Net{N: 3, Edges: []api.Edge{
		{From: 0, To: 1, Cap: 5, Cost: 2},
		{From: 1, To: 2, Cap: 4, Cost: -3},
		{From: 2, To: 0, Cap: 9, Cost: 0},
		{From: 1, To: 1, Cap: 1, Cost: 7},
	}}
}

// with is the example with an edge more: at the place 0 to 4.
func with(place int, e api.Edge) api.Net {
	n := example()
	n.Edges = slices.Insert(n.Edges, place, e)
	return n
}

// priced is a net of one node and an edge of each of these Caps and Costs.
func priced(pairs ...[2]int64) api.Net {
	n := api.Net{N: 1}
	for _, p := range pairs {
		n.Edges = append(n.Edges, api.Edge{Cap: p[0], Cost: p[1]})
	}
	return n
}

func TestNumbersThatAreGiven(t *testing.T) {
	if api.MaxNodes != 40 || api.MaxEdges != 200 || api.MaxAmount != amount || api.MaxWeight != 1000 {
		t.Error("the limits' numbers")
	}
}

func TestTheChaptersExamples(t *testing.T) {
	n := example()
	for _, c := range []struct {
		flow []int64
		want bool
	}{{[]int64{4, 4, 4, 0}, true}, {[]int64{4, 4, 4, 1}, true}, {[]int64{5, 4, 4, 0}, false}, {[]int64{5, 5, 5, 0}, false}} {
		if net.Flows(n, c.flow) != c.want {
			t.Errorf("P11.3: Flows of %v: %v", c.flow, !c.want)
		}
	}
	if got := net.Over(n, []int64{5, 4, 4, 1}); !slices.Equal(got, []int64{-1, 1, 0}) {
		t.Errorf("P11.2: Over: %v", got)
	}
	if got := net.Cost(n, []int64{5, 4, 4, 1}); got != 5 {
		t.Errorf("P11.3: Cost: %d", got)
	}
	for what, c := range map[string]struct {
		n    api.Net
		want bool
	}{
		"the example":  {n, true},
		"no nodes":     {api.Net{}, false},
		"an edge to 3": {api.Net{N: 3, Edges: []api.Edge{{From: 0, To: 3}}}, false},
		"one":          {priced([2]int64{amount, 1000}), true},
		"two":          {priced([2]int64{amount, 1000}, [2]int64{amount, 1000}), false},
	} {
		if net.Right(c.n) != c.want {
			t.Errorf("P11.1: Right of %s: %v", what, !c.want)
		}
	}
}

// P11.1

func TestHowManyNodes(t *testing.T) {
	for nodes := -3; nodes <= 45; nodes++ {
		right(t, "P11.1: nodes", api.Net{N: nodes}, nodes >= 1 && nodes <= 40)
		right(t, "P11.1: nodes, an edge", api.Net{N: nodes, Edges: []api.Edge{{Cap: 1, Cost: 1}}}, nodes >= 1 && nodes <= 40)
	}
	for _, nodes := range farInts {
		right(t, "P11.1: nodes, far", api.Net{N: nodes}, false)
		right(t, "P11.1: nodes, far, an edge", api.Net{N: nodes, Edges: []api.Edge{{Cap: 1, Cost: 1}}}, false)
	}
}

func TestHowManyEdges(t *testing.T) {
	for _, e := range []api.Edge{{}, {From: 1, Cap: 3, Cost: 2}, {From: 1, To: 1, Cap: 1, Cost: -1}} {
		for _, edges := range []int{0, 1, 2, 3, 50, 127, 128, 198, 199, 200, 201, 202, 255, 256, 257, 400, 456, 512, 1 << 16} {
			right(t, "P11.1: edges", api.Net{N: 2, Edges: repeated(e, edges)}, edges <= 200)
		}
	}
	for nodes := 1; nodes <= 40; nodes++ {
		right(t, "P11.1: edges, most nodes", api.Net{N: nodes, Edges: make([]api.Edge, 200)}, true)
		right(t, "P11.1: edges, most nodes", api.Net{N: nodes, Edges: make([]api.Edge, 201)}, false)
	}
}

func TestEndsOfEdges(t *testing.T) {
	for nodes := 1; nodes <= 40; nodes++ {
		for end := -3; end <= nodes+3; end++ {
			want := end >= 0 && end < nodes
			right(t, "P11.1: From", api.Net{N: nodes, Edges: []api.Edge{{From: end, Cap: 2, Cost: 3}}}, want)
			right(t, "P11.1: To", api.Net{N: nodes, Edges: []api.Edge{{To: end, Cap: 2, Cost: 3}}}, want)
			right(t, "P11.1: both", api.Net{N: nodes, Edges: []api.Edge{{From: end, To: end, Cap: 2, Cost: 3}}}, want)
			right(t, "P11.1: the last and", api.Net{N: nodes, Edges: []api.Edge{{From: nodes - 1, To: end}}}, want)
			right(t, "P11.1: and the last", api.Net{N: nodes, Edges: []api.Edge{{From: end, To: nodes - 1}}}, want)
		}
		for _, end := range farInts {
			right(t, "P11.1: From, far", api.Net{N: nodes, Edges: []api.Edge{{From: end}}}, false)
			right(t, "P11.1: To, far", api.Net{N: nodes, Edges: []api.Edge{{To: end}}}, false)
		}
	}
	// Of as many nodes as may not be, no end is one of them.
	for _, nodes := range []int{0, 41} {
		for end := range 41 {
			right(t, "P11.1: an end, but too many or no nodes", api.Net{N: nodes, Edges: []api.Edge{{From: end, To: end}}}, false)
		}
	}
}

func TestCaps(t *testing.T) {
	for _, cost := range []int64{-1, 0, 1} {
		for _, c := range []int64{0, 1, 2, 1 << 31, 1 << 32, amount - 1, amount} {
			right(t, "P11.1: a Cap", api.Net{N: 1, Edges: []api.Edge{{Cap: c, Cost: cost}}}, true)
		}
		for _, c := range append([]int64{-1, amount + 1}, far64...) {
			right(t, "P11.1: a Cap", api.Net{N: 1, Edges: []api.Edge{{Cap: c, Cost: cost}}}, false)
		}
	}
}

func TestCosts(t *testing.T) {
	for _, c := range []int64{0, 1, 7, amount} {
		for _, cost := range []int64{-1000, -999, -1, 0, 1, 999, 1000} {
			right(t, "P11.1: a Cost", api.Net{N: 1, Edges: []api.Edge{{Cap: c, Cost: cost}}}, true)
		}
		for _, cost := range append([]int64{-1025, -1024, -1001, 1001, 1023, 1024, 1025}, far64...) {
			right(t, "P11.1: a Cost", api.Net{N: 1, Edges: []api.Edge{{Cap: c, Cost: cost}}}, false)
		}
	}
}

// A wrong edge is wrong wherever it stands, and no other one makes up for it.
func TestOneWrongEdgeAmongOthers(t *testing.T) {
	wrong := []api.Edge{{From: -1}, {From: 3}, {To: -1}, {To: 3}, {Cap: -1}, {Cap: amount + 1}, {Cost: -1001}, {Cost: 1001}, {From: 3, To: -3}}
	for place := range 5 {
		right(t, "P11.1: one more", with(place, api.Edge{From: 2, To: 1, Cap: amount, Cost: 1}), true)
		for _, e := range wrong {
			right(t, "P11.1: one wrong", with(place, e), false)
		}
	}
	for place := range 200 {
		n := api.Net{N: 3, Edges: repeated(api.Edge{From: 2, To: 1, Cap: 5, Cost: 1}, 200)}
		right(t, "P11.1: of 200", n, true)
		n.Edges[place] = wrong[place%len(wrong)]
		right(t, "P11.1: of 200 one wrong", n, false)
	}
}

// The greatest sum that may be is 2^62: 1024 times the greatest amount.
func TestTheSumOfTheProducts(t *testing.T) {
	one := func(c, cost int64) [2]int64 { return [2]int64{c, cost} }
	for _, sign := range []int64{1, -1} {
		for _, other := range []int64{1, -1} {
			for what, c := range map[string]struct {
				n    api.Net
				want bool
			}{
				"the most of one edge":     {priced(one(amount, 1000*sign)), true},
				"2^62 by two":              {priced(one(amount, 1000*sign), one(amount, 24*other)), true},
				"one more by one":          {priced(one(amount, 1000*sign), one(amount, 24*sign), one(1, other)), false},
				"one more, ahead":          {priced(one(1, other), one(amount, 1000*sign), one(amount, 24*sign)), false},
				"one less by one":          {priced(one(amount-1, 24*other), one(amount, 1000*sign)), true},
				"less, and then 2^62":      {priced(one(amount-1, 24*sign), one(amount, 1000*sign), one(24, other)), true},
				"less, and then one more":  {priced(one(amount-1, 24*sign), one(amount, 1000*sign), one(25, other)), false},
				"one more by a Cost":       {priced(one(amount, 1000*sign), one(amount, 25*other)), false},
				"2^62 by halves":           {priced(one(amount, 512*sign), one(amount, 512*other)), true},
				"one more by halves":       {priced(one(amount, 512*sign), one(amount, 512*other), one(1, 1)), false},
				"that nothing is added to": {priced(one(amount, 1000*sign), one(amount, 24*other), one(amount, 0), one(0, 1000), one(0, -1000)), true},
				"2^63 - 2^52 by three":     {priced(one(amount, 1000*sign), one(amount, 1000*other), one(amount, 47)), false},
				"2^63 by three":            {priced(one(amount, 1000*sign), one(amount, 1000*other), one(amount, 48)), false},
				"2^64 by five":             {priced(one(amount, 1000*sign), one(amount, 1000*sign), one(amount, 1000*other), one(amount, 1000*other), one(amount, 96)), false},
				"2^64 + 1 by six":          {priced(one(amount, 1000*sign), one(amount, 1000*sign), one(amount, 1000*other), one(amount, 1000*other), one(amount, 96), one(1, 1)), false},
				"two that make up for it":  {priced(one(amount, 1000*sign), one(amount, -1000*sign)), false},
				"many that make up for it": {priced(one(amount, 600*sign), one(amount, -600*sign), one(amount, 600*sign), one(amount, -600*sign)), false},
			} {
				right(t, "P11.1: "+what, c.n, c.want)
			}
		}
	}
}

// By so many edges as there may be: the sums reach 64 bits and wrap round again and again.
func TestTheSumOfTheProductsOfManyEdges(t *testing.T) {
	for edges := 1; edges <= 200; edges++ {
		for _, cost := range []int64{1, 5, 6, 24, 512, 513, 999, 1000} {
			for _, c := range []int64{amount, amount - 1, amount / 2, 1 << 42, 1} {
				n := api.Net{N: 2, Edges: repeated(api.Edge{From: 1, Cap: c, Cost: cost}, edges)}
				for i := range n.Edges {
					if i%3 == 1 {
						n.Edges[i].Cost = -cost
					}
				}
				right(t, "P11.1: many edges", n, modelRight(n))
			}
		}
	}
	// 2^62 by 128 edges, and one more by one of 129 and more.
	for edges := 128; edges < 200; edges++ {
		n := api.Net{N: 1, Edges: append(repeated(api.Edge{Cap: amount, Cost: -8}, 128), repeated(api.Edge{Cap: amount}, edges-128)...)}
		right(t, "P11.1: 2^62 by many", n, true)
		n.Edges = append(n.Edges, api.Edge{Cap: 1, Cost: 1})
		right(t, "P11.1: one more by many", n, false)
	}
}

// So often 2^64, which would be nothing if it wrapped round, by Costs of either sign, and edges behind it that add little or nothing.
func TestTheSumOfTheProductsBeyond64Bits(t *testing.T) {
	for often := int64(1); often <= 45; often++ {
		for _, sign := range []int64{1, -1} {
			n := api.Net{N: 1, Edges: repeated(api.Edge{Cap: amount, Cost: 1000 * sign}, int(4*often))}
			for left := 96 * often; left > 0; left -= 1000 {
				n.Edges = append(n.Edges, api.Edge{Cap: amount, Cost: min(left, 1000) * sign})
			}
			right(t, "P11.1: so often 2^64", n, false)
			for _, behind := range []api.Edge{{Cap: amount}, {Cost: 1000}, {Cap: 1, Cost: sign}, {Cap: 1, Cost: -sign}} {
				more := n
				more.Edges = append(slices.Clone(n.Edges), repeated(behind, 200-len(n.Edges))...)
				right(t, "P11.1: so often 2^64, and more", more, false)
			}
		}
	}
}

// Numbers that may not be, whose products or sums would be small if they wrapped round.
func TestProductsOfAnyNumbers(t *testing.T) {
	costs := append([]int64{-1001, -1000, -1, 0, 1, 1000, 1001}, far64...)
	caps := append([]int64{-1, 0, 1, amount, amount + 1}, far64...)
	for _, c := range caps {
		for _, cost := range costs {
			may := c >= 0 && c <= amount && cost >= -1000 && cost <= 1000
			right(t, "P11.1: any product", priced([2]int64{c, cost}), may)
			right(t, "P11.1: any product, twice", priced([2]int64{c, cost}, [2]int64{c, cost}), may && !(c == amount && (cost == 1000 || cost == -1000)))
			right(t, "P11.1: any product, with its like", priced([2]int64{c, cost}, [2]int64{c, -cost}), may && !(c == amount && (cost == 1000 || cost == -1000)))
		}
	}
}

// P11.2

func TestFlowsOfSomeNumbers(t *testing.T) {
	n := example()
	for count := range 12 {
		flow := make([]int64, count)
		held(t, "P11.2: so many", n, flow)
		if net.Within(n, flow) != (count == 4) {
			t.Errorf("P11.2: Within: %d numbers for 4 edges", count)
		}
	}
	none(t, "P11.2: none", n, nil)
	none(t, "P11.2: none", n, []int64{})
	for edges := range 201 {
		n := api.Net{N: 2, Edges: repeated(api.Edge{To: 1, Cap: 2, Cost: 3}, edges)}
		for _, count := range []int{0, 1, edges - 1, edges, edges + 1, edges + 2, 2 * edges} {
			if count >= 0 {
				held(t, "P11.2: so many", n, slices.Repeat([]int64{1}, count))
			}
		}
		none(t, "P11.2: one more", n, make([]int64, edges+1))
	}
}

func TestFlowsOfEachNumber(t *testing.T) {
	for _, c := range []int64{0, 1, 5, amount - 1, amount} {
		for place := range 5 {
			n := with(place, api.Edge{From: 2, To: 1, Cap: c, Cost: 3})
			flow := []int64{1, 1, 1, 1, 1}
			for _, x := range []int64{0, c / 2, c} {
				flow[place] = x
				held(t, "P11.2: a number", n, flow)
				if !net.Within(n, flow) {
					t.Errorf("P11.2: %d on a Cap of %d", x, c)
				}
			}
			for _, x := range []int64{-1, c + 1, -c - 1, math.MinInt64, math.MinInt64 + 1, -1 << 32, -1 << 52, c + 2, c + 1<<32, 1 << 53, math.MaxInt64 - 1, math.MaxInt64} {
				flow[place] = x
				none(t, "P11.2: a number that may not be", n, flow)
			}
		}
	}
}

// Numbers that may not be, and that make up for each other in every sum.
func TestFlowsThatMakeUpForEachOther(t *testing.T) {
	n := api.Net{N: 2, Edges: []api.Edge{{To: 1, Cap: 9, Cost: 1}, {To: 1, Cap: 9, Cost: 1}, {From: 1, Cap: 9, Cost: 1}, {From: 1, Cap: 9, Cost: 1}}}
	for _, flow := range [][]int64{{-1, 1, 0, 0}, {1, -1, 0, 0}, {10, 0, 9, 1}, {-1, 0, -1, 0}, {0, 0, 5, -5}, {9, 9, 10, 8}, {math.MinInt64, 0, math.MinInt64, 0}} {
		none(t, "P11.2: that make up for each other", n, flow)
	}
	held(t, "P11.2: that may be", n, []int64{9, 9, 9, 9})
}

func TestNoAnswerOfNetsThatAreNotRight(t *testing.T) {
	for what, n := range map[string]api.Net{
		"no nodes":          {},
		"below no nodes":    {N: -1},
		"too many nodes":    {N: 41},
		"too many edges":    {N: 1, Edges: make([]api.Edge, 201)},
		"no nodes, an edge": {Edges: []api.Edge{{Cap: 1, Cost: 1}}},
		"From":              {N: 2, Edges: []api.Edge{{From: 2, Cap: 1, Cost: 1}}},
		"To":                {N: 2, Edges: []api.Edge{{To: -1, Cap: 1, Cost: 1}}},
		"a Cap":             {N: 2, Edges: []api.Edge{{Cap: amount + 1, Cost: 1}}},
		"a Cost":            {N: 2, Edges: []api.Edge{{Cap: 1, Cost: 1001}}},
		"the sum":           {N: 2, Edges: repeated(api.Edge{To: 1, Cap: amount, Cost: 1000}, 2)},
	} {
		flow := make([]int64, len(n.Edges))
		none(t, what, n, flow)
		for i := range flow {
			flow[i] = 1
		}
		none(t, what, n, flow)
	}
}

func TestOverOfOneEdge(t *testing.T) {
	for _, nodes := range []int{1, 2, 3, 5, 40} {
		for a := range nodes {
			for b := range nodes {
				n := api.Net{N: nodes, Edges: []api.Edge{{From: a, To: b, Cap: 6, Cost: 1}}}
				want := make([]int64, nodes)
				if a != b {
					want[a], want[b] = -4, 4
				}
				if got := net.Over(n, []int64{4}); !slices.Equal(got, want) {
					t.Errorf("P11.2: Over of 4 from %d to %d: %v", a, b, got)
				}
				if got := net.Flows(n, []int64{4}); got != (a == b) {
					t.Errorf("P11.3: Flows of 4 from %d to %d: %v", a, b, got)
				}
				held(t, "one edge", n, []int64{0})
				held(t, "one edge", n, []int64{6})
			}
		}
	}
}

func TestOverOfNoEdges(t *testing.T) {
	for nodes := 1; nodes <= 40; nodes++ {
		n := api.Net{N: nodes}
		if got := net.Over(n, nil); !slices.Equal(got, make([]int64, nodes)) {
			t.Errorf("P11.2: Over of no edges, %d nodes: %v", nodes, got)
		}
		if !net.Within(n, nil) || !net.Within(n, []int64{}) || !net.Flows(n, nil) || net.Cost(n, nil) != 0 {
			t.Errorf("P11.2, P11.3: of no edges, %d nodes", nodes)
		}
	}
}

// Of several edges between the same two each counts by itself; the most that may come to a node is 200 times the greatest amount.
func TestOverOfSeveralEdgesBetweenTheSameTwo(t *testing.T) {
	for edges := range int64(201) {
		n := api.Net{N: 2, Edges: repeated(api.Edge{To: 1, Cap: amount}, int(edges))}
		if got := net.Over(n, caps(n)); !slices.Equal(got, []int64{-edges * amount, edges * amount}) {
			t.Errorf("P11.2: Over of %d full edges: %v", edges, got)
		}
		held(t, "several edges", n, caps(n))
	}
	n := api.Net{N: 3, Edges: []api.Edge{{To: 1, Cap: 5, Cost: 1}, {To: 1, Cap: 5, Cost: -9}, {To: 1, Cap: 5, Cost: 4}, {From: 1, Cap: 20, Cost: 2}, {From: 1, Cap: 20, Cost: -1}}}
	flow := []int64{1, 2, 3, 1, 4}
	if got := net.Over(n, flow); !slices.Equal(got, []int64{-1, 1, 0}) {
		t.Errorf("P11.2: Over of several edges: %v", got)
	}
	if got := net.Cost(n, flow); got != 1-18+12+2-4 {
		t.Errorf("P11.3: Cost of several edges: %d", got)
	}
}

func TestEdgesFromANodeToItself(t *testing.T) {
	n := api.Net{N: 3}
	for node := range 3 {
		n.Edges = append(n.Edges, api.Edge{From: node, To: node, Cap: amount, Cost: int64(node) - 1})
	}
	for _, flow := range [][]int64{{0, 0, 0}, {1, 0, 0}, {0, 5, 0}, {3, 4, 5}, {amount, amount, amount}} {
		held(t, "to itself", n, flow)
		if got := net.Over(n, flow); !slices.Equal(got, []int64{0, 0, 0}) || !net.Flows(n, flow) {
			t.Errorf("P11.2, P11.3: %v on edges from a node to itself: %v", flow, got)
		}
		if got := net.Cost(n, flow); got != flow[2]-flow[0] {
			t.Errorf("P11.3: Cost of %v on edges from a node to itself: %d", flow, got)
		}
	}
}

// P11.3

func TestFlowsThatCloseAndSuchAsDoNot(t *testing.T) {
	n := api.Net{N: 4}
	for _, ends := range [][2]int{{0, 1}, {1, 2}, {2, 3}, {3, 0}, {2, 0}, {1, 0}, {3, 3}} {
		n.Edges = append(n.Edges, api.Edge{From: ends[0], To: ends[1], Cap: 9, Cost: 1})
	}
	for _, c := range []struct {
		flow  []int64
		flows bool
	}{
		{[]int64{0, 0, 0, 0, 0, 0, 0}, true},
		{[]int64{0, 0, 0, 0, 0, 0, 5}, true},
		{[]int64{3, 3, 3, 3, 0, 0, 0}, true},
		{[]int64{3, 3, 0, 0, 3, 0, 0}, true},
		{[]int64{3, 0, 0, 0, 0, 3, 9}, true},
		{[]int64{9, 6, 2, 2, 4, 3, 0}, true},
		{[]int64{1, 0, 0, 0, 0, 0, 0}, false},
		{[]int64{3, 3, 3, 0, 0, 0, 0}, false}, // over at the last node, and at the first
		{[]int64{0, 3, 3, 3, 0, 0, 0}, false},
		{[]int64{0, 3, 3, 0, 0, 0, 0}, false}, // over at inner nodes alone
		{[]int64{0, 0, 3, 0, 0, 0, 0}, false},
		{[]int64{3, 3, 3, 2, 0, 0, 0}, false},
		{[]int64{3, 3, 2, 3, 0, 0, 0}, false},
		{[]int64{3, 2, 3, 3, 0, 0, 0}, false},
		{[]int64{9, 6, 2, 2, 4, 2, 0}, false},
		{[]int64{10, 10, 10, 10, 0, 0, 0}, false},
		{[]int64{-1, -1, -1, -1, 0, 0, 0}, false},
	} {
		if got := net.Flows(n, c.flow); got != c.flows {
			t.Errorf("P11.3: Flows of %v: %v", c.flow, got)
		}
		held(t, "closed or not", n, c.flow)
	}
}

// Between each two of the nodes: what is over at these two alone does not flow.
func TestFlowsHangOnEachNode(t *testing.T) {
	for a := range 40 {
		for b := range 40 {
			n := api.Net{N: 40, Edges: []api.Edge{{From: a, To: b, Cap: 2}, {From: b, To: a, Cap: 2}}}
			for _, flow := range [][]int64{{0, 0}, {1, 1}, {2, 2}, {1, 0}, {0, 1}, {2, 1}, {1, 2}} {
				held(t, "two edges", n, flow)
			}
			if net.Flows(n, []int64{2, 1}) != (a == b) || !net.Flows(n, []int64{2, 2}) {
				t.Errorf("P11.3: Flows between %d and %d", a, b)
			}
		}
	}
}

func TestCostOfOneEdge(t *testing.T) {
	for _, cost := range []int64{-1000, -999, -3, -1, 0, 1, 3, 999, 1000} {
		for _, x := range []int64{0, 1, 2, 7, 1 << 31, 1<<32 + 1, amount - 1, amount} {
			n := priced([2]int64{amount, cost})
			if got := net.Cost(n, []int64{x}); got != x*cost {
				t.Errorf("P11.3: Cost of %d at %d: %d", x, cost, got)
			}
		}
	}
}

// Cost asks for what is within alone: it need not flow.
func TestCostOfWhatDoesNotFlow(t *testing.T) {
	n := example()
	if net.Flows(n, []int64{5, 0, 0, 0}) || net.Cost(n, []int64{5, 0, 0, 0}) != 10 || net.Cost(n, []int64{0, 4, 0, 0}) != -12 {
		t.Error("P11.3: Cost of what does not flow")
	}
}

func TestCostAtItsBounds(t *testing.T) {
	for _, c := range []struct {
		costs []int64
		want  int64
	}{
		{[]int64{1000, 24}, 1 << 62},
		{[]int64{-1000, -24}, -1 << 62},
		{[]int64{-24, -1000}, -1 << 62},
		{[]int64{512, -512}, 0},
		{[]int64{-512, 512}, 0},
		{[]int64{1000, -24}, 976 * amount},
		{[]int64{-1000, 24}, -976 * amount},
		{[]int64{1000, 23, -1}, 1022 * amount},
		{slices.Repeat([]int64{8}, 128), 1 << 62},
		{slices.Repeat([]int64{-8}, 128), -1 << 62},
		{slices.Repeat([]int64{8, -8}, 64), 0},
		{append(slices.Repeat([]int64{1}, 24), 1000), 1 << 62},
	} {
		n := api.Net{N: 1}
		for _, cost := range c.costs {
			n.Edges = append(n.Edges, api.Edge{Cap: amount, Cost: cost})
		}
		if got := net.Cost(n, caps(n)); got != c.want {
			t.Errorf("P11.3: Cost of full edges of %v: %d and not %d", c.costs, got, c.want)
		}
		held(t, "the bounds of Cost", n, caps(n))
	}
}

// P11.4 and walks over nets that are made up.

// some answers a net that is right, of edges that may be any that are right.
func some(dice *rand.Rand) api.Net {
	n := api.Net{N: 1 + dice.Intn(40)}
	if dice.Intn(2) == 0 {
		n.N = 1 + dice.Intn(5)
	}
	most := int64(1) << dice.Intn(53)
	for range dice.Intn(201) {
		e := api.Edge{From: dice.Intn(n.N), To: dice.Intn(n.N), Cap: dice.Int63n(most + 1), Cost: dice.Int63n(2001) - 1000}
		if dice.Intn(4) == 0 {
			e.Cost = dice.Int63n(3) - 1
		}
		n.Edges = append(n.Edges, e)
		if !modelRight(n) { // the sum alone can be too much
			n.Edges = n.Edges[:len(n.Edges)-1]
			break
		}
	}
	return n
}

// partOf answers a flow of no more than these numbers.
func partOf(dice *rand.Rand, most []int64) []int64 {
	flow := make([]int64, len(most))
	for i, x := range most {
		switch dice.Intn(4) {
		case 0:
		case 1:
			flow[i] = x
		default:
			flow[i] = dice.Int63n(x + 1)
		}
	}
	return flow
}

func plus(a, b []int64, sign int64) []int64 {
	var l []int64
	for i := range a {
		l = append(l, a[i]+sign*b[i])
	}
	return l
}

func TestAllThatIsOverIsNothing(t *testing.T) {
	dice := rand.New(rand.NewSource(114))
	for range 1000 {
		n := some(dice)
		flow := partOf(dice, caps(n))
		held(t, "a flow made up", n, flow)
		all := int64(0)
		for _, x := range net.Over(n, flow) {
			all += x
		}
		if all != 0 {
			t.Errorf("P11.4: all that is over is %d", all)
		}
	}
}

func TestFlowsThatComeToOne(t *testing.T) {
	dice := rand.New(rand.NewSource(1142))
	for range 1000 {
		n := some(dice)
		one := partOf(dice, caps(n))
		other := partOf(dice, plus(caps(n), one, -1))
		both := plus(one, other, 1)
		if !net.Within(n, one) || !net.Within(n, other) || !net.Within(n, both) {
			t.Fatal("P11.2: not within")
		}
		if got, want := net.Over(n, both), plus(net.Over(n, one), net.Over(n, other), 1); !slices.Equal(got, want) {
			t.Errorf("P11.4: Over of both: %v and not %v", got, want)
		}
		if got, want := net.Cost(n, both), net.Cost(n, one)+net.Cost(n, other); got != want {
			t.Errorf("P11.4: Cost of both: %d and not %d", got, want)
		}
		held(t, "both", n, both)
	}
}

// closed answers edges of a net, one behind the other, the last of which ends where the first begins; none, if it found none.
func closed(dice *rand.Rand, n api.Net) []int {
	if len(n.Edges) == 0 {
		return nil
	}
	first := dice.Intn(len(n.Edges))
	way := []int{first}
	for at := n.Edges[first].To; at != n.Edges[first].From; {
		var next []int
		for i, e := range n.Edges {
			if e.From == at && !slices.Contains(way, i) {
				next = append(next, i)
			}
		}
		if len(next) == 0 {
			return nil
		}
		way = append(way, next[dice.Intn(len(next))])
		at = n.Edges[way[len(way)-1]].To
	}
	return way
}

// What goes around closed ways, as much on each edge of one, flows; with one edge of a way more or less it does not.
func TestWhatGoesAroundFlows(t *testing.T) {
	dice := rand.New(rand.NewSource(1143))
	found := 0
	for range 2000 {
		n := some(dice)
		flow := make([]int64, len(n.Edges))
		for range 1 + dice.Intn(4) {
			way := closed(dice, n)
			if len(way) == 0 {
				continue
			}
			left := int64(amount)
			for _, i := range way {
				left = min(left, n.Edges[i].Cap-flow[i])
			}
			by, cost := dice.Int63n(left+1), net.Cost(n, flow)
			around := make([]int64, len(n.Edges))
			for _, i := range way {
				around[i] = by
				cost += by * n.Edges[i].Cost
			}
			flow = plus(flow, around, 1)
			if !net.Flows(n, around) || !net.Flows(n, flow) || net.Cost(n, flow) != cost {
				t.Fatalf("P11.4: what goes around: %v of %v, cost %d", flow, n, net.Cost(n, flow))
			}
			held(t, "around", n, flow)
			found++
			i := way[dice.Intn(len(way))]
			if e := n.Edges[i]; flow[i] < e.Cap && e.From != e.To {
				flow[i]++
				if net.Flows(n, flow) || !net.Within(n, flow) {
					t.Fatalf("P11.4: one more on an edge: %v of %v", flow, n)
				}
				flow[i]--
			}
		}
	}
	if found < 1500 {
		t.Errorf("%d ways alone were found", found)
	}
}

// Cost is never beyond 2^62: of nets whose sum is just that, whatever flows.
func TestCostIsNeverBeyondItsBound(t *testing.T) {
	dice := rand.New(rand.NewSource(1144))
	for range 2000 {
		n := api.Net{N: 1 + dice.Intn(4)}
		for left := int64(1024); left > 0; {
			cost := min(left, 6+dice.Int63n(995))
			left -= cost
			if dice.Intn(2) == 0 {
				cost = -cost
			}
			n.Edges = append(n.Edges, api.Edge{From: dice.Intn(n.N), To: dice.Intn(n.N), Cap: amount, Cost: cost})
		}
		right(t, "P11.4: 2^62", n, true)
		above, below := make([]int64, len(n.Edges)), make([]int64, len(n.Edges))
		for i, e := range n.Edges {
			if e.Cost > 0 {
				above[i] = e.Cap
			} else {
				below[i] = e.Cap
			}
		}
		if net.Cost(n, above)-net.Cost(n, below) != 1<<62 || net.Cost(n, above) < 0 || net.Cost(n, below) > 0 {
			t.Errorf("P11.4: Cost %d, %d", net.Cost(n, above), net.Cost(n, below))
		}
		for range 5 {
			flow := partOf(dice, caps(n))
			if c := net.Cost(n, flow); c > 1<<62 || c < -1<<62 {
				t.Errorf("P11.4: Cost %d", c)
			}
			held(t, "at most 2^62", n, flow)
		}
	}
}

// Nets and flows of which a number or two are turned to any at all.
func TestNetsThatAreTurned(t *testing.T) {
	dice := rand.New(rand.NewSource(1))
	ints := append([]int{-1, 0, 1, 39, 40}, farInts...)
	longs := append([]int64{-1001, -1000, -1, 0, 1, 1000, 1001, amount, amount + 1}, far64...)
	for range 4000 {
		n := some(dice)
		flow := partOf(dice, caps(n))
		for range 1 + dice.Intn(3) {
			if len(n.Edges) == 0 {
				n.N = ints[dice.Intn(len(ints))]
				break
			}
			i := dice.Intn(len(n.Edges))
			switch dice.Intn(7) {
			case 0:
				n.N = ints[dice.Intn(len(ints))]
			case 1:
				n.Edges[i].From = ints[dice.Intn(len(ints))]
			case 2:
				n.Edges[i].To = ints[dice.Intn(len(ints))]
			case 3:
				n.Edges[i].Cap = longs[dice.Intn(len(longs))]
			case 4:
				n.Edges[i].Cost = longs[dice.Intn(len(longs))]
			case 5:
				flow[i] = longs[dice.Intn(len(longs))]
			case 6:
				flow = flow[:i]
			}
			if len(flow) != len(n.Edges) {
				break
			}
		}
		held(t, "turned", n, flow)
	}
}

// R2 to R5

// roomy answers the same list with room behind its end, and all of that room, to look at.
func roomy[T any](l []T, behind T) (list, whole []T) {
	whole = append(slices.Clone(l), behind, behind, behind)
	return whole[:len(l)], whole
}

func TestWhatIsHandedInStays(t *testing.T) {
	n := example()
	for _, flow := range [][]int64{{4, 4, 4, 0}, {5, 4, 4, 1}, {5, 5, 5, 0}, {0, 0}, {1, 2, 3, 4, 5}, nil} {
		l, whole := roomy(flow, 77)
		edges, all := roomy(n.Edges, api.Edge{From: 7, To: 7, Cap: 77, Cost: 77})
		given, wasWhole, wasAll := api.Net{N: 3, Edges: edges}, slices.Clone(whole), slices.Clone(all)
		held(t, "R3", given, l)
		net.Right(given)
		if !slices.Equal(whole, wasWhole) || !slices.Equal(all, wasAll) {
			t.Errorf("R3: %v, %v behind the calls", whole, all)
		}
	}
}

func TestAnswersAreNewMemory(t *testing.T) {
	n, flow := example(), []int64{5, 4, 4, 1}
	one, other := net.Over(n, flow), net.Over(n, flow)
	for i := range one {
		one[i] = 99
	}
	one = append(one, 99)
	if want := []int64{-1, 1, 0}; !slices.Equal(other, want) || !slices.Equal(net.Over(n, flow), want) || !slices.Equal(flow, []int64{5, 4, 4, 1}) {
		t.Errorf("R3: %v, %v behind a change of an answer", other, flow)
	}
	flow[0], n.Edges[0].To = 0, 2
	if !slices.Equal(other, []int64{-1, 1, 0}) {
		t.Errorf("R3: %v behind a change of what was handed in", other)
	}
}

func TestAnswersHangOnNothingElse(t *testing.T) {
	n, flow := example(), []int64{4, 4, 4, 1}
	bad := api.Net{N: 41, Edges: repeated(api.Edge{Cap: amount + 1, Cost: math.MinInt64}, 300)}
	for range 20 {
		held(t, "R5", n, flow)
		held(t, "R5", bad, make([]int64, 300))
		held(t, "R5", api.Net{N: 1}, nil)
		held(t, "R5", api.Net{N: 1, Edges: []api.Edge{}}, []int64{})
	}
}

// FuzzNet makes a net and a flow of bytes, and holds all calls against the model.
func FuzzNet(f *testing.F) {
	f.Add(3, int64(5), int64(2), int64(4), []byte{0, 1, 0, 0, 1, 2, 0, 0, 2, 0, 0, 0})
	f.Add(1, int64(amount), int64(1000), int64(amount), []byte{0, 0, 0, 0})
	f.Add(2, int64(amount), int64(-8), int64(1), []byte("\x00\x01\x00\x00\x01\x00\x11\x11"))
	f.Add(40, int64(math.MaxInt64), int64(math.MinInt64), int64(-1), []byte{39, 40, 1, 1, 255, 0, 9, 9})
	f.Fuzz(func(t *testing.T, nodes int, cap, cost, x int64, l []byte) {
		n := api.Net{N: nodes}
		var flow []int64
		for ; len(l) >= 4; l = l[4:] {
			e := api.Edge{From: int(int8(l[0])), To: int(int8(l[1])), Cap: cap, Cost: cost}
			if l[2]%2 == 1 {
				e.Cap, e.Cost = int64(l[2]/2), int64(int8(l[3]))
			}
			n.Edges = append(n.Edges, e)
			if l[3] != 255 {
				flow = append(flow, min(x, x>>(l[3]%64)))
			}
		}
		held(t, "bytes", n, flow)
		held(t, "bytes, full", n, caps(n))
		held(t, "bytes, nothing", n, make([]int64, len(n.Edges)))
	})
}
