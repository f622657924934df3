package net_test

import (
	"math/big"
	"slices"
	"testing"

	"gablet/api"
	"gablet/net"
)

// A model of the chapter's words, in numbers that know no bounds.

func from(low, x, high int64) bool { return low <= x && x <= high }

// modelSum: all Caps times their Costs, without signs.
func modelSum(n api.Net) *big.Int {
	all := new(big.Int)
	for _, e := range n.Edges {
		p := new(big.Int).Mul(big.NewInt(e.Cap), big.NewInt(e.Cost))
		all.Add(all, p.Abs(p))
	}
	return all
}

func modelRight(n api.Net) bool {
	if !from(1, int64(n.N), 40) || len(n.Edges) > 200 {
		return false
	}
	for _, e := range n.Edges {
		node := int64(n.N) - 1
		if !from(0, int64(e.From), node) || !from(0, int64(e.To), node) || !from(0, e.Cap, 1<<52) || !from(-1000, e.Cost, 1000) {
			return false
		}
	}
	return modelSum(n).Cmp(new(big.Int).Lsh(big.NewInt(1), 62)) <= 0
}

func modelWithin(n api.Net, flow []int64) bool {
	if !modelRight(n) || len(flow) != len(n.Edges) {
		return false
	}
	for i, e := range n.Edges {
		if !from(0, flow[i], e.Cap) {
			return false
		}
	}
	return true
}

// modelOver asks node by node, where the package goes edge by edge.
func modelOver(n api.Net, flow []int64) []int64 {
	if !modelWithin(n, flow) {
		return nil
	}
	var over []int64
	for node := range n.N {
		x := new(big.Int)
		for i, e := range n.Edges {
			if e.To == node {
				x.Add(x, big.NewInt(flow[i]))
			}
			if e.From == node {
				x.Sub(x, big.NewInt(flow[i]))
			}
		}
		over = append(over, x.Int64())
	}
	return over
}

func modelFlows(n api.Net, flow []int64) bool {
	return modelWithin(n, flow) && !slices.ContainsFunc(modelOver(n, flow), func(x int64) bool { return x != 0 })
}

func modelCost(n api.Net, flow []int64) int64 {
	if !modelWithin(n, flow) {
		return 0
	}
	all := new(big.Int)
	for i, e := range n.Edges {
		all.Add(all, new(big.Int).Mul(big.NewInt(flow[i]), big.NewInt(e.Cost)))
	}
	if !all.IsInt64() {
		panic("the model's cost is beyond 64 bits")
	}
	return all.Int64()
}

// short tells a net in few words, for there may be many edges.
func short(n api.Net) api.Net {
	n.Edges = n.Edges[:min(len(n.Edges), 6)]
	return n
}

// held asks all five calls of a net and a flow, and holds the answers against the model's.
func held(t *testing.T, what string, n api.Net, flow []int64) {
	t.Helper()
	bad := func(promise string, got, want any) {
		t.Helper()
		t.Errorf("%s: %s: %v and not %v, of %d edges %v, flow %v", promise, what, got, want, len(n.Edges), short(n), flow[:min(len(flow), 6)])
	}
	if got, want := net.Right(n), modelRight(n); got != want {
		bad("P11.1: Right", got, want)
	}
	if got, want := net.Within(n, flow), modelWithin(n, flow); got != want {
		bad("P11.2: Within", got, want)
	}
	if got, want := net.Over(n, flow), modelOver(n, flow); !slices.Equal(got, want) {
		bad("P11.2: Over", got, want)
	}
	if got, want := net.Flows(n, flow), modelFlows(n, flow); got != want {
		bad("P11.3: Flows", got, want)
	}
	if got, want := net.Cost(n, flow), modelCost(n, flow); got != want {
		bad("P11.3: Cost", got, want)
	}
}

// right holds Right against what the test says, and all calls against the model, with no flow and with a full one.
func right(t *testing.T, what string, n api.Net, want bool) {
	t.Helper()
	if modelRight(n) != want {
		t.Fatalf("%s: the model says %v, of %d edges %v", what, !want, len(n.Edges), short(n))
	}
	held(t, what, n, nil)
	held(t, what, n, make([]int64, len(n.Edges)))
	held(t, what, n, caps(n))
}

// none holds that of such a flow nothing is answered.
func none(t *testing.T, what string, n api.Net, flow []int64) {
	t.Helper()
	if modelWithin(n, flow) {
		t.Fatalf("%s: the model says that it is within: %v, %v", what, n, flow)
	}
	held(t, what, n, flow)
}

// caps are the full flow.
func caps(n api.Net) []int64 {
	var flow []int64
	for _, e := range n.Edges {
		flow = append(flow, e.Cap)
	}
	return flow
}

// repeated are so many edges, each the same.
func repeated(e api.Edge, count int) []api.Edge {
	return slices.Repeat([]api.Edge{e}, count)
}
