package paths_test

import (
	"math/big"
	"slices"
	"testing"

	"gablet/api"
	"gablet/net"
	"gablet/paths"
)

// A model of the chapter's words, in numbers that know no bounds, and without a heap.

// modelArc is an arc of a net, with room or without.
type modelArc struct {
	from, to int
	length   *big.Int
	room     bool
}

// modelArcs: all arcs by their numbers; there must be a number for each edge and for each node.
func modelArcs(n api.Net, flow, pot []int64) []modelArc {
	var arcs []modelArc
	for i, e := range n.Edges {
		forward := big.NewInt(e.Cost)
		forward.Add(forward, big.NewInt(pot[e.From])).Sub(forward, big.NewInt(pot[e.To]))
		arcs = append(arcs, modelArc{e.From, e.To, forward, flow[i] < e.Cap})
		arcs = append(arcs, modelArc{e.To, e.From, new(big.Int).Neg(forward), flow[i] > 0})
	}
	return arcs
}

func modelFits(n api.Net, flow, pot []int64) bool {
	if !net.Right(n) || len(flow) != len(n.Edges) || len(pot) != n.N {
		return false
	}
	for i, e := range n.Edges {
		if flow[i] < 0 || flow[i] > e.Cap {
			return false
		}
	}
	most := new(big.Int).Lsh(big.NewInt(1), 40)
	for _, p := range pot {
		if big.NewInt(p).CmpAbs(most) > 0 {
			return false
		}
	}
	return !slices.ContainsFunc(modelArcs(n, flow, pot), func(a modelArc) bool { return a.room && a.length.Sign() < 0 })
}

func modelMay(n api.Net, flow, pot []int64, from []int) bool {
	for _, node := range from {
		if node < 0 || node > n.N-1 {
			return false
		}
	}
	return len(from) != 0 && modelFits(n, flow, pot)
}

// modelWays tells of each number of arcs which sums its ways have at least, those that go round too.
func modelWays(n api.Net, flow, pot []int64, from []int) (dist []int64, by []int, e api.Errno) {
	if !modelMay(n, flow, pot, from) {
		return nil, nil, api.ErrArg
	}
	arcs := modelArcs(n, flow, pot)
	least := [][]*big.Int{make([]*big.Int, n.N)}
	for _, node := range from {
		least[0][node] = new(big.Int)
	}
	for count := range n.N {
		next := make([]*big.Int, n.N)
		for _, a := range arcs {
			if ahead := least[count][a.from]; a.room && ahead != nil {
				if sum := new(big.Int).Add(ahead, a.length); next[a.to] == nil || sum.Cmp(next[a.to]) < 0 {
					next[a.to] = sum
				}
			}
		}
		least = append(least, next)
	}
	for node := range n.N {
		d, b := modelWay(least, arcs, node)
		dist, by = append(dist, d), append(by, b)
	}
	return dist, by, api.OK
}

// modelWay: of the least sum of all numbers of arcs the fewest, and of its last arcs the least.
func modelWay(least [][]*big.Int, arcs []modelArc, node int) (int64, int) {
	best := -1
	for count, sums := range least {
		if sums[node] != nil && (best < 0 || sums[node].Cmp(least[best][node]) < 0) {
			best = count
		}
	}
	if best < 0 {
		return -1, -1
	}
	sum := least[best][node]
	if best == 0 {
		return sum.Int64(), -1
	}
	last := slices.IndexFunc(arcs, func(a modelArc) bool {
		ahead := least[best-1][a.from]
		return a.to == node && a.room && ahead != nil && new(big.Int).Add(ahead, a.length).Cmp(sum) == 0
	})
	return sum.Int64(), last
}

// way is one that a second model finds, which goes every way there is.
type way struct {
	sum        int64
	count, arc int
	there      bool
}

// ahead: whether a way is to be preferred.
func (w way) ahead(o way) bool {
	return !o.there || w.sum < o.sum || w.sum == o.sum && (w.count < o.count || w.count == o.count && w.arc < o.arc)
}

// allWays goes all ways on which no node comes twice: for small nets alone.
func allWays(n api.Net, flow, pot []int64, from []int) (dist []int64, by []int) {
	best := make([]way, n.N)
	arcs := modelArcs(n, flow, pot)
	been := make([]bool, n.N)
	var goOn func(node int, w way)
	goOn = func(node int, w way) {
		if w.ahead(best[node]) {
			best[node] = w
		}
		been[node] = true
		for number, a := range arcs {
			if a.from == node && a.room && !been[a.to] {
				goOn(a.to, way{w.sum + a.length.Int64(), w.count + 1, number, true})
			}
		}
		been[node] = false
	}
	for _, node := range from {
		goOn(node, way{0, 0, -1, true})
	}
	for _, w := range best {
		if !w.there {
			w.sum, w.arc = -1, -1
		}
		dist, by = append(dist, w.sum), append(by, w.arc)
	}
	return dist, by
}

// short tells a list in few words, for it may be long.
func short[T any](l []T) []T {
	return l[:min(len(l), 8)]
}

// held asks both calls, and holds the answers against the model's, and those of P13.3 against its words.
func held(t *testing.T, what string, n api.Net, flow, pot []int64, from []int) {
	t.Helper()
	bad := func(promise string, got, want any) {
		t.Helper()
		t.Errorf("%s: %s: %v and not %v, of %d nodes, %d edges %v, flow %v, pot %v, from %v", promise, what, got, want, n.N, len(n.Edges), short(n.Edges), short(flow), short(pot), short(from))
	}
	if got, want := paths.Fits(n, flow, pot), modelFits(n, flow, pot); got != want {
		bad("P13.1: Fits", got, want)
	}
	dist, by, e := paths.Ways(n, flow, pot, from)
	wantDist, wantBy, wantE := modelWays(n, flow, pot, from)
	if !slices.Equal(dist, wantDist) || !slices.Equal(by, wantBy) || e != wantE {
		bad("P13.2: Ways", []any{dist, by, e}, []any{wantDist, wantBy, wantE})
	}
	if e == api.OK {
		raised(t, what, n, flow, pot, from, dist, by)
	}
}

// heldAll holds the answers against those of the second model too.
func heldAll(t *testing.T, what string, n api.Net, flow, pot []int64, from []int) {
	t.Helper()
	held(t, what, n, flow, pot, from)
	if dist, by, e := paths.Ways(n, flow, pot, from); e == api.OK {
		if wantDist, wantBy := allWays(n, flow, pot, from); !slices.Equal(dist, wantDist) || !slices.Equal(by, wantBy) {
			t.Errorf("P13.2: %s: %v, %v and not %v, %v, of %v, flow %v, pot %v, from %v", what, dist, by, wantDist, wantBy, n, flow, pot, from)
		}
	}
}

// refused holds that of such arguments Ways answers nothing but ErrArg, and what Fits says of them.
func refused(t *testing.T, what string, n api.Net, flow, pot []int64, from []int, fits bool) {
	t.Helper()
	if got := paths.Fits(n, flow, pot); got != fits {
		t.Errorf("P13.1: Fits: %s: %v, of %d nodes, %d edges %v, flow %v, pot %v", what, got, n.N, len(n.Edges), short(n.Edges), short(flow), short(pot))
	}
	if dist, by, e := paths.Ways(n, flow, pot, from); len(dist) != 0 || len(by) != 0 || e != api.ErrArg {
		t.Errorf("P13.2: Ways: %s: %v, %v, %v, of %d nodes, %d edges %v, flow %v, pot %v, from %v", what, dist, by, e, n.N, len(n.Edges), short(n.Edges), short(flow), short(pot), short(from))
	}
	held(t, what, n, flow, pot, from)
}

// raisedPot: pot and dist, and of nodes to which no way leads pot and the greatest dist.
func raisedPot(pot, dist []int64) []int64 {
	l := slices.Clone(pot)
	for node, d := range dist {
		if d < 0 {
			d = slices.Max(dist)
		}
		l[node] += d
	}
	return l
}

// raised holds the answers of Ways against what P13.3 says of them, and goes all ways back.
func raised(t *testing.T, what string, n api.Net, flow, pot []int64, from []int, dist []int64, by []int) {
	t.Helper()
	bad := func(of string, number int) {
		t.Helper()
		t.Errorf("P13.3: %s: %s %d, of %v, flow %v, pot %v, from %v: %v, %v", what, of, number, n, flow, pot, from, dist, by)
	}
	arcs, more := modelArcs(n, flow, pot), raisedPot(pot, dist)
	behind := modelArcs(n, flow, more)
	for number, a := range behind {
		if a.room && a.length.Sign() < 0 {
			bad("a length below 0 of arc", number)
		}
	}
	within := slices.Max(more) <= 1<<40 && slices.Min(more) >= -1<<40
	if paths.Fits(n, flow, more) != within {
		bad("Fits behind it, so many nodes", n.N)
	}
	for node, number := range by {
		if (number < 0) != (dist[node] <= 0 && (dist[node] < 0 || slices.Contains(from, node))) {
			bad("-1 or not, by of node", node)
			return
		}
		if number >= 0 && (!arcs[number].room || arcs[number].to != node || behind[number].length.Sign() != 0) {
			bad("by of node", node)
		}
	}
	for node := range by {
		sum, at := new(big.Int), node
		for range n.N {
			if by[at] < 0 {
				break
			}
			sum.Add(sum, arcs[by[at]].length)
			at = arcs[by[at]].from
		}
		if dist[node] >= 0 && (!slices.Contains(from, at) || !sum.IsInt64() || sum.Int64() != dist[node]) {
			bad("the way back from node", node)
		}
	}
}
