package road_test

import (
	"math"
	"math/rand"
	"slices"
	"testing"

	"bikeshare/api"
	"bikeshare/road"
)

// example is the network of the chapter's examples.
func example() api.Road {
	return api.Road{Nodes: 4, Edges: []api.Edge{{From: 0, To: 1, Secs: 5}, {From: 1, To: 2, Secs: 5}, {From: 0, To: 2, Secs: 10}, {From: 0, To: 1, Secs: 5}}}
}

// P8.2, P8.3, P8.4: the examples.
func TestExamples(t *testing.T) {
	if l, e := road.Times(example(), 0); e != api.OK || !slices.Equal(l, []int{0, 5, 10, -1}) {
		t.Error("Times from 0:", l, e)
	}
	if w, e := road.Way(example(), 0, 2); e != api.OK || !slices.Equal(w, []int{2}) {
		t.Error("Way from 0 to 2:", w, e)
	}
	if w, e := road.Way(example(), 0, 1); e != api.OK || !slices.Equal(w, []int{0}) {
		t.Error("Way from 0 to 1:", w, e)
	}
	table, e := road.Table(example(), []int{2, 0})
	if e != api.OK || !slices.EqualFunc(table, [][]int{{0, -1}, {10, 0}}, slices.Equal) {
		t.Error("Table of 2, 0:", table, e)
	}
}

// P8.2, P8.4, P8.6, P8.7: in all networks of up to three nodes and three edges of 1 or 2 seconds, Times and Way are the best among all ways of up to five edges.
func TestAllSmallNetworks(t *testing.T) {
	for nodes := 1; nodes <= 3; nodes++ {
		for edges := 0; edges <= 3; edges++ {
			networks(nodes, edges, func(r api.Road) {
				for from := range nodes {
					checkFrom(t, r, from, allBest(r, from, 5))
				}
			})
		}
	}
}

// P8.2, P8.4, P8.6, P8.7: in random networks of few nodes, Times and Way are the best among all ways that are no longer than a way without a node that it visits twice.
func TestFewNodes(t *testing.T) {
	g := rand.New(rand.NewSource(81))
	for range 4000 {
		r := random(g, 5, 10, 1+g.Intn(4))
		for from := range r.Nodes {
			checkFrom(t, r, from, allBest(r, from, r.Nodes))
		}
	}
}

// P8.2, P8.4, P8.6, P8.7: in random networks of all sizes, with few and with many different times.
func TestRandomNetworks(t *testing.T) {
	randoms(82, 1500, func(g *rand.Rand, r api.Road) {
		from := g.Intn(r.Nodes)
		checkFrom(t, r, from, grownBest(r, from))
	})
}

// P8.2, P8.4: the longest way there is: each node once, each edge of MaxSecs.
func TestChain(t *testing.T) {
	r := api.Road{Nodes: api.MaxNodes}
	for i := range api.MaxNodes - 1 {
		r.Edges = append(r.Edges, api.Edge{From: i, To: i + 1, Secs: api.MaxSecs})
	}
	for _, from := range []int{0, 1, api.MaxNodes - 2, api.MaxNodes - 1} {
		checkFrom(t, r, from, grownBest(r, from))
	}
	if l, _ := road.Times(r, 0); l[api.MaxNodes-1] != (api.MaxNodes-1)*api.MaxSecs {
		t.Error("the time of the chain:", l)
	}
	r.Edges = append(r.Edges, api.Edge{From: api.MaxNodes - 1, To: 0, Secs: api.MaxSecs})
	slices.Reverse(r.Edges)
	checkFrom(t, r, 5, grownBest(r, 5))
}

// P8.4: as many edges as there can be with the same ends, of which the first of the fastest is taken; an edge from a node to itself never is.
func TestParallelEdges(t *testing.T) {
	r := api.Road{Nodes: 2, Edges: slices.Repeat([]api.Edge{{From: 1, To: 0, Secs: 7}}, api.MaxArcs)}
	for _, fast := range []int{0, 1, 300, api.MaxArcs - 1} {
		r.Edges[fast].Secs = 6
		r.Edges[api.MaxArcs-1].Secs = 6
		if w, e := road.Way(r, 1, 0); e != api.OK || !slices.Equal(w, []int{fast}) {
			t.Error("with the fast edge", fast, "the way is", w, e)
		}
		r.Edges[fast].Secs = 7
	}
	loops := api.Road{Nodes: 2, Edges: slices.Repeat([]api.Edge{{From: 1, To: 1, Secs: 1}}, 10)}
	if w, e := road.Way(loops, 1, 1); e != api.OK || len(w) != 0 {
		t.Error("the way from 1 to 1:", w, e)
	}
	checkFrom(t, loops, 1, best{1: {}})
	checkFrom(t, loops, 0, best{0: {}})
}

// P8.4, P8.7: of ways that are as fast, the one with the fewest edges; the least index at the first place decides, not a later one and not the sum.
func TestTies(t *testing.T) {
	for _, x := range []struct {
		name  string
		nodes int
		edges []api.Edge
		way   []int
	}{
		{"fewer edges with greater indices", 3, []api.Edge{{From: 0, To: 1, Secs: 3}, {From: 1, To: 2, Secs: 3}, {From: 0, To: 2, Secs: 6}}, []int{2}},
		{"faster with more edges", 3, []api.Edge{{From: 0, To: 2, Secs: 7}, {From: 0, To: 1, Secs: 3}, {From: 1, To: 2, Secs: 3}}, []int{1, 2}},
		{"the first place decides", 4, []api.Edge{{From: 0, To: 1, Secs: 1}, {From: 2, To: 3, Secs: 1}, {From: 0, To: 2, Secs: 1}, {From: 1, To: 3, Secs: 1}}, []int{0, 3}},
		{"different times of the edges", 4, []api.Edge{{From: 2, To: 3, Secs: 1}, {From: 0, To: 1, Secs: 9}, {From: 0, To: 2, Secs: 10}, {From: 1, To: 3, Secs: 2}}, []int{1, 3}},
		{"the second place decides", 3, []api.Edge{{From: 1, To: 2, Secs: 2}, {From: 1, To: 2, Secs: 1}, {From: 1, To: 2, Secs: 1}, {From: 0, To: 1, Secs: 1}}, []int{3, 1}},
	} {
		if w, e := road.Way(api.Road{Nodes: x.nodes, Edges: x.edges}, 0, x.nodes-1); e != api.OK || !slices.Equal(w, x.way) {
			t.Error(x.name, ":", w, e)
		}
	}
}

// P8.2, P8.3, P8.4: ErrNone for what is no node, before ErrReach; ErrFull before ErrNone.
func TestNoNode(t *testing.T) {
	for _, no := range []int{-1, 4, 5, api.MaxNodes, math.MinInt, math.MaxInt} {
		if l, e := road.Times(example(), no); e != api.ErrNone || len(l) > 0 {
			t.Error("Times from", no, ":", l, e)
		}
		for _, ends := range [][2]int{{0, no}, {no, 0}, {3, no}, {no, 3}, {no, no}} {
			if w, e := road.Way(example(), ends[0], ends[1]); e != api.ErrNone || len(w) > 0 {
				t.Error("Way of", ends, ":", w, e)
			}
		}
		for at := range 3 {
			nodes := []int{0, 1, 3}
			nodes[at] = no
			if l, e := road.Table(example(), nodes); e != api.ErrNone || len(l) > 0 {
				t.Error("Table of", nodes, ":", l, e)
			}
		}
		full := append(make([]int, api.MaxNodes), no)
		if l, e := road.Table(example(), full); e != api.ErrFull || len(l) > 0 {
			t.Error("Table of too many nodes with", no, ":", l, e)
		}
		if l, e := road.Table(example(), full[1:]); e != api.ErrNone || len(l) > 0 {
			t.Error("Table of MaxNodes nodes with", no, ":", l, e)
		}
	}
}

// P8.3: nodes in any sequence, and several times; up to MaxNodes of them, also in a network of fewer.
func TestTable(t *testing.T) {
	randoms(83, 300, func(g *rand.Rand, r api.Road) {
		nodes := make([]int, g.Intn(12))
		for i := range nodes {
			nodes[i] = g.Intn(r.Nodes)
		}
		checkTable(t, r, nodes)
		checkTable(t, r, g.Perm(r.Nodes))
	})
	checkTable(t, example(), nil)
	checkTable(t, example(), []int{3})
	checkTable(t, example(), slices.Repeat([]int{2, 0, 1, 2}, api.MaxNodes/4))
	for _, n := range []int{api.MaxNodes + 1, 1000} {
		if l, e := road.Table(example(), make([]int, n)); e != api.ErrFull || len(l) > 0 {
			t.Error("Table of", n, "nodes:", l, e)
		}
	}
}

// P8.5: the triangle, and each edge.
func TestTriangle(t *testing.T) {
	randoms(85, 200, func(g *rand.Rand, r api.Road) {
		nodes := make([]int, r.Nodes)
		for i := range nodes {
			nodes[i] = i
		}
		table, _ := road.Table(r, nodes)
		for _, e := range r.Edges {
			if time := table[e.From][e.To]; time < 0 || time > e.Secs {
				t.Fatalf("%v takes %d", e, time)
			}
		}
		for range 2000 {
			a, b, c := g.Intn(r.Nodes), g.Intn(r.Nodes), g.Intn(r.Nodes)
			if table[a][b] >= 0 && table[b][c] >= 0 && (table[a][c] < 0 || table[a][c] > table[a][b]+table[b][c]) {
				t.Fatalf("%d, %d and %d in %v", table[a][b], table[b][c], table[a][c], table)
			}
		}
	})
}

// P8.6: Way is a way, as fast as Times says, and ErrReach where Times has -1; the time of a node to itself is 0.
func TestAttained(t *testing.T) {
	randoms(86, 300, func(g *rand.Rand, r api.Road) {
		from := g.Intn(r.Nodes)
		times, _ := road.Times(r, from)
		if times[from] != 0 {
			t.Fatalf("from %d to itself: %d", from, times[from])
		}
		for to, want := range times {
			way, e := road.Way(r, from, to)
			if (e == api.ErrReach) != (want == -1) {
				t.Fatalf("Way from %d to %d: %d, time %d", from, to, e, want)
			}
			if time, ok := timeOf(r, way, from, to); e == api.OK && (!ok || time != want) {
				t.Fatalf("Way from %d to %d of %v: %v, time %d, not %d", from, to, r, way, time, want)
			}
		}
	})
}

// P8.8: with a further edge, at any index, no time is greater and no node is lost.
func TestMoreRoads(t *testing.T) {
	randoms(88, 300, func(g *rand.Rand, r api.Road) {
		if len(r.Edges) == api.MaxArcs {
			return
		}
		from := g.Intn(r.Nodes)
		before, _ := road.Times(r, from)
		e := api.Edge{From: g.Intn(r.Nodes), To: g.Intn(r.Nodes), Secs: 1 + g.Intn(api.MaxSecs)}
		more := api.Road{Nodes: r.Nodes, Edges: slices.Insert(slices.Clone(r.Edges), g.Intn(len(r.Edges)+1), e)}
		after, _ := road.Times(more, from)
		for node := range before {
			if before[node] >= 0 && (after[node] < 0 || after[node] > before[node]) {
				t.Fatalf("with %v in %v: %d instead of %d", e, r, after[node], before[node])
			}
		}
	})
}

// DOC.md, Memory and "depends only on its arguments": arguments are not changed, results share no memory, and a call that is repeated returns the same.
func TestMemory(t *testing.T) {
	randoms(89, 100, func(g *rand.Rand, r api.Road) {
		r.Edges = append(r.Edges, api.Edge{From: -5, To: -6, Secs: -7})
		all := slices.Clone(r.Edges)
		full := r.Edges
		r.Edges = r.Edges[:len(r.Edges)-1]
		nodes := append(g.Perm(r.Nodes), r.Nodes/2, -9)
		wantNodes := slices.Clone(nodes)
		from, to := g.Intn(r.Nodes), g.Intn(r.Nodes)
		if r.Nodes == api.MaxNodes {
			nodes, wantNodes = nodes[3:], wantNodes[3:]
		}
		call := func() (api.Errno, []int, [][]int, []int) {
			times, _ := road.Times(r, from)
			table, _ := road.Table(r, nodes[:len(nodes)-1])
			way, _ := road.Way(r, from, to)
			return road.Check(r), times, table, way
		}
		_, times, table, way := call()
		wantTable := make([][]int, len(table))
		for i := range table {
			wantTable[i] = slices.Clone(table[i])
		}
		wantTimes, wantWay := slices.Clone(times), slices.Clone(way)
		for _, l := range append(table, times, way) {
			l = l[:cap(l)]
			for i := range l {
				l[i] = -99
			}
		}
		if !slices.Equal(full, all) || !slices.Equal(nodes, wantNodes) {
			t.Fatal("an argument was changed")
		}
		_, times, table, way = call()
		if !slices.Equal(times, wantTimes) || !slices.Equal(way, wantWay) || !slices.EqualFunc(table, wantTable, slices.Equal) {
			t.Fatal("the same call returns something else")
		}
	})
	table, _ := road.Table(example(), []int{0, 1, 2, 0})
	for i := range table {
		l := table[i][:cap(table[i])]
		for j := range l {
			l[j] = i
		}
	}
	for i := range table {
		if slices.Min(table[i]) != i || slices.Max(table[i]) != i {
			t.Error("lists of a table share memory:", table)
		}
	}
}
