package road_test

import (
	"cmp"
	"math/rand"
	"slices"
	"testing"

	"bikeshare/api"
	"bikeshare/road"
)

// timeOf returns the travel time of a list of edges, and whether it is a way from one node to another, in the words of the chapter.
func timeOf(r api.Road, way []int, from, to int) (int, bool) {
	time, at := 0, from
	for _, i := range way {
		if i < 0 || i >= len(r.Edges) || r.Edges[i].From != at {
			return 0, false
		}
		time += r.Edges[i].Secs
		at = r.Edges[i].To
	}
	return time, at == to
}

// candidate is a way with its travel time.
type candidate struct {
	time  int
	edges []int
}

// compare is the order of P8.4: by time, then by the number of edges, then by the edges.
func compare(a, b candidate) int {
	return cmp.Or(cmp.Compare(a.time, b.time), cmp.Compare(len(a.edges), len(b.edges)), slices.Compare(a.edges, b.edges))
}

// best has a way to each node that there is a way to, by the node.
type best map[int]candidate

// allBest returns the best way from a node to each node among all the ways of at most so many edges, which it visits one by one.
func allBest(r api.Road, from, most int) best {
	found := best{}
	var visit func(c candidate, at int)
	visit = func(c candidate, at int) {
		if old, ok := found[at]; !ok || compare(c, old) < 0 {
			found[at] = candidate{c.time, slices.Clone(c.edges)}
		}
		if len(c.edges) == most {
			return
		}
		for i, e := range r.Edges {
			if e.From == at {
				visit(candidate{c.time + e.Secs, append(slices.Clip(c.edges), i)}, e.To)
			}
		}
	}
	visit(candidate{}, from)
	return found
}

// grownBest returns the best way from a node to each node: as long as an edge makes the best way to its beginning a better way to its end than the one that is known, it is taken.
func grownBest(r api.Road, from int) best {
	found := best{from: {}}
	for changed := true; changed; {
		changed = false
		for i, e := range r.Edges {
			before, ok := found[e.From]
			if !ok {
				continue
			}
			c := candidate{before.time + e.Secs, append(slices.Clip(before.edges), i)}
			if old, ok := found[e.To]; !ok || compare(c, old) < 0 {
				found[e.To] = c
				changed = true
			}
		}
	}
	return found
}

// checkFrom compares Times and Way from a node with the best ways from it.
func checkFrom(t *testing.T, r api.Road, from int, want best) {
	t.Helper()
	times, e := road.Times(r, from)
	if e != api.OK || len(times) != r.Nodes {
		t.Fatalf("Times of %v from %d: %v, %d", r, from, times, e)
	}
	for to := range r.Nodes {
		way, e := road.Way(r, from, to)
		c, ok := want[to]
		if !ok {
			if times[to] != -1 || e != api.ErrReach || len(way) > 0 {
				t.Fatalf("%v has no way from %d to %d, but the time %d and the way %v, %d", r, from, to, times[to], way, e)
			}
			continue
		}
		if times[to] != c.time || e != api.OK || !slices.Equal(way, c.edges) {
			t.Fatalf("from %d to %d of %v: time %d and way %v, %d, not %d and %v", from, to, r, times[to], way, e, c.time, c.edges)
		}
	}
}

// checkTable compares Table of all nodes, in a sequence of their own, with Times.
func checkTable(t *testing.T, r api.Road, nodes []int) {
	t.Helper()
	table, e := road.Table(r, nodes)
	if e != api.OK || len(table) != len(nodes) {
		t.Fatalf("Table of %v for %v: %v, %d", r, nodes, table, e)
	}
	for i, from := range nodes {
		times, _ := road.Times(r, from)
		if len(table[i]) != len(nodes) {
			t.Fatalf("Table of %v for %v has the list %v", r, nodes, table[i])
		}
		for j, to := range nodes {
			if table[i][j] != times[to] {
				t.Fatalf("Table of %v for %v has %d from %d to %d, not %d", r, nodes, table[i][j], from, to, times[to])
			}
		}
	}
}

// networks calls f with all networks of so many nodes and edges whose edges take 1 or 2 seconds. The network is good until the next call only.
func networks(nodes, edges int, f func(r api.Road)) {
	r := api.Road{Nodes: nodes, Edges: make([]api.Edge, edges)}
	var set func(i int)
	set = func(i int) {
		if i == edges {
			f(r)
			return
		}
		for kind := range nodes * nodes * 2 {
			r.Edges[i] = api.Edge{From: kind / 2 % nodes, To: kind / 2 / nodes, Secs: kind%2 + 1}
			set(i + 1)
		}
	}
	set(0)
}

// random returns a network with at most so many edges. Few different times make many ways that are as fast as others.
func random(g *rand.Rand, nodes, edges, secs int) api.Road {
	r := api.Road{Nodes: 1 + g.Intn(nodes)}
	for range g.Intn(edges + 1) {
		r.Edges = append(r.Edges, api.Edge{From: g.Intn(r.Nodes), To: g.Intn(r.Nodes), Secs: 1 + g.Intn(secs)})
	}
	return r
}

// randoms calls f with many networks, small and large, with few and with many different times.
func randoms(seed int64, count int, f func(g *rand.Rand, r api.Road)) {
	g := rand.New(rand.NewSource(seed))
	for i := range count {
		nodes, edges := 8, 24
		if i%4 == 0 {
			nodes, edges = api.MaxNodes, api.MaxArcs
		}
		f(g, random(g, nodes, edges, []int{1, 2, 5, api.MaxSecs}[g.Intn(4)]))
	}
}
