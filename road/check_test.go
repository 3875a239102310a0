package road_test

import (
	"math"
	"slices"
	"testing"

	"bikeshare/api"
	"bikeshare/road"
)

// calls are the functions of the package as one that takes a network and nodes that are there, with whether there is any result beside the error.
var calls = map[string]func(r api.Road, node int) (bool, api.Errno){
	"Check": func(r api.Road, node int) (bool, api.Errno) {
		return false, road.Check(r)
	},
	"Times": func(r api.Road, node int) (bool, api.Errno) {
		l, e := road.Times(r, node)
		return len(l) > 0, e
	},
	"Table": func(r api.Road, node int) (bool, api.Errno) {
		l, e := road.Table(r, []int{node})
		return len(l) > 0, e
	},
	"Way": func(r api.Road, node int) (bool, api.Errno) {
		l, e := road.Way(r, node, node)
		return len(l) > 0, e
	},
}

// checked tests the error of Check, and that every function returns it before an error of its own.
func checked(t *testing.T, r api.Road, want api.Errno) {
	t.Helper()
	for name, call := range calls {
		for _, node := range []int{0, -1, math.MaxInt} {
			result, e := call(r, node)
			if want == api.OK && name != "Check" && node != 0 {
				if e != api.ErrNone || result {
					t.Errorf("%s of %d nodes, %d edges at %d: %t, %d", name, r.Nodes, len(r.Edges), node, result, e)
				}
				continue
			}
			if e != want {
				t.Errorf("%s of %d nodes, %d edges at %d: %d, not %d", name, r.Nodes, len(r.Edges), node, e, want)
			}
			if e != api.OK && result {
				t.Errorf("%s of %d nodes, %d edges: a result together with %d", name, r.Nodes, len(r.Edges), e)
			}
		}
	}
}

func manyEdges(n int) []api.Edge {
	return slices.Repeat([]api.Edge{{From: 0, To: 0, Secs: 1}}, n)
}

// P8.1: the number of nodes is from 1 to MaxNodes.
func TestCheckNodes(t *testing.T) {
	for _, n := range []int{1, 2, api.MaxNodes - 1, api.MaxNodes} {
		checked(t, api.Road{Nodes: n}, api.OK)
		checked(t, api.Road{Nodes: n, Edges: []api.Edge{{From: 0, To: n - 1, Secs: 1}, {From: n - 1, To: 0, Secs: 1}}}, api.OK)
	}
	for _, n := range []int{0, -1, api.MaxNodes + 1, api.MaxArcs, math.MinInt, math.MaxInt} {
		checked(t, api.Road{Nodes: n}, api.ErrRange)
	}
}

// P8.1: there are at most MaxArcs edges; ErrRange for the nodes comes before ErrFull, and ErrFull before the errors of edges.
func TestCheckEdges(t *testing.T) {
	for _, n := range []int{0, 1, api.MaxNodes + 1, api.MaxArcs - 1, api.MaxArcs} {
		checked(t, api.Road{Nodes: 1, Edges: manyEdges(n)}, api.OK)
	}
	for _, n := range []int{api.MaxArcs + 1, 2 * api.MaxArcs, 100000} {
		checked(t, api.Road{Nodes: 1, Edges: manyEdges(n)}, api.ErrFull)
		checked(t, api.Road{Nodes: 0, Edges: manyEdges(n)}, api.ErrRange)
		checked(t, api.Road{Nodes: api.MaxNodes + 1, Edges: manyEdges(n)}, api.ErrRange)
		for _, bad := range []api.Edge{{From: -1, To: 0, Secs: 1}, {From: 0, To: 0, Secs: 0}} {
			edges := manyEdges(n)
			edges[0] = bad
			checked(t, api.Road{Nodes: 1, Edges: edges}, api.ErrFull)
		}
	}
}

// edgeError returns the error of an edge in the words of P8.1.
func edgeError(nodes int, e api.Edge) api.Errno {
	switch {
	case e.From < 0 || e.From >= nodes || e.To < 0 || e.To >= nodes:
		return api.ErrNone
	case e.Secs < 1 || e.Secs > api.MaxSecs:
		return api.ErrRange
	}
	return api.OK
}

// P8.1: an edge leads from a node to a node in 1 to MaxSecs seconds; ErrNone comes before ErrRange.
func TestCheckEdge(t *testing.T) {
	for _, nodes := range []int{1, 3, api.MaxNodes} {
		ends := []int{0, nodes / 2, nodes - 1, nodes, nodes + 1, -1, math.MinInt, math.MaxInt}
		for _, from := range ends {
			for _, to := range ends {
				for _, secs := range []int{1, 2, api.MaxSecs, 0, -1, api.MaxSecs + 1, math.MinInt, math.MaxInt} {
					edge := api.Edge{From: from, To: to, Secs: secs}
					checked(t, api.Road{Nodes: nodes, Edges: []api.Edge{edge}}, edgeError(nodes, edge))
				}
			}
		}
	}
}

// P8.1: the first edge with an error decides, wherever it is.
func TestCheckFirstEdge(t *testing.T) {
	kinds := []api.Edge{{From: 0, To: 1, Secs: 1}, {From: 2, To: 0, Secs: 1}, {From: 0, To: -1, Secs: 1}, {From: 1, To: 0, Secs: 0}, {From: 1, To: 2, Secs: 0}}
	for k := range 5 * 5 * 5 {
		edges := []api.Edge{kinds[k%5], kinds[k/5%5], kinds[k/25]}
		want := api.OK
		for i := 0; i < 3 && want == api.OK; i++ {
			want = edgeError(2, edges[i])
		}
		checked(t, api.Road{Nodes: 2, Edges: edges}, want)
	}
	for _, at := range []int{0, 1, api.MaxArcs / 2, api.MaxArcs - 1} {
		edges := manyEdges(api.MaxArcs)
		edges[at].To = 1
		checked(t, api.Road{Nodes: 1, Edges: edges}, api.ErrNone)
		edges[at] = api.Edge{Secs: api.MaxSecs + 1}
		checked(t, api.Road{Nodes: 1, Edges: edges}, api.ErrRange)
	}
}
