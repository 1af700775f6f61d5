package tests

import (
	"math"
	"slices"
	"testing"

	"loop.example/g00075/impl"
)

// tracks gives edges of length 1 and limit 1 between the nodes, two by two.
func tracks(ends ...int) []impl.Edge {
	var edges []impl.Edge
	for i := 0; i+1 < len(ends); i += 2 {
		edges = append(edges, impl.Edge{A: ends[i], B: ends[i+1], Len: 1, Limit: 1})
	}
	return edges
}

// someNet throws a right net; lengths in 1 .. longest, so that a small longest makes many ways as long.
func someNet(d *dice, nodes, edges, longest int) impl.Net {
	n := impl.Net{Nodes: nodes}
	for range edges {
		a := d.below(nodes)
		b := (a + 1 + d.below(nodes-1)) % nodes
		n.Edges = append(n.Edges, impl.Edge{A: a, B: b, Len: 1 + d.below(longest), Limit: 1 + d.below(90)})
	}
	return n
}

func ring(nodes int) impl.Net {
	n := impl.Net{Nodes: nodes}
	for a := range nodes {
		n.Edges = append(n.Edges, impl.Edge{A: a, B: (a + 1) % nodes, Len: impl.MaxLen, Limit: 90})
	}
	return n
}

func rightNets() []impl.Net {
	full := ring(impl.MaxNodes)
	full.Edges = append(full.Edges, ring(impl.MaxNodes).Edges...)
	return []impl.Net{
		{Nodes: 1},
		{Nodes: 1, Edges: []impl.Edge{}},
		{Nodes: 2},
		{Nodes: 2, Edges: tracks(0, 1)},
		{Nodes: 2, Edges: tracks(1, 0)},
		{Nodes: 2, Edges: tracks(0, 1, 0, 1, 1, 0)},
		{Nodes: 2, Edges: []impl.Edge{{A: 0, B: 1, Len: impl.MaxLen, Limit: 90}}},
		{Nodes: impl.MaxNodes},
		{Nodes: impl.MaxNodes, Edges: tracks(0, impl.MaxNodes-1)},
		ring(impl.MaxNodes),
		full,
		{Nodes: 6, Edges: tracks(0, 1, 1, 2, 4, 3)},
		{Nodes: 5, Edges: tracks(3, 4, 4, 1, 1, 3, 0, 2)},
	}
}

func wrongNets() map[string]impl.Net {
	long := ring(impl.MaxNodes)
	long.Edges = append(long.Edges, ring(impl.MaxNodes).Edges...)
	long.Edges = append(long.Edges, tracks(0, 1)...)
	one := func(a, b, length, limit int) impl.Net {
		return impl.Net{Nodes: 3, Edges: append(tracks(0, 1), impl.Edge{A: a, B: b, Len: length, Limit: limit})}
	}
	return map[string]impl.Net{
		"no node":                {},
		"no node, but an edge":   {Edges: tracks(0, 1)},
		"nodes below 0":          {Nodes: -1},
		"the least nodes":        {Nodes: math.MinInt, Edges: tracks(0, 1)},
		"one node too many":      {Nodes: impl.MaxNodes + 1, Edges: tracks(0, 1)},
		"the most nodes":         {Nodes: math.MaxInt, Edges: tracks(0, 1)},
		"one edge too many":      long,
		"an edge of one node":    one(1, 1, 1, 1),
		"a first edge of one":    {Nodes: 3, Edges: tracks(2, 2, 0, 1)},
		"A below 0":              one(-1, 1, 1, 1),
		"B below 0":              one(1, -1, 1, 1),
		"A beyond the nodes":     one(3, 1, 1, 1),
		"B beyond the nodes":     one(1, 3, 1, 1),
		"A far below":            one(math.MinInt, 1, 1, 1),
		"B far beyond":           one(1, math.MaxInt, 1, 1),
		"an edge, but one node":  {Nodes: 1, Edges: tracks(0, 1)},
		"a length of 0":          one(1, 2, 0, 1),
		"a length below 0":       one(1, 2, -1, 1),
		"a length too great":     one(1, 2, impl.MaxLen+1, 1),
		"a length far too great": one(1, 2, math.MaxInt, 1),
		"a limit of 0":           one(1, 2, 1, 0),
		"a limit below 0":        one(1, 2, 1, -1),
		"a limit of 91":          one(1, 2, 1, 91),
		"the greatest limit":     one(1, 2, 1, math.MaxInt),
	}
}

func copyNet(n impl.Net) impl.Net {
	n.Edges = slices.Clone(n.Edges)
	return n
}

func sameNet(a, b impl.Net) bool {
	return a.Nodes == b.Nodes && slices.Equal(a.Edges, b.Edges)
}

// manyNets are the right nets, and thrown ones, sparse and dense, small and as great as they may be.
func manyNets(state uint64) []impl.Net {
	nets := rightNets()
	d := &dice{state: state}
	for i := range 60 {
		nodes := 2 + d.below(7)
		nets = append(nets, someNet(d, nodes, d.below(2*nodes), []int{1, 2, 3, 10}[i%4]))
	}
	for i := range 12 {
		nets = append(nets, someNet(d, impl.MaxNodes, impl.MaxEdges-d.below(45), []int{1, 3, impl.MaxLen}[i%3]))
	}
	return append(nets, someNet(d, impl.MaxNodes, impl.MaxEdges, 2), someNet(d, 3, impl.MaxEdges, 2))
}

func TestNetOk(t *testing.T) {
	for _, n := range manyNets(20) {
		if !impl.NetOk(n) {
			t.Errorf("%v is right", n)
		}
	}
	for name, n := range wrongNets() {
		if impl.NetOk(n) {
			t.Errorf("%s: %v is wrong", name, n)
		}
	}
}

func TestWrongNetsGetTheFixedAnswers(t *testing.T) {
	for name, n := range wrongNets() {
		bad := panicsIn(func() {
			for _, from := range []int{math.MinInt, -1, 0, 1, 2, math.MaxInt} {
				for _, way := range [][]int{nil, {0}, {1}, {-1}} {
					if end, ok := impl.Walk(n, from, way); end != 0 || ok {
						t.Errorf("%s: Walk(%d, %v) is %d, %v", name, from, way, end, ok)
					}
					if l := impl.WayLen(n, from, way); l != -1 {
						t.Errorf("%s: WayLen(%d, %v) is %d", name, from, way, l)
					}
				}
				for _, to := range []int{from, 0, 1} {
					if way, l := impl.Shortest(n, from, to); len(way) != 0 || l != -1 {
						t.Errorf("%s: Shortest(%d, %d) is %v, %d", name, from, to, way, l)
					}
				}
				if r := impl.Reached(n, from); len(r) != 0 {
					t.Errorf("%s: Reached(%d) is %v", name, from, r)
				}
				if c := impl.Cut(n, from); !sameNet(c, impl.Net{}) {
					t.Errorf("%s: Cut(%d) is %v", name, from, c)
				}
			}
			if p, b := impl.Parts(n), impl.Bridges(n); len(p) != 0 || len(b) != 0 {
				t.Errorf("%s: Parts and Bridges are %v and %v", name, p, b)
			}
		})
		if bad {
			t.Errorf("%s: panics", name)
		}
	}
}

func TestNodesThatAreNone(t *testing.T) {
	n := impl.Net{Nodes: 3, Edges: tracks(0, 1, 1, 2)}
	for _, node := range []int{math.MinInt, -1, 3, 4, math.MaxInt} {
		if end, ok := impl.Walk(n, node, nil); end != 0 || ok || impl.WayLen(n, node, nil) != -1 {
			t.Error("a walk of nothing from", node)
		}
		for _, pair := range [][2]int{{node, 1}, {1, node}, {node, node}} {
			if way, l := impl.Shortest(n, pair[0], pair[1]); len(way) != 0 || l != -1 {
				t.Error("a way between", pair, way, l)
			}
		}
		if r := impl.Reached(n, node); len(r) != 0 {
			t.Error("reached from", node, r)
		}
	}
}

// walkByWords walks by the words of the document; n and from must be right.
func walkByWords(n impl.Net, from int, way []int) (end, length int, ok bool) {
	if len(way) > impl.MaxWay {
		return 0, -1, false
	}
	for _, place := range way {
		if place < 0 || place >= len(n.Edges) {
			return 0, -1, false
		}
		e := n.Edges[place]
		if e.A != from && e.B != from {
			return 0, -1, false
		}
		from, length = e.A+e.B-from, length+e.Len
	}
	return from, length, true
}

func checkWalk(t *testing.T, n impl.Net, from int, way []int) {
	t.Helper()
	n0, way0 := copyNet(n), slices.Clone(way)
	end, length, ok := walkByWords(n, from, way)
	if gotEnd, gotOk := impl.Walk(n, from, way); gotEnd != end || gotOk != ok {
		t.Fatalf("Walk(%v, %d, %v) is %d, %v, wanted %d, %v", n, from, way, gotEnd, gotOk, end, ok)
	}
	if got := impl.WayLen(n, from, way); got != length {
		t.Fatalf("WayLen(%v, %d, %v) is %d, wanted %d", n, from, way, got, length)
	}
	if !sameNet(n, n0) || !slices.Equal(way, way0) {
		t.Fatalf("a walk wrote into an argument")
	}
}

// someWay throws a way that can be walked from a node, as far as there are edges.
func someWay(d *dice, n impl.Net, from, steps int) []int {
	var way []int
	for range steps {
		var here []int
		for place, e := range n.Edges {
			if e.A == from || e.B == from {
				here = append(here, place)
			}
		}
		if len(here) == 0 {
			break
		}
		place := here[d.below(len(here))]
		way, from = append(way, place), n.Edges[place].A+n.Edges[place].B-from
	}
	return way
}

func TestWalks(t *testing.T) {
	d := &dice{state: 21}
	for _, n := range manyNets(21) {
		for from := range n.Nodes {
			checkWalk(t, n, from, nil)
			way := someWay(d, n, from, d.below(impl.MaxWay+3))
			checkWalk(t, n, from, way)
			for _, wrong := range []int{-1, len(n.Edges), math.MinInt, math.MaxInt, d.below(len(n.Edges) + 1)} {
				spoilt := append(slices.Clone(way), 0)
				spoilt[d.below(len(spoilt))] = wrong
				checkWalk(t, n, from, spoilt)
			}
		}
	}
}

func TestWalkByHand(t *testing.T) {
	n := impl.Net{Nodes: 4, Edges: []impl.Edge{{A: 2, B: 0, Len: 7, Limit: 1}, {A: 2, B: 1, Len: 11, Limit: 1}, {A: 1, B: 2, Len: 13, Limit: 1}, {A: 3, B: 1, Len: 17, Limit: 1}}}
	for _, c := range []struct {
		from   int
		way    []int
		end    int
		length int
	}{
		{0, nil, 0, 0}, {3, []int{}, 3, 0}, {0, []int{0}, 2, 7}, {2, []int{0}, 0, 7}, {0, []int{0, 1, 3}, 3, 35}, {0, []int{0, 2, 3}, 3, 37},
		{0, []int{0, 0, 0}, 2, 21}, {2, []int{1, 2, 1, 2}, 2, 48}, {3, []int{3, 2, 0}, 0, 37},
	} {
		if end, ok := impl.Walk(n, c.from, c.way); end != c.end || !ok || impl.WayLen(n, c.from, c.way) != c.length {
			t.Errorf("Walk(%d, %v) is %d, %v, WayLen %d", c.from, c.way, end, ok, impl.WayLen(n, c.from, c.way))
		}
	}
	for _, way := range [][]int{{1}, {3}, {0, 3}, {0, 1, 0}, {0, -1}, {0, 4}, {4}, {0, 1, 3, 1}} {
		if end, ok := impl.Walk(n, 0, way); end != 0 || ok || impl.WayLen(n, 0, way) != -1 {
			t.Errorf("Walk(0, %v) is %d, %v", way, end, ok)
		}
	}
}

func TestAWayOfMaxWayPlacesAndOneMore(t *testing.T) {
	n := impl.Net{Nodes: 2, Edges: []impl.Edge{{A: 0, B: 1, Len: impl.MaxLen, Limit: 1}}}
	way := make([]int, impl.MaxWay)
	if end, ok := impl.Walk(n, 1, way); end != 1 || !ok || impl.WayLen(n, 1, way) != impl.MaxWay*impl.MaxLen {
		t.Error("as many as may be", end, ok)
	}
	way = append(way, 0)
	if end, ok := impl.Walk(n, 1, way); end != 0 || ok || impl.WayLen(n, 1, way) != -1 {
		t.Error("one more", end, ok)
	}
}

// cost is what Shortest compares ahead of the lists.
type cost struct{ length, edges int }

func (c cost) less(o cost) bool {
	return c.length < o.length || c.length == o.length && c.edges < o.edges
}

var noWay = cost{math.MaxInt / 2, 0}

// costsTo gives for each node the cost of the best way to one: every edge is tried as often as there are nodes.
func costsTo(n impl.Net, to int) []cost {
	costs := slices.Repeat([]cost{noWay}, n.Nodes)
	costs[to] = cost{}
	for range n.Nodes {
		for _, e := range n.Edges {
			for _, ends := range [][2]int{{e.A, e.B}, {e.B, e.A}} {
				if by := (cost{costs[ends[1]].length + e.Len, costs[ends[1]].edges + 1}); by.less(costs[ends[0]]) {
					costs[ends[0]] = by
				}
			}
		}
	}
	return costs
}

// firstWay goes along the edge of the least place with which the cost is still met, again and again.
func firstWay(n impl.Net, from, to int, costs []cost) ([]int, int) {
	if !costs[from].less(noWay) {
		return nil, -1
	}
	length := costs[from].length
	var way []int
	for from != to {
		for place, e := range n.Edges {
			if e.A != from && e.B != from {
				continue
			}
			other := e.A + e.B - from
			if (cost{costs[other].length + e.Len, costs[other].edges + 1}) == costs[from] {
				way, from = append(way, place), other
				break
			}
		}
	}
	return way, length
}

func TestShortestIsTheFirstOfTheBest(t *testing.T) {
	none, ties := 0, 0
	for _, n := range manyNets(22) {
		n0 := copyNet(n)
		for to := range n.Nodes {
			costs := costsTo(n, to)
			for from := range n.Nodes {
				want, length := firstWay(n, from, to, costs)
				way, got := impl.Shortest(n, from, to)
				if got != length || !slices.Equal(way, want) {
					t.Fatalf("Shortest(%v, %d, %d) is %v, %d, wanted %v, %d", n, from, to, way, got, want, length)
				}
				if length < 0 {
					none++
				}
				back, _ := impl.Shortest(n, to, from)
				if slices.Reverse(back); !slices.Equal(way, back) {
					ties++
				}
			}
		}
		if !sameNet(n, n0) {
			t.Fatal("Shortest wrote into the net")
		}
	}
	if none == 0 || ties == 0 {
		t.Error("the throws must show nodes without a way and ways as good", none, ties)
	}
}

// eachWay calls f with every way from a node that comes to no node twice, and with the node at its end.
func eachWay(n impl.Net, from int, f func(way []int, end, length int)) {
	seen := make([]bool, n.Nodes)
	var way []int
	var go1 func(at, length int)
	go1 = func(at, length int) {
		seen[at] = true
		f(way, at, length)
		for place, e := range n.Edges {
			if e.A != at && e.B != at || seen[e.A+e.B-at] {
				continue
			}
			way = append(way, place)
			go1(e.A+e.B-at, length+e.Len)
			way = way[:len(way)-1]
		}
		seen[at] = false
	}
	go1(from, 0)
}

func TestShortestAmongAllWays(t *testing.T) {
	d := &dice{state: 23}
	for i := range 150 {
		nodes := 2 + d.below(5)
		n := someNet(d, nodes, d.below(11), 1+i%4)
		for from := range n.Nodes {
			best := map[int][]int{}
			least := map[int]int{}
			eachWay(n, from, func(way []int, end, length int) {
				old, ok := least[end]
				better := !ok || length < old
				if ok && length == old {
					better = len(way) < len(best[end]) || len(way) == len(best[end]) && slices.Compare(way, best[end]) < 0
				}
				if better {
					least[end], best[end] = length, slices.Clone(way)
				}
			})
			for to := range n.Nodes {
				length, ok := least[to]
				if !ok {
					length = -1
				}
				if way, got := impl.Shortest(n, from, to); got != length || !slices.Equal(way, best[to]) {
					t.Fatalf("Shortest(%v, %d, %d) is %v, %d, wanted %v, %d", n, from, to, way, got, best[to], length)
				}
			}
		}
	}
}

func TestShortestByHand(t *testing.T) {
	edge := func(a, b, length int) impl.Edge { return impl.Edge{A: a, B: b, Len: length, Limit: 5} }
	for name, c := range map[string]struct {
		n        impl.Net
		from, to int
		way      []int
		length   int
	}{
		"to itself":                    {impl.Net{Nodes: 2, Edges: tracks(0, 1)}, 1, 1, nil, 0},
		"the only node":                {impl.Net{Nodes: 1}, 0, 0, nil, 0},
		"no way":                       {impl.Net{Nodes: 3, Edges: tracks(0, 1)}, 0, 2, nil, -1},
		"of two edges the shorter":     {impl.Net{Nodes: 2, Edges: []impl.Edge{edge(0, 1, 9), edge(1, 0, 8)}}, 0, 1, []int{1}, 8},
		"of two edges the first":       {impl.Net{Nodes: 2, Edges: []impl.Edge{edge(0, 1, 9), edge(1, 0, 9)}}, 1, 0, []int{0}, 9},
		"round is shorter":             {impl.Net{Nodes: 3, Edges: []impl.Edge{edge(0, 2, 9), edge(0, 1, 4), edge(1, 2, 4)}}, 0, 2, []int{1, 2}, 8},
		"as long, but fewer":           {impl.Net{Nodes: 4, Edges: []impl.Edge{edge(0, 1, 1), edge(1, 2, 1), edge(2, 3, 1), edge(0, 3, 3)}}, 0, 3, []int{3}, 3},
		"fewer, but longer":            {impl.Net{Nodes: 4, Edges: []impl.Edge{edge(0, 1, 1), edge(1, 2, 1), edge(2, 3, 1), edge(0, 3, 4)}}, 0, 3, []int{0, 1, 2}, 3},
		"as many: the first place":     {impl.Net{Nodes: 4, Edges: []impl.Edge{edge(2, 3, 1), edge(1, 3, 2), edge(0, 1, 1), edge(0, 2, 2)}}, 0, 3, []int{2, 1}, 3},
		"as many, the other way round": {impl.Net{Nodes: 4, Edges: []impl.Edge{edge(2, 3, 1), edge(1, 3, 2), edge(0, 1, 1), edge(0, 2, 2)}}, 3, 0, []int{0, 3}, 3},
		"as many: the last place":      {impl.Net{Nodes: 3, Edges: []impl.Edge{edge(0, 1, 5), edge(2, 1, 5), edge(1, 2, 5)}}, 0, 2, []int{0, 1}, 10},
		"half round the ring":          {ring(4), 0, 2, []int{0, 1}, 2 * impl.MaxLen},
		"the longest of all":           {impl.Cut(ring(impl.MaxNodes), impl.MaxNodes-1), 0, impl.MaxNodes - 1, numbers(0, impl.MaxNodes-2), (impl.MaxNodes - 1) * impl.MaxLen},
	} {
		if way, length := impl.Shortest(c.n, c.from, c.to); !slices.Equal(way, c.way) || length != c.length {
			t.Errorf("%s: %v, %d, wanted %v, %d", name, way, length, c.way, c.length)
		}
	}
}

func TestTheShortestWayKeepsItsPromises(t *testing.T) {
	for _, n := range manyNets(24) {
		far := make([][]int, n.Nodes)
		for from := range n.Nodes {
			for to := range n.Nodes {
				way, length := impl.Shortest(n, from, to)
				far[from] = append(far[from], length)
				if length < 0 {
					continue
				}
				if end, ok := impl.Walk(n, from, way); !ok || end != to || impl.WayLen(n, from, way) != length {
					t.Fatalf("Shortest(%v, %d, %d): %v is not walked to its end", n, from, to, way)
				}
			}
		}
		for from := range n.Nodes {
			for to := range n.Nodes {
				if far[from][to] != far[to][from] {
					t.Fatalf("%v: the way back from %d to %d is not as long", n, to, from)
				}
				for by := range n.Nodes {
					if far[from][by] >= 0 && far[by][to] >= 0 && (far[from][to] < 0 || far[from][by]+far[by][to] < far[from][to]) {
						t.Fatalf("%v: from %d to %d it is shorter by %d", n, from, to, by)
					}
				}
			}
		}
	}
}

// joined says for all nodes whether one reaches the other, by going round each third node.
func joined(n impl.Net) [][]bool {
	can := make([][]bool, n.Nodes)
	for a := range can {
		can[a] = make([]bool, n.Nodes)
		can[a][a] = true
	}
	for _, e := range n.Edges {
		can[e.A][e.B], can[e.B][e.A] = true, true
	}
	for by := range can {
		for a := range can {
			for b := range can {
				can[a][b] = can[a][b] || can[a][by] && can[by][b]
			}
		}
	}
	return can
}

func without(n impl.Net, place int) impl.Net {
	left := impl.Net{Nodes: n.Nodes}
	for i, e := range n.Edges {
		if i != place {
			left.Edges = append(left.Edges, e)
		}
	}
	return left
}

func TestPartsAndBridgesByWords(t *testing.T) {
	bridges, others := 0, 0
	for _, n := range manyNets(25) {
		n0 := copyNet(n)
		can := joined(n)
		var parts, cuts []int
		for a := range can {
			var all []int
			for b := range can {
				if can[a][b] {
					all = append(all, b)
				}
			}
			if got := impl.Reached(n, a); !slices.Equal(got, all) {
				t.Fatalf("Reached(%v, %d) is %v, wanted %v", n, a, got, all)
			}
			parts = append(parts, all[0])
		}
		for place, e := range n.Edges {
			left := without(n, place)
			if got := impl.Cut(n, place); !sameNet(got, left) {
				t.Fatalf("Cut(%v, %d) is %v", n, place, got)
			}
			if !joined(left)[e.A][e.B] {
				cuts = append(cuts, place)
			}
		}
		if got := impl.Parts(n); !slices.Equal(got, parts) {
			t.Fatalf("Parts(%v) is %v, wanted %v", n, got, parts)
		}
		if got := impl.Bridges(n); !slices.Equal(got, cuts) {
			t.Fatalf("Bridges(%v) is %v, wanted %v", n, got, cuts)
		}
		bridges, others = bridges+len(cuts), others+len(n.Edges)-len(cuts)
		if !sameNet(n, n0) {
			t.Fatal("the net was written into")
		}
	}
	if bridges == 0 || others == 0 {
		t.Error("the throws must show both kinds of edges", bridges, others)
	}
}

func TestPartsAndBridgesHangTogether(t *testing.T) {
	for _, n := range manyNets(26) {
		parts, bridges := impl.Parts(n), impl.Bridges(n)
		for a := range n.Nodes {
			for b := range n.Nodes {
				if slices.Contains(impl.Reached(n, a), b) != (parts[a] == parts[b]) {
					t.Fatalf("%v: nodes %d and %d", n, a, b)
				}
			}
		}
		for place, e := range n.Edges {
			cut := impl.Cut(n, place)
			left := impl.Parts(cut)
			if slices.Contains(bridges, place) != (left[e.A] != left[e.B]) {
				t.Fatalf("%v: edge %d", n, place)
			}
			if way, _ := impl.Shortest(n, e.A, e.B); slices.Contains(bridges, place) && !slices.Contains(way, place) {
				t.Fatalf("%v: bridge %d is not on the way between its ends", n, place)
			}
		}
	}
}

func TestPartsAndBridgesByHand(t *testing.T) {
	// A triangle, joined by one edge with a double track, and two nodes apart, and one alone.
	n := impl.Net{Nodes: 8, Edges: tracks(2, 1, 5, 1, 2, 5, 5, 0, 0, 3, 3, 0, 7, 4)}
	if got := impl.Parts(n); !slices.Equal(got, []int{0, 0, 0, 0, 4, 0, 6, 4}) {
		t.Error("parts", got)
	}
	if got := impl.Bridges(n); !slices.Equal(got, []int{3, 6}) {
		t.Error("bridges", got)
	}
	if got := impl.Reached(n, 3); !slices.Equal(got, []int{0, 1, 2, 3, 5}) {
		t.Error("reached", got)
	}
	if got := impl.Reached(n, 6); !slices.Equal(got, []int{6}) {
		t.Error("reached from the one alone", got)
	}
	// Without one of the two tracks the other is a bridge.
	if got := impl.Bridges(impl.Cut(n, 5)); !slices.Equal(got, []int{3, 4, 5}) {
		t.Error("bridges of one track", got)
	}
	if got := impl.Parts(impl.Net{Nodes: 1}); !slices.Equal(got, []int{0}) || len(impl.Bridges(impl.Net{Nodes: 1})) != 0 {
		t.Error("one node", got)
	}
}

func TestCutAtTheEnds(t *testing.T) {
	n := impl.Net{Nodes: 3, Edges: []impl.Edge{{A: 0, B: 1, Len: 1, Limit: 2}, {A: 1, B: 2, Len: 3, Limit: 4}, {A: 2, B: 0, Len: 5, Limit: 6}}}
	for e, want := range [][]impl.Edge{{n.Edges[1], n.Edges[2]}, {n.Edges[0], n.Edges[2]}, {n.Edges[0], n.Edges[1]}} {
		if c := impl.Cut(n, e); c.Nodes != 3 || !slices.Equal(c.Edges, want) {
			t.Error("cut", e, c)
		}
	}
	for _, e := range []int{math.MinInt, -1, 3, 4, math.MaxInt} {
		if c := impl.Cut(n, e); !sameNet(c, impl.Net{}) {
			t.Error("cut", e, c)
		}
	}
	if c := impl.Cut(impl.Net{Nodes: 1}, 0); !sameNet(c, impl.Net{}) {
		t.Error("cut where there is none", c)
	}
	if c := impl.Cut(impl.Net{Nodes: 2, Edges: tracks(0, 1)}, 0); !sameNet(c, impl.Net{Nodes: 2}) {
		t.Error("cut the only one", c)
	}
}

func TestACutNetIsNewMemory(t *testing.T) {
	for e := range 4 {
		n := ring(4)
		n.Edges = slices.Grow(n.Edges, 10)
		c := impl.Cut(n, e)
		for i := range c.Edges {
			c.Edges[i].Len = 7
		}
		_ = append(c.Edges, impl.Edge{Len: 7})
		if !sameNet(n, ring(4)) {
			t.Error("the cut net shares memory with the net", e)
		}
	}
}
