package tests

import (
	"math"
	"slices"
	"strconv"
	"testing"

	"loop.example/g00075/impl"
)

func use(edge, dir, from, to, trip int) impl.Use {
	return impl.Use{Edge: edge, Dir: dir, From: from, To: to, Trip: trip}
}

// hop goes from one node to another without a wait.
func hop(name string, from, to, dep, arr int) impl.Trip {
	return tripOf(name, at(from, dep, dep), at(to, arr, arr))
}

// oneTrack has a single edge, from node 0 to node 1.
func oneTrack() impl.Net {
	return impl.Net{Nodes: 2, Edges: tracks(0, 1)}
}

func useByWords(u impl.Use) bool {
	if max(0, min(59, u.Edge)) != u.Edge || max(0, min(23, u.Trip)) != u.Trip || u.Dir*u.Dir != u.Dir {
		return false
	}
	return minuteByWords(u.From) && minuteByWords(u.To) && u.From != u.To && min(u.From, u.To) == u.From
}

// meetByWords takes the lesser of the headways at the two ends, whoever is ahead.
func meetByWords(a, b impl.Use, head int) bool {
	if !useByWords(a) || !useByWords(b) || head < 0 || head > 60 || a.Edge != b.Edge {
		return false
	}
	if a.Dir == b.Dir {
		byA := min(b.From-a.From, b.To-a.To)
		byB := min(a.From-b.From, a.To-b.To)
		return max(byA, byB) < head
	}
	return min(a.To, b.To)-max(a.From, b.From) > 0
}

func firstMeetByWords(uses []impl.Use, head int) (int, int) {
	if len(uses) > 300 || head < 0 || head > 60 {
		return -1, -1
	}
	for i := range uses {
		for j := i + 1; j < len(uses); j++ {
			if uses[i].Trip != uses[j].Trip && meetByWords(uses[i], uses[j], head) {
				return i, j
			}
		}
	}
	return -1, -1
}

// usesByWords goes over the edges from the last to the first, so that the first is kept.
func usesByWords(n impl.Net, list []impl.Trip) ([]impl.Use, bool) {
	if !impl.NetOk(n) || !tableByWords(list) {
		return nil, false
	}
	var uses []impl.Use
	for place, t := range list {
		for k := 1; k < len(t.Calls); k++ {
			from, to := t.Calls[k-1], t.Calls[k]
			u := use(-1, 0, from.Dep, to.Arr, place)
			for e := len(n.Edges) - 1; e >= 0; e-- {
				if n.Edges[e].A == from.Node && n.Edges[e].B == to.Node {
					u.Edge, u.Dir = e, 0
				}
				if n.Edges[e].B == from.Node && n.Edges[e].A == to.Node {
					u.Edge, u.Dir = e, 1
				}
			}
			if u.Edge == -1 {
				return nil, false
			}
			uses = append(uses, u)
		}
	}
	return uses, true
}

func cleanByWords(n impl.Net, list []impl.Trip, head int) bool {
	uses, ok := usesByWords(n, list)
	if !ok || head < 0 || head > 60 {
		return false
	}
	i, j := firstMeetByWords(uses, head)
	return i == -1 && j == -1
}

func pushByWords(n impl.Net, done []impl.Trip, trip impl.Trip, head int) int {
	for by := 0; by <= 120; by++ {
		if cleanByWords(n, append(tableCopy(done), movedByWords(trip, by)), head) {
			return by
		}
	}
	return -1
}

func settledByWords(n impl.Net, list []impl.Trip, head int) ([]impl.Trip, []int) {
	var trips []impl.Trip
	var pushes []int
	for _, one := range list {
		by := pushByWords(n, trips, one, head)
		if by == -1 {
			return nil, nil
		}
		trips, pushes = append(trips, movedByWords(one, by)), append(pushes, by)
	}
	return trips, pushes
}

func checkMeet(t *testing.T, a, b impl.Use, head int) {
	t.Helper()
	if got, want := impl.Clash(a, b, head), meetByWords(a, b, head); got != want {
		t.Fatalf("Clash(%v, %v, %d): %v", a, b, head, got)
	}
}

func checkFirst(t *testing.T, uses []impl.Use, head int) {
	t.Helper()
	was := slices.Clone(uses)
	i, j := impl.FirstClash(uses, head)
	if wantI, wantJ := firstMeetByWords(uses, head); i != wantI || j != wantJ {
		t.Fatalf("FirstClash(%v, %d): %d %d, not %d %d", uses, head, i, j, wantI, wantJ)
	}
	if !slices.Equal(uses, was) {
		t.Fatalf("%v was %v", uses, was)
	}
}

func checkUses(t *testing.T, n impl.Net, list []impl.Trip) {
	t.Helper()
	net, was := copyNet(n), tableCopy(list)
	want, ok := usesByWords(n, list)
	if got := impl.Ridden(n, list); got != ok {
		t.Fatalf("Ridden(%v, %v): %v", n, list, got)
	}
	if got := impl.Uses(n, list); !slices.Equal(got, want) {
		t.Fatalf("Uses(%v, %v): %v, not %v", n, list, got, want)
	}
	if !sameNet(n, net) || !sameTable(list, was) {
		t.Fatalf("%v was %v, %v was %v", n, net, list, was)
	}
}

func checkSettled(t *testing.T, n impl.Net, list []impl.Trip, head int) {
	t.Helper()
	net, was := copyNet(n), tableCopy(list)
	trips, pushes := impl.Settle(n, list, head)
	wantTrips, wantPushes := settledByWords(n, list, head)
	if !sameTable(trips, wantTrips) || !slices.Equal(pushes, wantPushes) {
		t.Fatalf("Settle(%v, %v, %d): %v %v, not %v %v", n, list, head, trips, pushes, wantTrips, wantPushes)
	}
	if got := impl.Clean(n, list, head); got != cleanByWords(n, list, head) {
		t.Fatalf("Clean(%v, %v, %d): %v", n, list, head, got)
	}
	if !sameNet(n, net) || !sameTable(list, was) {
		t.Fatalf("%v was %v, %v was %v", n, net, list, was)
	}
}

func checkPush(t *testing.T, n impl.Net, done []impl.Trip, trip impl.Trip, head int) int {
	t.Helper()
	net, wereDone, was := copyNet(n), tableCopy(done), tripCopy(trip)
	got, want := impl.PushOf(n, done, trip, head), pushByWords(n, done, trip, head)
	if got != want {
		t.Fatalf("PushOf(%v, %v, %v, %d): %d, not %d", n, done, trip, head, got, want)
	}
	if !sameNet(n, net) || !sameTable(done, wereDone) || !sameTrip(trip, was) {
		t.Fatalf("%v was %v, %v was %v, %v was %v", n, net, done, wereDone, trip, was)
	}
	return got
}

// tripOn rides along edges of the net from a node that has one.
func tripOn(d *dice, n impl.Net, name string, start, most int) impl.Trip {
	e := n.Edges[d.below(len(n.Edges))]
	trip := impl.Trip{Name: name}
	clock, node := start, []int{e.A, e.B}[d.below(2)]
	for range 2 + d.below(4) {
		arr := clock
		clock += d.below(most)
		trip.Calls = append(trip.Calls, at(node, arr, clock))
		clock += 1 + d.below(most)
		var next []int
		for _, e := range n.Edges {
			if e.A == node {
				next = append(next, e.B)
			}
			if e.B == node {
				next = append(next, e.A)
			}
		}
		node = next[d.below(len(next))]
	}
	return trip
}

func tableOn(d *dice, n impl.Net, trips, span, most int) []impl.Trip {
	var list []impl.Trip
	for k := range trips {
		list = append(list, tripOn(d, n, "t"+strconv.Itoa(k), d.below(span), most))
	}
	return list
}

func TestClashConstants(t *testing.T) {
	if impl.MaxUses != 300 || impl.MaxHead != 60 || impl.MaxPush != 120 {
		t.Error(impl.MaxUses, impl.MaxHead, impl.MaxPush)
	}
}

func TestUseOk(t *testing.T) {
	edges := map[impl.Use]bool{
		use(0, 0, 0, 1, 0):                             true,
		use(impl.MaxEdges-1, 0, 0, 1, 0):               true,
		use(impl.MaxEdges, 0, 0, 1, 0):                 false,
		use(-1, 0, 0, 1, 0):                            false,
		use(0, 1, 0, 1, 0):                             true,
		use(0, 2, 0, 1, 0):                             false,
		use(0, -1, 0, 1, 0):                            false,
		use(0, 0, 0, impl.MaxMinute, 0):                true,
		use(0, 0, 0, impl.MaxMinute+1, 0):              false,
		use(0, 0, impl.MaxMinute-1, impl.MaxMinute, 0): true,
		use(0, 0, impl.MaxMinute, impl.MaxMinute, 0):   false,
		use(0, 0, impl.MaxMinute, impl.MaxMinute+1, 0): false,
		use(0, 0, -1, 1, 0):                            false,
		use(0, 0, 0, 0, 0):                             false,
		use(0, 0, 7, 7, 0):                             false,
		use(0, 0, 8, 7, 0):                             false,
		use(0, 0, 0, 1, impl.MaxTrips-1):               true,
		use(0, 0, 0, 1, impl.MaxTrips):                 false,
		use(0, 0, 0, 1, -1):                            false,
		{}:                                             false,
		use(math.MaxInt, 0, 0, 1, 0):                   false,
		use(math.MinInt, 0, 0, 1, 0):                   false,
		use(0, math.MaxInt, 0, 1, 0):                   false,
		use(0, math.MinInt, 0, 1, 0):                   false,
		use(0, 0, math.MinInt, math.MaxInt, 0):         false,
		use(0, 0, 0, math.MaxInt, 0):                   false,
		use(0, 0, math.MinInt, 1, 0):                   false,
		use(0, 0, 0, 1, math.MaxInt):                   false,
		use(0, 0, 0, 1, math.MinInt):                   false,
	}
	for u, want := range edges {
		if impl.UseOk(u) != want || useByWords(u) != want {
			t.Errorf("UseOk(%v): %v", u, !want)
		}
	}
	for _, edge := range []int{-1, 0, 1, 59, 60} {
		for dir := -1; dir <= 2; dir++ {
			for _, from := range []int{-1, 0, 1, 99999, 100000} {
				for _, to := range []int{-1, 0, 1, 2, 99999, 100000, 100001} {
					for _, trip := range []int{-1, 0, 23, 24} {
						if u := use(edge, dir, from, to, trip); impl.UseOk(u) != useByWords(u) {
							t.Errorf("UseOk(%v): %v", u, impl.UseOk(u))
						}
					}
				}
			}
		}
	}
}

func TestRidden(t *testing.T) {
	triangle := impl.Net{Nodes: 4, Edges: tracks(0, 1, 2, 1, 1, 0, 0, 2)}
	cases := map[string]struct {
		n    impl.Net
		list []impl.Trip
		want bool
	}{
		"no trip at all":                  {triangle, nil, true},
		"no trip and no edge":             {impl.Net{Nodes: 1}, []impl.Trip{}, true},
		"no trip and no net":              {impl.Net{}, nil, false},
		"along each edge":                 {triangle, []impl.Trip{tripOf("a", at(0, 0, 0), at(1, 1, 1), at(2, 2, 2), at(0, 3, 3))}, true},
		"against each edge":               {triangle, []impl.Trip{tripOf("a", at(0, 0, 0), at(2, 1, 1), at(1, 2, 2), at(0, 3, 3))}, true},
		"a node without an edge":          {triangle, []impl.Trip{hop("a", 0, 3, 0, 1)}, false},
		"a node without an edge first":    {triangle, []impl.Trip{hop("a", 3, 0, 0, 1)}, false},
		"a node that the net has not":     {triangle, []impl.Trip{hop("a", 0, 4, 0, 1)}, false},
		"no edge at the end":              {triangle, []impl.Trip{tripOf("a", at(0, 0, 0), at(1, 1, 1), at(3, 2, 2))}, false},
		"no edge in the middle":           {triangle, []impl.Trip{tripOf("a", at(0, 0, 0), at(3, 1, 1), at(0, 2, 2))}, false},
		"no edge in a later trip":         {triangle, []impl.Trip{hop("a", 0, 1, 0, 1), hop("b", 2, 3, 0, 1)}, false},
		"no edge in the first trip":       {triangle, []impl.Trip{hop("b", 2, 3, 0, 1), hop("a", 0, 1, 0, 1)}, false},
		"an edge only by a third node":    {impl.Net{Nodes: 3, Edges: tracks(0, 1, 1, 2)}, []impl.Trip{hop("a", 0, 2, 0, 1)}, false},
		"two trips with one name":         {triangle, []impl.Trip{hop("a", 0, 1, 0, 1), hop("a", 1, 0, 5, 6)}, false},
		"as many trips as there may be":   {oneTrack(), shuttles(24, 0, 12), true},
		"one trip more than there may be": {oneTrack(), shuttles(25, 0, 2), false},
	}
	for name, c := range cases {
		if got := impl.Ridden(c.n, c.list); got != c.want {
			t.Errorf("%s: %v", name, got)
		}
		checkUses(t, c.n, c.list)
	}
	for name, n := range wrongNets() {
		if impl.Ridden(n, nil) || impl.Ridden(n, []impl.Trip{hop("a", 0, 1, 0, 1)}) {
			t.Error(name)
		}
		checkUses(t, n, []impl.Trip{hop("a", 0, 1, 0, 1)})
	}
	for _, list := range wrongTables() {
		if impl.Ridden(oneTrack(), list) {
			t.Error(list)
		}
		checkUses(t, oneTrack(), list)
	}
}

func TestUsesByHand(t *testing.T) {
	// Edges 1 and 3 join the same nodes, and so do 0 and 2, the other way round.
	n := impl.Net{Nodes: 3, Edges: tracks(1, 0, 1, 2, 0, 1, 1, 2)}
	list := []impl.Trip{
		tripOf("a", at(0, 5, 7), at(1, 12, 12), at(2, 20, 29), at(1, 30, 40)),
		tripOf("b", at(2, 0, 0), at(1, 1, 3)),
	}
	want := []impl.Use{use(0, 1, 7, 12, 0), use(1, 0, 12, 20, 0), use(1, 1, 29, 30, 0), use(1, 1, 0, 1, 1)}
	if got := impl.Uses(n, list); !slices.Equal(got, want) {
		t.Error(got)
	}
	if got := impl.Uses(n, append(list, hop("c", 0, 2, 0, 9))); got != nil {
		t.Error("not ridden", got)
	}
	if got := impl.Uses(n, nil); len(got) != 0 {
		t.Error("no trip", got)
	}
	// The edge with the last place, and the last minute.
	full := impl.Net{Nodes: 3}
	for range impl.MaxEdges - 1 {
		full.Edges = append(full.Edges, tracks(0, 1)...)
	}
	full.Edges = append(full.Edges, tracks(2, 1)...)
	list = []impl.Trip{hop("a", 1, 2, 0, 100000), hop("b", 0, 1, 99999, 100000)}
	want = []impl.Use{use(59, 1, 0, 100000, 0), use(0, 0, 99999, 100000, 1)}
	if got := impl.Uses(full, list); !slices.Equal(got, want) {
		t.Error(got)
	}
	if got := impl.Uses(oneTrack(), shuttles(24, 0, 12)); len(got) != 24*11 || got[263] != use(0, 0, 21, 22, 23) {
		t.Error(len(got))
	}
}

func TestUsesThrown(t *testing.T) {
	d := &dice{state: 91}
	ridden := 0
	for _, n := range manyNets(92) {
		for range 4 {
			if len(n.Edges) > 0 {
				list := tableOn(d, n, d.below(5), 30, 6)
				if impl.Ridden(n, list) {
					ridden++
				}
				checkUses(t, n, list)
			}
			checkUses(t, n, someTable(d, 5, max(2, n.Nodes)))
		}
	}
	if ridden < 200 {
		t.Error("few were ridden", ridden)
	}
}

func TestClashOfDifferentDirs(t *testing.T) {
	a := use(3, 0, 10, 20, 0)
	cases := []struct {
		from, to int
		want     bool
	}{
		{20, 30, false}, {19, 30, true}, {0, 10, false}, {0, 11, true}, {10, 20, true}, {12, 15, true}, {0, 40, true},
		{19, 20, true}, {10, 11, true}, {9, 10, false}, {20, 21, false}, {21, 25, false}, {0, 9, false},
	}
	for _, c := range cases {
		// The head is for those that follow each other; those that meet need none.
		for _, head := range []int{0, 1, 5, impl.MaxHead} {
			b := use(3, 1, c.from, c.to, 1)
			if impl.Clash(a, b, head) != c.want || impl.Clash(b, a, head) != c.want {
				t.Error(c, head)
			}
			b.Edge = 4
			if impl.Clash(a, b, head) || impl.Clash(b, a, head) {
				t.Error("of two edges", c, head)
			}
		}
	}
}

func TestClashOfTheSameDir(t *testing.T) {
	cases := []struct {
		from, to, head int
		want           bool
	}{
		{15, 25, 5, false}, {15, 25, 6, true}, {15, 25, 4, false},
		{14, 25, 5, true}, {15, 24, 5, true}, {14, 26, 5, true}, {16, 24, 5, true}, {14, 24, 5, true}, {16, 26, 5, false},
		{5, 15, 5, false}, {6, 15, 5, true}, {5, 16, 5, true}, {4, 16, 5, true}, {5, 14, 5, false},
		// Overtaken, both ways.
		{11, 19, 0, true}, {9, 21, 0, true}, {11, 20, 0, false}, {10, 21, 0, false}, {9, 20, 0, false},
		// At the very minutes: with no head there is nothing between them to keep.
		{10, 20, 0, false}, {10, 20, 1, true},
		// Apart, but not far enough.
		{20, 30, 10, false}, {20, 30, 11, true}, {20, 100, 11, true}, {70, 80, 60, false}, {69, 80, 60, true}, {70, 79, 60, true},
	}
	for _, c := range cases {
		for dir := range 2 {
			a, b := use(3, dir, 10, 20, 0), use(3, dir, c.from, c.to, 1)
			if impl.Clash(a, b, c.head) != c.want || impl.Clash(b, a, c.head) != c.want {
				t.Error(c, dir)
			}
			b.Edge = 2
			if impl.Clash(a, b, c.head) || impl.Clash(b, a, c.head) {
				t.Error("of two edges", c, dir)
			}
		}
	}
}

func TestClashRefuses(t *testing.T) {
	a, b := use(0, 0, 10, 20, 0), use(0, 1, 10, 20, 1)
	for head, want := range map[int]bool{-1: false, 0: true, 60: true, 61: false, math.MaxInt: false, math.MinInt: false} {
		if impl.Clash(a, b, head) != want {
			t.Error("head", head)
		}
	}
	follower := use(0, 0, 12, 22, 1)
	for head, want := range map[int]bool{-1: false, 2: false, 3: true, 60: true, 61: false, math.MaxInt: false} {
		if impl.Clash(a, follower, head) != want {
			t.Error("head", head)
		}
	}
	wrong := []impl.Use{
		use(0, 2, 10, 20, 1), use(0, -1, 10, 20, 1), use(0, 0, 20, 20, 1), use(0, 0, 21, 20, 1), use(0, 0, -1, 20, 1),
		use(0, 0, 10, 100001, 1), use(0, 1, 10, 20, -1), use(0, 1, 10, 20, 24), use(0, 1, math.MinInt, math.MaxInt, 0),
		use(0, 1, math.MaxInt, math.MinInt, 0), use(-1, 1, 10, 20, 1), use(60, 1, 10, 20, 1), {},
	}
	for _, u := range wrong {
		for _, v := range []impl.Use{a, b, u, use(u.Edge, 0, 10, 20, 0), use(u.Edge, 1, 10, 20, 0)} {
			for _, head := range []int{0, 5, 60} {
				if impl.Clash(u, v, head) || impl.Clash(v, u, head) {
					t.Error(u, v, head)
				}
			}
		}
	}
	// Clash itself asks for no other Trip.
	if !impl.Clash(a, use(0, 1, 10, 20, 0), 0) || !impl.Clash(a, a, 1) || impl.Clash(a, a, 0) {
		t.Error("of one trip")
	}
}

func TestClashOfEverySmallPair(t *testing.T) {
	var uses []impl.Use
	for edge := range 2 {
		for dir := range 2 {
			for from := range 6 {
				for to := from + 1; to < 7; to++ {
					uses = append(uses, use(edge, dir, from, to, 0))
				}
			}
		}
	}
	for _, a := range uses {
		for _, b := range uses {
			for head := -1; head <= 7; head++ {
				checkMeet(t, a, b, head)
			}
		}
	}
}

func TestFirstClashByHand(t *testing.T) {
	a := use(0, 0, 10, 20, 0)
	cases := map[string]struct {
		uses []impl.Use
		head int
		i, j int
	}{
		"none":                         {nil, 0, -1, -1},
		"one":                          {[]impl.Use{a}, 60, -1, -1},
		"two that meet":                {[]impl.Use{a, use(0, 1, 19, 29, 1)}, 0, 0, 1},
		"two that just do not meet":    {[]impl.Use{a, use(0, 1, 20, 29, 1)}, 60, -1, -1},
		"of two edges":                 {[]impl.Use{a, use(1, 1, 10, 20, 1)}, 60, -1, -1},
		"of one trip":                  {[]impl.Use{a, use(0, 1, 10, 20, 0), use(0, 0, 11, 21, 0)}, 60, -1, -1},
		"of one trip, then of another": {[]impl.Use{a, use(0, 1, 10, 20, 0), use(0, 1, 15, 25, 1)}, 0, 0, 2},
		"the least j":                  {[]impl.Use{a, use(0, 1, 15, 30, 2), use(0, 1, 12, 30, 1), use(0, 1, 9, 30, 3)}, 0, 0, 1},
		"the least i":                  {[]impl.Use{use(9, 0, 0, 9, 0), a, use(5, 0, 0, 9, 1), use(5, 1, 0, 9, 2), use(0, 1, 15, 16, 4)}, 0, 1, 4},
		"the least i on a later edge":  {[]impl.Use{use(9, 0, 50, 59, 0), a, use(0, 1, 0, 16, 4), use(9, 1, 50, 51, 2)}, 0, 0, 3},
		"i is later by the clock":      {[]impl.Use{use(0, 0, 50, 60, 0), use(0, 1, 10, 20, 1), use(0, 0, 10, 20, 2), use(0, 1, 55, 56, 3)}, 0, 0, 3},
		"j is earlier by the clock":    {[]impl.Use{use(0, 0, 50, 60, 0), use(0, 1, 40, 51, 1)}, 0, 0, 1},
		"two that are alike":           {[]impl.Use{a, use(0, 0, 10, 20, 1), use(0, 0, 10, 20, 2)}, 1, 0, 1},
		"two that are alike, no head":  {[]impl.Use{a, use(0, 0, 10, 20, 1), use(0, 0, 10, 20, 2)}, 0, -1, -1},
		"one that overtakes":           {[]impl.Use{a, use(0, 0, 11, 19, 1)}, 0, 0, 1},
		"one far ahead that is long":   {[]impl.Use{use(0, 0, 0, 90000, 0), use(0, 1, 1, 2, 0), use(0, 0, 80000, 80001, 1)}, 0, 0, 2},
		"behind the head at one end":   {[]impl.Use{a, use(0, 0, 15, 24, 1)}, 5, 0, 1},
		"behind the head at both":      {[]impl.Use{a, use(0, 0, 15, 25, 1)}, 5, -1, -1},
		"behind it when it is gone":    {[]impl.Use{a, use(0, 0, 21, 40, 1)}, 12, 0, 1},
		"wrong ones clash with none":   {[]impl.Use{a, use(0, 1, 10, 20, 24), use(0, 1, 20, 10, 1), use(0, 2, 10, 20, 2), use(0, 1, 19, 20, 3)}, 0, 0, 4},
		"an edge that is none":         {[]impl.Use{use(60, 0, 10, 20, 0), use(60, 1, 10, 20, 1), use(-1, 0, 10, 20, 0), use(-1, 1, 10, 20, 1)}, 0, -1, -1},
	}
	for name, c := range cases {
		if i, j := impl.FirstClash(c.uses, c.head); i != c.i || j != c.j {
			t.Errorf("%s: %d %d, not %d %d", name, i, j, c.i, c.j)
		}
		checkFirst(t, c.uses, c.head)
	}
}

func TestFirstClashAtItsLimits(t *testing.T) {
	// One train behind the other, as many as there may be: only the last two meet.
	var uses []impl.Use
	for k := range impl.MaxUses {
		uses = append(uses, use(k%3, 0, 10*k, 10*k+10, k%impl.MaxTrips))
	}
	checkFirst(t, uses, 10)
	if i, j := impl.FirstClash(uses, 10); i != -1 || j != -1 {
		t.Error("apart", i, j)
	}
	last := impl.MaxUses - 1
	uses[last] = use(uses[last-1].Edge, 1, uses[last-1].From, uses[last-1].To, 9)
	if i, j := impl.FirstClash(uses, 10); i != last-1 || j != last {
		t.Error("the last two", i, j)
	}
	for head, want := range map[int]int{-1: -1, 0: last - 1, 61: -1, math.MaxInt: -1, math.MinInt: -1} {
		if i, _ := impl.FirstClash(uses, head); i != want {
			t.Error("head", head, i)
		}
	}
	uses = append(uses, use(0, 0, 0, 1, 0))
	if i, j := impl.FirstClash(uses, 10); i != -1 || j != -1 {
		t.Error("one use more", i, j)
	}
	uses[1] = use(uses[0].Edge, 1, uses[0].From, uses[0].To, 5)
	if i, j := impl.FirstClash(uses, 0); i != -1 || j != -1 {
		t.Error("one use more, the first two meet", i, j)
	}
	if i, j := impl.FirstClash(uses[:impl.MaxUses], 60); i != 0 || j != 1 {
		t.Error("MaxUses uses", i, j)
	}
	heads := []impl.Use{use(0, 0, 10, 20, 0), use(0, 0, 69, 79, 1)}
	if i, j := impl.FirstClash(heads, impl.MaxHead); i != 0 || j != 1 {
		t.Error("MaxHead", i, j)
	}
	if i, j := impl.FirstClash(heads, impl.MaxHead+1); i != -1 || j != -1 {
		t.Error("beyond MaxHead", i, j)
	}
}

func TestFirstClashOfEverySmallList(t *testing.T) {
	var choices []impl.Use
	for _, times := range [][2]int{{0, 1}, {0, 3}, {1, 2}, {2, 4}} {
		for dir := range 2 {
			choices = append(choices, use(0, dir, times[0], times[1], 0), use(0, dir, times[0], times[1], 1))
		}
	}
	choices = append(choices, use(1, 0, 0, 3, 2), use(1, 1, 2, 4, 0), use(0, 0, 2, 2, 3))
	manyLists(4, choices, func(uses []impl.Use) {
		for _, head := range []int{0, 2} {
			i, j := impl.FirstClash(uses, head)
			if wantI, wantJ := firstMeetByWords(uses, head); i != wantI || j != wantJ {
				t.Fatalf("FirstClash(%v, %d): %d %d, not %d %d", uses, head, i, j, wantI, wantJ)
			}
		}
	})
}

func TestFirstClashThrown(t *testing.T) {
	d := &dice{state: 93}
	for round := range 3000 {
		var uses []impl.Use
		span := []int{8, 60, 400, 5000}[round%4]
		edges := 1 + d.below(6)
		for range d.below(40) {
			from := d.below(span)
			uses = append(uses, use(d.below(edges), d.below(2), from, from+1+d.below(1+span/8), d.below(24)))
			if d.below(20) == 0 {
				last := &uses[len(uses)-1]
				last.To = last.From - d.below(2)
			}
		}
		checkFirst(t, uses, []int{0, 1, 3, 10, 60}[d.below(5)])
	}
}

func TestClean(t *testing.T) {
	n := impl.Net{Nodes: 3, Edges: tracks(0, 1, 2, 1)}
	a, b := hop("a", 0, 1, 10, 20), hop("b", 0, 1, 15, 25)
	cases := map[string]struct {
		list []impl.Trip
		head int
		want bool
	}{
		"nothing":                   {nil, 0, true},
		"nothing, MaxHead":          {nil, 60, true},
		"nothing, beyond MaxHead":   {nil, 61, false},
		"nothing, a head below 0":   {nil, -1, false},
		"one":                       {[]impl.Trip{a}, 60, true},
		"one, beyond MaxHead":       {[]impl.Trip{a}, 61, false},
		"one, a head below 0":       {[]impl.Trip{a}, -1, false},
		"one that follows":          {[]impl.Trip{a, b}, 5, true},
		"one that follows at first": {[]impl.Trip{b, a}, 5, true},
		"one that follows too soon": {[]impl.Trip{a, b}, 6, false},
		"the last edge clashes":     {[]impl.Trip{tripOf("a", at(0, 10, 10), at(1, 20, 20), at(2, 30, 30)), hop("b", 2, 1, 29, 40)}, 0, false},
		"it comes and one leaves":   {[]impl.Trip{tripOf("a", at(0, 10, 10), at(1, 20, 20), at(2, 30, 30)), hop("b", 2, 1, 30, 40)}, 60, true},
		"it waits, one comes":       {[]impl.Trip{tripOf("a", at(0, 10, 10), at(1, 20, 30), at(2, 40, 40)), hop("b", 2, 1, 20, 30)}, 60, true},
		"a trip to and fro":         {[]impl.Trip{shuttle("a", 0, 12)}, 60, true},
		"no edge":                   {[]impl.Trip{a, hop("b", 0, 2, 500, 600)}, 0, false},
		"two with one name":         {[]impl.Trip{a, hop("a", 0, 1, 500, 600)}, 0, false},
		"a trip that is none":       {[]impl.Trip{a, {}}, 0, false},
	}
	for name, c := range cases {
		if got := impl.Clean(n, c.list, c.head); got != c.want || cleanByWords(n, c.list, c.head) != c.want {
			t.Errorf("%s: %v", name, got)
		}
		checkSettled(t, n, c.list, c.head)
	}
	for name, wrong := range wrongNets() {
		for _, list := range [][]impl.Trip{nil, {hop("a", 0, 1, 0, 5)}} {
			if impl.Clean(wrong, list, 0) {
				t.Error(name)
			}
			checkSettled(t, wrong, list, 0)
		}
	}
	for _, list := range wrongTables() {
		if impl.Clean(oneTrack(), list, 0) {
			t.Error(list)
		}
		checkSettled(t, oneTrack(), list, 0)
	}
}

func TestPushOfByHand(t *testing.T) {
	n := impl.Net{Nodes: 4, Edges: tracks(0, 1, 1, 2)}
	a := hop("a", 0, 1, 10, 20)
	full := impl.Clockface(hop("c", 0, 1, 0, 1), 1, 24)
	cases := map[string]struct {
		done []impl.Trip
		trip impl.Trip
		head int
		want int
	}{
		"nothing is done":               {nil, hop("b", 0, 1, 0, 5), 60, 0},
		"nothing is in the way":         {[]impl.Trip{a}, hop("b", 1, 2, 10, 20), 60, 0},
		"it meets one":                  {[]impl.Trip{a}, hop("b", 1, 0, 15, 25), 0, 5},
		"it meets one by a minute":      {[]impl.Trip{a}, hop("b", 1, 0, 19, 25), 60, 1},
		"it leaves as one comes":        {[]impl.Trip{a}, hop("b", 1, 0, 20, 25), 60, 0},
		"it follows by the first end":   {[]impl.Trip{a}, hop("b", 0, 1, 12, 22), 5, 3},
		"it follows by the second end":  {[]impl.Trip{a}, hop("b", 0, 1, 16, 22), 5, 3},
		"it goes ahead of one":          {[]impl.Trip{a}, hop("b", 0, 1, 5, 15), 5, 0},
		"it is too slow to go ahead":    {[]impl.Trip{a}, hop("b", 0, 1, 5, 16), 5, 10},
		"a gap that it fits into":       {[]impl.Trip{a, hop("d", 0, 1, 40, 50)}, hop("b", 1, 0, 5, 15), 0, 15},
		"a gap that is too small":       {[]impl.Trip{a, hop("d", 0, 1, 40, 50)}, hop("b", 1, 0, 5, 26), 0, 45},
		"the second part is in the way": {[]impl.Trip{hop("d", 2, 1, 20, 30)}, tripOf("b", at(0, 0, 0), at(1, 9, 9), at(2, 21, 21)), 0, 21},
		"MaxPush is enough":             {[]impl.Trip{hop("d", 0, 1, 0, 120)}, hop("b", 1, 0, 0, 1), 0, 120},
		"one more than MaxPush":         {[]impl.Trip{hop("d", 0, 1, 0, 121)}, hop("b", 1, 0, 0, 1), 0, -1},
		"pushed to the last minute":     {[]impl.Trip{hop("d", 0, 1, 99900, 99990)}, hop("b", 1, 0, 99980, 99990), 0, 10},
		"pushed beyond the minutes":     {[]impl.Trip{hop("d", 0, 1, 99900, 99991)}, hop("b", 1, 0, 99980, 99990), 0, -1},
		"a name that is there":          {[]impl.Trip{a}, hop("a", 1, 2, 50, 60), 0, -1},
		"a timetable with room for one": {full[:23], hop("b", 1, 2, 0, 1), 0, 0},
		"a timetable that is full":      {full, hop("b", 1, 2, 0, 1), 0, -1},
		"done is no timetable":          {[]impl.Trip{a, a}, hop("b", 1, 2, 0, 1), 0, -1},
		"done is not clean":             {[]impl.Trip{a, hop("d", 1, 0, 12, 13)}, hop("b", 1, 2, 0, 1), 0, -1},
		"done is not ridden":            {[]impl.Trip{hop("d", 1, 3, 12, 13)}, hop("b", 1, 2, 0, 1), 0, -1},
		"no edge for the trip":          {nil, hop("b", 0, 2, 0, 1), 0, -1},
		"no trip":                       {[]impl.Trip{a}, impl.Trip{}, 0, -1},
		"MaxHead":                       {[]impl.Trip{a}, hop("b", 0, 1, 10, 20), 60, 60},
		"beyond MaxHead":                {[]impl.Trip{a}, hop("b", 0, 1, 900, 920), 61, -1},
		"a head below 0":                {[]impl.Trip{a}, hop("b", 0, 1, 900, 920), -1, -1},
		"nothing done, beyond MaxHead":  {nil, a, 61, -1},
		"nothing done, below 0":         {nil, a, -1, -1},
		"it rides to and fro":           {[]impl.Trip{hop("d", 0, 1, 4, 9)}, shuttle("b", 0, 4), 0, 7},
	}
	for name, c := range cases {
		if got := checkPush(t, n, c.done, c.trip, c.head); got != c.want {
			t.Errorf("%s: %d, not %d", name, got, c.want)
		}
	}
	for name, wrong := range wrongNets() {
		if got := checkPush(t, wrong, nil, hop("b", 0, 1, 0, 1), 0); got != -1 {
			t.Error(name, got)
		}
	}
	for _, trip := range wrongTrips() {
		if got := checkPush(t, n, []impl.Trip{hop("d", 0, 1, 4, 9)}, trip, 0); got != -1 {
			t.Error(trip, got)
		}
	}
	for _, done := range wrongTables() {
		if got := checkPush(t, n, done, hop("y", 1, 2, 4, 9), 0); got != -1 {
			t.Error(done, got)
		}
	}
}

// TestPushOfEveryLength has pushes from 0 up to the greatest, and those that would have to be greater.
func TestPushOfEveryLength(t *testing.T) {
	for to := 1; to <= 130; to++ {
		want := to
		if to > 120 {
			want = -1
		}
		if got := checkPush(t, oneTrack(), []impl.Trip{hop("d", 0, 1, 0, to)}, hop("b", 1, 0, 0, 1), 0); got != want {
			t.Errorf("%d: %d", to, got)
		}
		want = max(0, to-2)
		if to > 122 {
			want = -1
		}
		if got := checkPush(t, oneTrack(), []impl.Trip{hop("d", 0, 1, 5, 5+to)}, hop("b", 0, 1, 6, 7), 0); got != want {
			t.Errorf("overtaking %d: %d", to, got)
		}
	}
}

func TestSettleByHand(t *testing.T) {
	n := impl.Net{Nodes: 4, Edges: tracks(0, 1, 1, 2)}
	a, b := hop("a", 0, 1, 10, 20), hop("b", 1, 0, 15, 25)
	cases := map[string]struct {
		list   []impl.Trip
		head   int
		pushes []int
	}{
		"one":                          {[]impl.Trip{a}, 60, []int{0}},
		"clean":                        {[]impl.Trip{a, hop("b", 1, 0, 20, 30), hop("c", 0, 1, 30, 40)}, 20, []int{0, 0, 0}},
		"the later one is moved":       {[]impl.Trip{a, b}, 0, []int{0, 5}},
		"the earlier one is moved":     {[]impl.Trip{b, a}, 0, []int{0, 15}},
		"one behind the other":         {[]impl.Trip{a, hop("b", 0, 1, 10, 20), hop("c", 0, 1, 10, 20), hop("d", 0, 1, 10, 20)}, 7, []int{0, 7, 14, 21}},
		"against one that was moved":   {[]impl.Trip{a, b, hop("c", 1, 2, 0, 9), hop("d", 0, 1, 20, 21)}, 0, []int{0, 5, 0, 10}},
		"no head, all at one minute":   {[]impl.Trip{a, hop("b", 0, 1, 10, 20), hop("c", 0, 1, 10, 20)}, 0, []int{0, 0, 0}},
		"a push too great at the end":  {[]impl.Trip{a, b, hop("c", 0, 1, 16, 140), hop("d", 1, 0, 17, 50)}, 0, nil},
		"a push too great at first":    {[]impl.Trip{hop("c", 0, 1, 0, 140), b, hop("d", 1, 2, 0, 18), hop("e", 1, 0, 19, 20)}, 0, nil},
		"it leaves the minutes":        {[]impl.Trip{hop("a", 0, 1, 99990, 100000), hop("b", 1, 0, 99990, 100000)}, 0, nil},
		"it stays within the minutes":  {[]impl.Trip{hop("a", 0, 1, 99980, 99990), hop("b", 1, 0, 99985, 99995)}, 0, []int{0, 5}},
		"not ridden":                   {[]impl.Trip{a, hop("b", 2, 3, 0, 1)}, 0, nil},
		"two with one name":            {[]impl.Trip{a, hop("a", 1, 2, 0, 1)}, 0, nil},
		"one that is none":             {[]impl.Trip{a, {}, b}, 0, nil},
		"a head below 0":               {[]impl.Trip{a}, -1, nil},
		"MaxHead":                      {[]impl.Trip{a, hop("b", 0, 1, 10, 20), hop("c", 0, 1, 10, 20)}, 60, []int{0, 60, 120}},
		"one more, with MaxHead":       {[]impl.Trip{a, hop("b", 0, 1, 10, 20), hop("c", 0, 1, 9, 20)}, 60, nil},
		"beyond MaxHead":               {[]impl.Trip{a}, 61, nil},
		"nothing":                      {nil, 0, nil},
		"nothing, and a head below 0":  {nil, -1, nil},
		"one that could go ahead":      {[]impl.Trip{hop("a", 0, 1, 30, 40), hop("b", 1, 0, 0, 30)}, 0, []int{0, 0}},
		"one that goes ahead of both":  {[]impl.Trip{a, b, hop("c", 0, 1, 0, 10)}, 5, []int{0, 5, 0}},
		"of one trip against itself":   {[]impl.Trip{shuttle("a", 0, 5), shuttle("b", 0, 5)}, 0, []int{0, 0}},
		"to and fro, one behind other": {[]impl.Trip{shuttle("a", 0, 5), shuttle("b", 0, 5)}, 1, []int{0, 1}},
		"to and fro, far behind":       {[]impl.Trip{shuttle("a", 0, 5), shuttle("b", 0, 5)}, 2, []int{0, 7}},
	}
	for name, c := range cases {
		trips, pushes := impl.Settle(n, c.list, c.head)
		if !slices.Equal(pushes, c.pushes) || len(trips) != len(pushes) {
			t.Errorf("%s: %v, not %v", name, pushes, c.pushes)
			continue
		}
		for k := range trips {
			checkTrip(t, name, trips[k], movedByWords(c.list[k], pushes[k]))
		}
		checkSettled(t, n, c.list, c.head)
	}
	trips, pushes := impl.Settle(n, impl.Clockface(a, 1, 24), 1)
	if len(trips) != 24 || slices.Max(pushes) != 0 {
		t.Error("as many as there may be", pushes)
	}
	if trips, pushes = impl.Settle(oneTrack(), shuttles(25, 0, 2), 0); trips != nil || pushes != nil {
		t.Error("one more than there may be", pushes)
	}
	if trips, pushes = impl.Settle(impl.Net{}, nil, 0); len(trips) != 0 || len(pushes) != 0 {
		t.Error("no net", pushes)
	}
}

func TestSettleOfEverySmallTable(t *testing.T) {
	n := impl.Net{Nodes: 3, Edges: tracks(0, 1, 2, 1)}
	var choices []impl.Trip
	for _, times := range [][2]int{{0, 2}, {0, 3}, {1, 2}, {3, 4}} {
		choices = append(choices, hop("", 0, 1, times[0], times[1]), hop("", 1, 0, times[0], times[1]))
	}
	choices = append(choices, tripOf("", at(2, 0, 0), at(1, 1, 2), at(0, 3, 3)), hop("", 0, 2, 0, 1))
	manyLists(3, choices, func(list []impl.Trip) {
		named := tableCopy(list)
		for k := range named {
			named[k].Name = string(rune('a' + k))
		}
		for _, head := range []int{0, 1, 3} {
			trips, pushes := impl.Settle(n, named, head)
			wantTrips, wantPushes := settledByWords(n, named, head)
			if !sameTable(trips, wantTrips) || !slices.Equal(pushes, wantPushes) {
				t.Fatalf("Settle(%v, %d): %v, not %v", named, head, pushes, wantPushes)
			}
		}
	})
}

func TestSettleThrown(t *testing.T) {
	d := &dice{state: 94}
	for round := range 150 {
		n := someNet(d, 2+d.below(4), 1+d.below(6), 5)
		list := tableOn(d, n, d.below(6), 30, 8)
		if round%10 == 0 && len(list) > 0 {
			list[d.below(len(list))].Calls[0].Node = 29
		}
		checkSettled(t, n, list, []int{0, 1, 4, 15}[d.below(4)])
	}
}

func TestPromise11(t *testing.T) {
	d := &dice{state: 95}
	settled, moved := 0, 0
	for range 250 {
		n := someNet(d, 2+d.below(6), 2+d.below(8), 5)
		list, head := tableOn(d, n, 1+d.below(10), 90, 9), d.below(8)
		was := tableCopy(list)
		trips, pushes := impl.Settle(n, list, head)
		if !sameTable(list, was) {
			t.Fatal("the list was changed")
		}
		if impl.Clean(n, list, head) && (len(pushes) != len(list) || slices.Max(pushes) != 0 || !sameTable(trips, list)) {
			t.Fatalf("clean, but moved: %v %v", list, pushes)
		}
		if len(trips) == 0 {
			continue
		}
		settled++
		if !cleanByWords(n, trips, head) || !impl.Clean(n, trips, head) {
			t.Fatalf("settled, but not clean: %v %v %d", n, trips, head)
		}
		for k, trip := range trips {
			moved += pushes[k]
			if pushes[k] < 0 || !sameTrip(trip, movedByWords(list[k], pushes[k])) {
				t.Fatalf("%v came from %v by %d", trip, list[k], pushes[k])
			}
		}
		again, still := impl.Settle(n, trips, head)
		if !sameTable(again, trips) || slices.Max(still) != 0 || slices.Min(still) != 0 {
			t.Fatalf("settled again, moved: %v", still)
		}
	}
	if settled < 200 || moved < 5000 {
		t.Error("few were settled", settled, moved)
	}
}

func TestClashesShareNoMemory(t *testing.T) {
	n := oneTrack()
	// Room behind the lists: what is put there would be seen.
	trips := make([]impl.Trip, 4)
	copy(trips, []impl.Trip{shuttle("a", 0, 3), shuttle("b", 1, 4), shuttle("c", 2, 5), shuttle("d", 3, 6)})
	was := tableCopy(trips)
	if got := impl.PushOf(n, trips[:1], shuttle("e", 50, 3), 0); got != 0 || !sameTable(trips, was) {
		t.Error("PushOf wrote behind the list", got)
	}
	settled, pushes := impl.Settle(n, trips[:3], 0)
	if len(settled) != 3 || len(pushes) != 3 {
		t.Fatal("Settle", settled, pushes)
	}
	for i := range settled {
		others := tableCopy(settled)
		for k := range settled[i].Calls {
			settled[i].Calls[k] = at(-9, -9, -9)
		}
		_ = append(settled[i].Calls, at(-8, -8, -8))
		if !sameTable(trips, was) {
			t.Errorf("trip %d shares memory with the list", i)
		}
		for k := range settled {
			if k != i && !sameTrip(settled[k], others[k]) {
				t.Errorf("trips %d and %d share memory", i, k)
			}
		}
	}
	uses := impl.Uses(n, trips)
	for k := range uses {
		uses[k] = use(-9, -9, -9, -9, -9)
	}
	if !sameTable(trips, was) || !sameNet(n, oneTrack()) || impl.Uses(n, trips)[0] != use(0, 0, 1, 2, 0) {
		t.Error("uses share memory")
	}
}

func TestClashesNeverPanic(t *testing.T) {
	extremes := []int{math.MinInt, math.MinInt + 1, -1, 0, 1, 59, 60, 61, 100000, 100001, math.MaxInt - 1, math.MaxInt}
	nets := []impl.Net{{}, oneTrack(), {Nodes: math.MaxInt, Edges: tracks(0, 1)}, {Nodes: 2, Edges: tracks(-5, math.MaxInt)}}
	d := &dice{state: 96}
	pick := func() int { return extremes[d.below(len(extremes))] }
	for range 20000 {
		a, b := use(pick(), pick(), pick(), pick(), pick()), use(pick(), pick(), pick(), pick(), pick())
		head := pick()
		if panicsIn(func() {
			if impl.Clash(a, b, head) != meetByWords(a, b, head) {
				t.Errorf("Clash(%v, %v, %d)", a, b, head)
			}
			impl.FirstClash([]impl.Use{a, b, a}, head)
		}) {
			t.Fatalf("%v, %v, %d", a, b, head)
		}
	}
	trips := append(wrongTrips(), shuttle("y", 0, 12), tripOf("x", at(pick(), pick(), pick()), at(pick(), pick(), pick())))
	for _, n := range nets {
		for _, trip := range trips {
			for _, head := range extremes {
				if panicsIn(func() {
					list := []impl.Trip{hop("z", 0, 1, 0, 1), trip}
					impl.Ridden(n, list)
					impl.Uses(n, list)
					impl.Clean(n, list, head)
					impl.PushOf(n, list[:1], trip, head)
					impl.Settle(n, list, head)
				}) {
					t.Fatalf("%v, %v, %d", n, trip, head)
				}
			}
		}
	}
	huge := make([]impl.Trip, 100000)
	if impl.Clean(oneTrack(), huge, 0) || impl.PushOf(oneTrack(), huge, hop("a", 0, 1, 0, 1), 0) != -1 {
		t.Error("a huge list")
	}
}
