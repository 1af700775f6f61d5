package tests

import (
	"math"
	"runtime"
	"slices"
	"strconv"
	"sync"
	"testing"

	"loop.example/g00075/impl"
)

func runOf(trip, leg, from, to int) impl.Run {
	return impl.Run{Trip: trip, Leg: leg, From: from, To: to}
}

// lateBy has nobody late but one trip.
func lateBy(trips, place, minutes int) []int {
	late := make([]int, trips)
	late[place] = minutes
	return late
}

// lineNet has the edges 0-1, 1-2, .. one behind the other.
func lineNet(nodes int) impl.Net {
	n := impl.Net{Nodes: nodes}
	for a := range nodes - 1 {
		n.Edges = append(n.Edges, tracks(a, a+1)...)
	}
	return n
}

func dayOkByWords(n impl.Net, list []impl.Trip, late []int) bool {
	_, ridden := usesByWords(n, list)
	if !ridden || len(late) != len(list) {
		return false
	}
	for _, minutes := range late {
		if min(10000, max(0, minutes)) != minutes {
			return false
		}
	}
	return true
}

// edgesByWords tells the edge of each trip and leg.
func edgesByWords(n impl.Net, list []impl.Trip) [][]int {
	edges := make([][]int, len(list))
	uses, _ := usesByWords(n, list)
	for _, u := range uses {
		edges[u.Trip] = append(edges[u.Trip], u.Edge)
	}
	return edges
}

// plannedByWords takes the next run again and again: the first minute in which one begins, and in it the first trip.
func plannedByWords(n impl.Net, list []impl.Trip) []impl.Run {
	if _, ridden := usesByWords(n, list); !ridden {
		return nil
	}
	legs := make([]int, len(list))
	var runs []impl.Run
	for {
		next := runOf(-1, 0, math.MaxInt, 0)
		for place, t := range list {
			leg := legs[place]
			if leg+1 < len(t.Calls) && t.Calls[leg].Dep < next.From {
				next = runOf(place, leg, t.Calls[leg].Dep, t.Calls[leg+1].Arr)
			}
		}
		if next.Trip < 0 {
			return runs
		}
		runs = append(runs, next)
		legs[next.Trip]++
	}
}

// dayPlayed is what the words of the chapter bring about, minute by minute.
type dayPlayed struct {
	runs   []impl.Run
	at     []int
	waited int
	on     [][]int // of each minute who is on each edge, as long as it is kept
}

// playedByWords plays every minute, also those in which nothing happens; who is on which edge is kept for the first minutes.
func playedByWords(n impl.Net, list []impl.Trip, late []int, keep int) dayPlayed {
	var day dayPlayed
	edges := edgesByWords(n, list)
	call, came, arrives := make([]int, len(list)), make([]int, len(list)), make([]int, len(list))
	on := make([]int, len(n.Edges))
	for e := range on {
		on[e] = -1
	}
	day.at = make([]int, len(list))
	going := len(list)
	for minute := 0; going > 0; minute++ {
		for place, t := range list {
			if arrives[place] > 0 && arrives[place] == minute {
				on[edges[place][call[place]]] = -1
				arrives[place] = 0
				came[place] = minute
				call[place]++
				if call[place] == len(t.Calls)-1 {
					going--
					day.at[place] = minute - t.Calls[call[place]].Arr
				}
			}
		}
		for place, t := range list {
			k := call[place]
			if arrives[place] > 0 || k == len(t.Calls)-1 {
				continue
			}
			ready := t.Calls[k].Dep
			if k == 0 {
				ready += late[place]
			} else if came[place] > ready {
				ready = came[place]
			}
			if minute < ready || on[edges[place][k]] >= 0 {
				continue
			}
			on[edges[place][k]] = place
			arrives[place] = minute + t.Calls[k+1].Arr - t.Calls[k].Dep
			day.waited += minute - ready
			day.runs = append(day.runs, runOf(place, k, minute, arrives[place]))
		}
		if minute < keep {
			day.on = append(day.on, slices.Clone(on))
		}
	}
	return day
}

// apartByWords lays the runs of each edge one behind the other, by From: each must be over when the next one begins.
func apartByWords(n impl.Net, list []impl.Trip, runs []impl.Run) bool {
	if _, ridden := usesByWords(n, list); !ridden || len(runs) > 300 {
		return false
	}
	edges := edgesByWords(n, list)
	onEdge := make([][]impl.Run, len(n.Edges))
	for _, r := range runs {
		if r.Trip < 0 || r.Trip >= len(list) || r.Leg < 0 || r.Leg > len(list[r.Trip].Calls)-2 || r.To <= r.From {
			return false
		}
		e := edges[r.Trip][r.Leg]
		onEdge[e] = append(onEdge[e], r)
	}
	for _, row := range onEdge {
		slices.SortFunc(row, func(a, b impl.Run) int {
			if a.From < b.From {
				return -1
			}
			if a.From > b.From {
				return 1
			}
			return 0
		})
		for k := 1; k < len(row); k++ {
			if row[k].From < row[k-1].To {
				return false
			}
		}
	}
	return true
}

func checkRunList(t *testing.T, what string, got, want []impl.Run) {
	t.Helper()
	if !slices.Equal(got, want) {
		t.Fatalf("%s: %v, not %v", what, got, want)
	}
}

func checkRunsApart(t *testing.T, n impl.Net, list []impl.Trip, runs []impl.Run) bool {
	t.Helper()
	net, was, wereRuns := copyNet(n), tableCopy(list), slices.Clone(runs)
	got := impl.Apart(n, list, runs)
	if want := apartByWords(n, list, runs); got != want {
		t.Fatalf("Apart(%v, %v, %v): %v", n, list, runs, got)
	}
	if !sameNet(n, net) || !sameTable(list, was) || !slices.Equal(runs, wereRuns) {
		t.Fatalf("%v was %v, %v was %v, %v was %v", n, net, list, was, runs, wereRuns)
	}
	return got
}

// checkNoDay asks every function for a day that there is not.
func checkNoDay(t *testing.T, what string, n impl.Net, list []impl.Trip, late []int) {
	t.Helper()
	net, was, wasLate := copyNet(n), tableCopy(list), slices.Clone(late)
	if impl.DayOk(n, list, late) || dayOkByWords(n, list, late) {
		t.Fatalf("%s: DayOk(%v, %v, %v)", what, n, list, late)
	}
	if got := impl.PlayDay(n, list, late); len(got) != 0 {
		t.Fatalf("%s: PlayDay(%v, %v, %v): %v", what, n, list, late, got)
	}
	if got := impl.LateAt(n, list, late); len(got) != 0 {
		t.Fatalf("%s: LateAt(%v, %v, %v): %v", what, n, list, late, got)
	}
	for _, minute := range []int{math.MinInt, -1, 0, 10, math.MaxInt} {
		if got := impl.OnEdges(n, list, late, minute); len(got) != 0 {
			t.Fatalf("%s: OnEdges(%v, %v, %v, %d): %v", what, n, list, late, minute, got)
		}
		if got := impl.Punctual(n, list, late, minute); got != -1 {
			t.Fatalf("%s: Punctual(%v, %v, %v, %d): %d", what, n, list, late, minute, got)
		}
	}
	if got := impl.Waited(n, list, late); got != -1 {
		t.Fatalf("%s: Waited(%v, %v, %v): %d", what, n, list, late, got)
	}
	checkRunList(t, what, impl.Planned(n, list), plannedByWords(n, list))
	checkRunsApart(t, n, list, nil)
	if !sameNet(n, net) || !sameTable(list, was) || !slices.Equal(late, wasLate) {
		t.Fatalf("%s: %v was %v, %v was %v, %v was %v", what, n, net, list, was, late, wasLate)
	}
}

const keptMinutes = 400

// checkPlayed holds every function against the day that the words bring about; what comes in must stay as it was.
func checkPlayed(t *testing.T, n impl.Net, list []impl.Trip, late []int) []impl.Run {
	t.Helper()
	net, was, wasLate := copyNet(n), tableCopy(list), slices.Clone(late)
	if !impl.DayOk(n, list, late) || !dayOkByWords(n, list, late) {
		t.Fatalf("DayOk(%v, %v, %v) is false", n, list, late)
	}
	plan := impl.Planned(n, list)
	checkRunList(t, "Planned", plan, plannedByWords(n, list))
	day := playedByWords(n, list, late, keptMinutes)
	runs := impl.PlayDay(n, list, late)
	if !slices.Equal(runs, day.runs) {
		t.Fatalf("PlayDay(%v, %v, %v): %v, not %v", n, list, late, runs, day.runs)
	}
	if got := impl.LateAt(n, list, late); !slices.Equal(got, day.at) {
		t.Fatalf("LateAt(%v, %v, %v): %v, not %v", n, list, late, got, day.at)
	}
	if got := impl.Waited(n, list, late); got != day.waited {
		t.Fatalf("Waited(%v, %v, %v): %d, not %d", n, list, late, got, day.waited)
	}
	checkLimits(t, n, list, late, day.at)
	checkMinutes(t, n, list, late, day)
	if !checkRunsApart(t, n, list, runs) {
		t.Fatalf("not apart: %v, %v, %v", n, list, runs)
	}
	if apart := checkRunsApart(t, n, list, plan); apart && !slices.ContainsFunc(late, func(x int) bool { return x > 0 }) {
		checkRunList(t, "a plan that is apart", runs, plan)
	}
	if !sameNet(n, net) || !sameTable(list, was) || !slices.Equal(late, wasLate) {
		t.Fatalf("%v was %v, %v was %v, %v was %v", n, net, list, was, late, wasLate)
	}
	return runs
}

// checkLimits asks at each trip's lateness and around it.
func checkLimits(t *testing.T, n impl.Net, list []impl.Trip, late, at []int) {
	t.Helper()
	limits := []int{math.MinInt, -1, 0, 1, math.MaxInt}
	for _, minutes := range at[:min(4, len(at))] {
		limits = append(limits, minutes-1, minutes, minutes+1)
	}
	for _, limit := range limits {
		want := len(slices.DeleteFunc(slices.Clone(at), func(x int) bool { return x > limit }))
		if got := impl.Punctual(n, list, late, limit); got != want {
			t.Fatalf("Punctual(%v, %v, %v, %d): %d, not %d", n, list, late, limit, got, want)
		}
	}
}

// checkMinutes asks around the day's first runs, and ahead of the day and behind it.
func checkMinutes(t *testing.T, n impl.Net, list []impl.Trip, late []int, day dayPlayed) {
	t.Helper()
	minutes := []int{0, keptMinutes - 1}
	for _, r := range day.runs[:min(3, len(day.runs))] {
		minutes = append(minutes, r.From-1, r.From, r.To-1, r.To)
	}
	nobody := slices.Repeat([]int{-1}, len(n.Edges))
	for _, minute := range minutes {
		if minute < 0 || minute >= keptMinutes {
			continue
		}
		want := nobody
		if minute < len(day.on) {
			want = day.on[minute]
		}
		if got := impl.OnEdges(n, list, late, minute); !slices.Equal(got, want) {
			t.Fatalf("OnEdges(%v, %v, %v, %d): %v, not %v", n, list, late, minute, got, want)
		}
	}
	last := 0
	for _, r := range day.runs {
		last = max(last, r.To)
	}
	for _, minute := range []int{math.MinInt, -1, last, last + 1, math.MaxInt} {
		if got := impl.OnEdges(n, list, late, minute); !slices.Equal(got, nobody) {
			t.Fatalf("OnEdges(%v, %v, %v, %d): %v", n, list, late, minute, got)
		}
	}
}

func TestDayOk(t *testing.T) {
	n := oneTrack()
	list := []impl.Trip{hop("a", 0, 1, 10, 20), hop("b", 1, 0, 30, 40), hop("c", 0, 1, 50, 60)}
	if !impl.DayOk(n, list, []int{0, 0, 0}) || impl.MaxLate != 10000 {
		t.Error("nobody is late")
	}
	for place := range 3 {
		for _, minutes := range []int{0, 1, impl.MaxLate - 1, impl.MaxLate} {
			checkPlayed(t, n, list, lateBy(3, place, minutes))
		}
		for _, minutes := range []int{-1, impl.MaxLate + 1, math.MinInt, math.MaxInt} {
			checkNoDay(t, "a number that is not so", n, list, lateBy(3, place, minutes))
		}
	}
	checkNoDay(t, "no number", n, list, nil)
	checkNoDay(t, "no number", n, list, []int{})
	checkNoDay(t, "one number fewer", n, list, []int{0, 0})
	checkNoDay(t, "one number more", n, list, []int{0, 0, 0, 0})
	checkNoDay(t, "one number for no trip", n, nil, []int{0})
	checkNoDay(t, "many numbers", n, list, make([]int, 100000))
	for name, wrong := range wrongNets() {
		checkNoDay(t, name, wrong, list, []int{0, 0, 0})
		checkNoDay(t, name, wrong, nil, nil)
	}
	for _, wrong := range wrongTables() {
		checkNoDay(t, "no timetable", n, wrong, make([]int, len(wrong)))
	}
	for _, wrong := range wrongTrips() {
		checkNoDay(t, "no trip", n, []impl.Trip{hop("y", 0, 1, 1, 2), wrong}, []int{0, 0})
		checkNoDay(t, "no trip", n, []impl.Trip{wrong}, []int{0})
	}
	far := impl.Net{Nodes: 3, Edges: tracks(0, 1)}
	checkNoDay(t, "no edge", far, []impl.Trip{hop("a", 0, 2, 1, 2)}, []int{0})
	checkNoDay(t, "no edge at the end", far, []impl.Trip{tripOf("a", at(0, 1, 1), at(1, 2, 2), at(2, 3, 3))}, []int{0})
	checkNoDay(t, "no edge in the last trip", far, append(tableCopy(list), hop("d", 2, 1, 1, 2)), []int{0, 0, 0, 0})
	checkNoDay(t, "a node that is not there", far, []impl.Trip{hop("a", 0, 3, 1, 2)}, []int{0})
}

func TestDayOfNoTrip(t *testing.T) {
	for _, n := range rightNets() {
		for _, list := range [][]impl.Trip{nil, {}} {
			for _, late := range [][]int{nil, {}} {
				if runs := checkPlayed(t, n, list, late); len(runs) != 0 {
					t.Error(runs)
				}
				if impl.Waited(n, list, late) != 0 || impl.Punctual(n, list, late, 5) != 0 || len(impl.LateAt(n, list, late)) != 0 {
					t.Error("no trip", n)
				}
				if got := impl.OnEdges(n, list, late, 0); len(got) != len(n.Edges) {
					t.Error("the edges of no trip", got)
				}
			}
		}
		if len(impl.Planned(n, nil)) != 0 || !impl.Apart(n, nil, nil) || impl.Apart(n, nil, []impl.Run{runOf(0, 0, 1, 2)}) {
			t.Error("a plan of no trip")
		}
	}
}

func TestDayOfOneTrip(t *testing.T) {
	n := lineNet(4)
	two := []impl.Trip{hop("a", 1, 0, 10, 25)}
	checkRunList(t, "two calls", checkPlayed(t, n, two, []int{0}), []impl.Run{runOf(0, 0, 10, 25)})
	checkRunList(t, "two calls, late", checkPlayed(t, n, two, []int{7}), []impl.Run{runOf(0, 0, 17, 32)})
	checkRunList(t, "two calls, as late as can be", checkPlayed(t, n, two, []int{10000}), []impl.Run{runOf(0, 0, 10010, 10025)})
	checkRunList(t, "at the first minute", checkPlayed(t, n, []impl.Trip{hop("a", 0, 1, 0, 1)}, []int{0}), []impl.Run{runOf(0, 0, 0, 1)})
	// What it stands at its first call and at its last one counts for nothing.
	ends := []impl.Trip{tripOf("a", at(0, 5, 10), at(1, 20, 99))}
	checkRunList(t, "stands at both ends", checkPlayed(t, n, ends, []int{3}), []impl.Run{runOf(0, 0, 13, 23)})
	checkInts(t, "stands at both ends", impl.LateAt(n, ends, []int{3}), []int{3})
	// Stands of 4 and 6 minutes.
	list := []impl.Trip{tripOf("a", at(0, 0, 10), at(1, 20, 24), at(2, 30, 36), at(3, 50, 50))}
	cases := map[string]struct {
		late int
		runs []impl.Run
		at   int
	}{
		"on time":                    {0, []impl.Run{runOf(0, 0, 10, 20), runOf(0, 1, 24, 30), runOf(0, 2, 36, 50)}, 0},
		"less than the first stand":  {3, []impl.Run{runOf(0, 0, 13, 23), runOf(0, 1, 24, 30), runOf(0, 2, 36, 50)}, 0},
		"just the first stand":       {4, []impl.Run{runOf(0, 0, 14, 24), runOf(0, 1, 24, 30), runOf(0, 2, 36, 50)}, 0},
		"one more, at the next call": {5, []impl.Run{runOf(0, 0, 15, 25), runOf(0, 1, 25, 31), runOf(0, 2, 36, 50)}, 0},
		"just both stands":           {10, []impl.Run{runOf(0, 0, 20, 30), runOf(0, 1, 30, 36), runOf(0, 2, 36, 50)}, 0},
		"one more than both":         {11, []impl.Run{runOf(0, 0, 21, 31), runOf(0, 1, 31, 37), runOf(0, 2, 37, 51)}, 1},
		"far more":                   {100, []impl.Run{runOf(0, 0, 110, 120), runOf(0, 1, 120, 126), runOf(0, 2, 126, 140)}, 90},
	}
	for name, c := range cases {
		checkRunList(t, name, checkPlayed(t, n, list, []int{c.late}), c.runs)
		checkInts(t, name, impl.LateAt(n, list, []int{c.late}), []int{c.at})
		if impl.Waited(n, list, []int{c.late}) != 0 {
			t.Error("waits for itself", name)
		}
	}
}

func TestPlanned(t *testing.T) {
	n := lineNet(3)
	list := []impl.Trip{
		tripOf("a", at(0, 0, 10), at(1, 20, 23), at(2, 30, 30)),
		hop("b", 2, 1, 10, 15),
		tripOf("c", at(1, 2, 3), at(0, 9, 10), at(1, 12, 14)),
		hop("d", 1, 2, 23, 24),
	}
	// Runs of one minute in the order of the places, whatever their legs and ends are.
	want := []impl.Run{runOf(2, 0, 3, 9), runOf(0, 0, 10, 20), runOf(1, 0, 10, 15), runOf(2, 1, 10, 12), runOf(0, 1, 23, 30), runOf(3, 0, 23, 24)}
	checkRunList(t, "by From and by place", impl.Planned(n, list), want)
	turned := tableCopy(list)
	slices.Reverse(turned)
	want = []impl.Run{runOf(1, 0, 3, 9), runOf(1, 1, 10, 12), runOf(2, 0, 10, 15), runOf(3, 0, 10, 20), runOf(0, 0, 23, 24), runOf(3, 1, 23, 30)}
	checkRunList(t, "the other way round", impl.Planned(n, turned), want)
	if got := impl.Planned(n, append(tableCopy(list), hop("e", 0, 2, 1, 2))); len(got) != 0 {
		t.Error("not ridden", got)
	}
	if got := impl.Planned(n, append(tableCopy(list), hop("a", 0, 1, 1, 2))); len(got) != 0 {
		t.Error("two with one name", got)
	}
	for name, wrong := range wrongNets() {
		if got := impl.Planned(wrong, list); len(got) != 0 {
			t.Error(name, got)
		}
	}
	for _, wrong := range wrongTables() {
		if got := impl.Planned(n, wrong); len(got) != 0 {
			t.Error(wrong, got)
		}
	}
	if got := impl.Planned(oneTrack(), shuttles(24, 0, 12)); len(got) != 264 || got[0] != runOf(0, 0, 1, 2) || got[263] != runOf(23, 10, 21, 22) {
		t.Error("as many as there may be", len(got))
	}
	if got := impl.Planned(oneTrack(), shuttles(25, 0, 2)); len(got) != 0 {
		t.Error("one trip more than there may be", got)
	}
}

// TestDayByHand has each case that the chapter's words tell apart, with the day that comes of it.
func TestDayByHand(t *testing.T) {
	n := lineNet(4)
	double := impl.Net{Nodes: 3, Edges: tracks(1, 0, 0, 1, 1, 2)}
	cases := map[string]struct {
		n      impl.Net
		list   []impl.Trip
		late   []int
		runs   []impl.Run
		at     []int
		waited int
	}{
		"ready when another arrives, the same end": {n,
			[]impl.Trip{hop("a", 0, 1, 10, 20), hop("b", 0, 1, 20, 25)}, []int{0, 0},
			[]impl.Run{runOf(0, 0, 10, 20), runOf(1, 0, 20, 25)}, []int{0, 0}, 0},
		"ready when another arrives, the other end": {n,
			[]impl.Trip{hop("b", 1, 0, 20, 25), hop("a", 0, 1, 10, 20)}, []int{0, 0},
			[]impl.Run{runOf(1, 0, 10, 20), runOf(0, 0, 20, 25)}, []int{0, 0}, 0},
		"ready one minute ahead of that": {n,
			[]impl.Trip{hop("b", 1, 0, 19, 25), hop("a", 0, 1, 10, 20)}, []int{0, 0},
			[]impl.Run{runOf(1, 0, 10, 20), runOf(0, 0, 20, 26)}, []int{1, 0}, 1},
		"it arrives and goes on in that minute": {n,
			[]impl.Trip{tripOf("a", at(0, 0, 10), at(1, 20, 20), at(2, 30, 30)), hop("b", 2, 1, 12, 20)}, []int{0, 0},
			[]impl.Run{runOf(0, 0, 10, 20), runOf(1, 0, 12, 20), runOf(0, 1, 20, 30)}, []int{0, 0}, 0},
		"it turns in the minute in which it arrives": {n,
			[]impl.Trip{tripOf("a", at(0, 0, 10), at(1, 20, 20), at(0, 30, 30))}, []int{0},
			[]impl.Run{runOf(0, 0, 10, 20), runOf(0, 1, 20, 30)}, []int{0}, 0},
		"it turns, but one with a lesser place is ready": {n,
			[]impl.Trip{hop("b", 0, 1, 15, 18), tripOf("a", at(0, 0, 10), at(1, 20, 20), at(0, 30, 30))}, []int{0, 0},
			[]impl.Run{runOf(1, 0, 10, 20), runOf(0, 0, 20, 23), runOf(1, 1, 23, 33)}, []int{5, 3}, 8},
		"it turns ahead of one with a greater place": {n,
			[]impl.Trip{tripOf("a", at(0, 0, 10), at(1, 20, 20), at(0, 30, 30)), hop("b", 0, 1, 15, 18)}, []int{0, 0},
			[]impl.Run{runOf(0, 0, 10, 20), runOf(0, 1, 20, 30), runOf(1, 0, 30, 33)}, []int{0, 15}, 15},
		"two from one end in one minute": {n,
			[]impl.Trip{hop("b", 0, 1, 10, 14), hop("a", 0, 1, 10, 12)}, []int{0, 0},
			[]impl.Run{runOf(0, 0, 10, 14), runOf(1, 0, 14, 16)}, []int{0, 4}, 4},
		"two from both ends in one minute": {n,
			[]impl.Trip{hop("b", 1, 0, 10, 14), hop("a", 0, 1, 10, 12)}, []int{0, 0},
			[]impl.Run{runOf(0, 0, 10, 14), runOf(1, 0, 14, 16)}, []int{0, 4}, 4},
		"three from one end in one minute": {n,
			[]impl.Trip{hop("c", 0, 1, 10, 13), hop("b", 0, 1, 10, 12), hop("a", 0, 1, 10, 11)}, []int{0, 0, 0},
			[]impl.Run{runOf(0, 0, 10, 13), runOf(1, 0, 13, 15), runOf(2, 0, 15, 16)}, []int{0, 3, 5}, 8},
		"three from both ends in one minute": {n,
			[]impl.Trip{hop("c", 0, 1, 10, 13), hop("b", 1, 0, 10, 12), hop("a", 0, 1, 10, 11)}, []int{0, 0, 0},
			[]impl.Run{runOf(0, 0, 10, 13), runOf(1, 0, 13, 15), runOf(2, 0, 15, 16)}, []int{0, 3, 5}, 8},
		"by place, not by who was ready first": {n,
			[]impl.Trip{hop("c", 0, 1, 18, 19), hop("b", 1, 0, 17, 18), hop("a", 0, 1, 10, 20), hop("d", 0, 1, 12, 15)}, []int{0, 0, 0, 0},
			[]impl.Run{runOf(2, 0, 10, 20), runOf(0, 0, 20, 21), runOf(1, 0, 21, 22), runOf(3, 0, 22, 25)}, []int{2, 4, 0, 10}, 16},
		"ready by lateness in one minute": {n,
			[]impl.Trip{hop("b", 0, 1, 4, 9), hop("a", 1, 0, 10, 15), hop("c", 0, 1, 9, 14)}, []int{8, 2, 3},
			[]impl.Run{runOf(0, 0, 12, 17), runOf(1, 0, 17, 22), runOf(2, 0, 22, 27)}, []int{8, 7, 13}, 15},
		"one with a lesser place comes when the edge is free": {n,
			[]impl.Trip{hop("b", 0, 1, 20, 22), hop("a", 1, 0, 10, 20), hop("c", 0, 1, 11, 13)}, []int{0, 0, 0},
			[]impl.Run{runOf(1, 0, 10, 20), runOf(0, 0, 20, 22), runOf(2, 0, 22, 24)}, []int{0, 0, 11}, 11},
		"one with a lesser place comes a minute too late": {n,
			[]impl.Trip{hop("b", 0, 1, 21, 23), hop("a", 1, 0, 10, 20), hop("c", 0, 1, 11, 13)}, []int{0, 0, 0},
			[]impl.Run{runOf(1, 0, 10, 20), runOf(2, 0, 20, 22), runOf(0, 0, 22, 24)}, []int{1, 0, 9}, 10},
		"it waits at every call": {n,
			[]impl.Trip{
				hop("b", 0, 1, 5, 13), hop("c", 1, 2, 14, 20), hop("d", 3, 2, 18, 31),
				tripOf("a", at(0, 0, 8), at(1, 12, 12), at(2, 16, 16), at(3, 20, 20))}, []int{0, 0, 0, 0},
			[]impl.Run{runOf(0, 0, 5, 13), runOf(3, 0, 13, 17), runOf(1, 0, 14, 20), runOf(2, 0, 18, 31), runOf(3, 1, 20, 24), runOf(3, 2, 31, 35)},
			[]int{0, 0, 0, 15}, 5 + 3 + 7},
		"it waits beyond its Dep at a later call": {n,
			[]impl.Trip{
				hop("b", 0, 1, 5, 40),
				tripOf("a", at(0, 0, 8), at(1, 12, 15), at(2, 20, 30), at(3, 35, 35))}, []int{0, 0},
			[]impl.Run{runOf(0, 0, 5, 40), runOf(1, 0, 40, 44), runOf(1, 1, 44, 49), runOf(1, 2, 49, 54)}, []int{0, 19}, 32},
		"it waits, and a stand makes it up": {n,
			[]impl.Trip{
				hop("b", 0, 1, 5, 14),
				tripOf("a", at(0, 0, 8), at(1, 12, 15), at(2, 20, 30), at(3, 35, 35))}, []int{0, 0},
			[]impl.Run{runOf(0, 0, 5, 14), runOf(1, 0, 14, 18), runOf(1, 1, 18, 23), runOf(1, 2, 30, 35)}, []int{0, 0}, 6},
		"two edges, of which one is ridden": {double,
			[]impl.Trip{hop("a", 0, 1, 10, 20), hop("b", 1, 0, 12, 22)}, []int{0, 0},
			[]impl.Run{runOf(0, 0, 10, 20), runOf(1, 0, 20, 30)}, []int{0, 8}, 8},
		"meeting from both ends": {n,
			[]impl.Trip{
				tripOf("a", at(0, 10, 10), at(1, 20, 20), at(2, 30, 30), at(3, 40, 40)),
				tripOf("b", at(3, 10, 10), at(2, 20, 20), at(1, 30, 30), at(0, 40, 40))}, []int{0, 0},
			[]impl.Run{runOf(0, 0, 10, 20), runOf(1, 0, 10, 20), runOf(0, 1, 20, 30), runOf(0, 2, 30, 40), runOf(1, 1, 30, 40), runOf(1, 2, 40, 50)},
			[]int{0, 10}, 10},
		"one is late, a second waits for it, and then for a third": {n,
			[]impl.Trip{
				tripOf("c", at(3, 30, 40), at(2, 45, 45)),
				tripOf("b", at(1, 20, 25), at(2, 32, 33), at(3, 39, 39)),
				hop("a", 2, 1, 10, 20)}, []int{0, 0, 14},
			[]impl.Run{runOf(2, 0, 24, 34), runOf(1, 0, 34, 41), runOf(0, 0, 40, 45), runOf(1, 1, 45, 51)}, []int{0, 12, 14}, 9 + 4},
		"a late one makes another wait, and that one a third": {n,
			[]impl.Trip{
				hop("a", 0, 1, 10, 20),
				tripOf("b", at(1, 20, 22), at(0, 30, 30)),
				tripOf("c", at(0, 30, 31), at(1, 40, 40))}, []int{6, 0, 0},
			[]impl.Run{runOf(0, 0, 16, 26), runOf(1, 0, 26, 34), runOf(2, 0, 34, 43)}, []int{6, 4, 3}, 4 + 3},
		"a late one lets another go ahead": {n,
			[]impl.Trip{hop("a", 0, 1, 10, 20), hop("b", 1, 0, 15, 25)}, []int{6, 0},
			[]impl.Run{runOf(1, 0, 15, 25), runOf(0, 0, 25, 35)}, []int{15, 0}, 9},
		"on different edges nobody waits": {n,
			[]impl.Trip{hop("a", 0, 1, 10, 20), hop("b", 2, 1, 10, 20), hop("c", 2, 3, 10, 20)}, []int{0, 0, 0},
			[]impl.Run{runOf(0, 0, 10, 20), runOf(1, 0, 10, 20), runOf(2, 0, 10, 20)}, []int{0, 0, 0}, 0},
		"runs of one minute, by place": {n,
			[]impl.Trip{hop("a", 0, 1, 12, 20), hop("b", 2, 1, 12, 14), hop("c", 2, 3, 10, 20)}, []int{0, 0, 2},
			[]impl.Run{runOf(0, 0, 12, 20), runOf(1, 0, 12, 14), runOf(2, 0, 12, 22)}, []int{0, 0, 2}, 0},
		"the last leg is short, the last to come is not the last to leave": {n,
			[]impl.Trip{hop("a", 0, 1, 10, 90), hop("b", 1, 2, 80, 81)}, []int{0, 0},
			[]impl.Run{runOf(0, 0, 10, 90), runOf(1, 0, 80, 81)}, []int{0, 0}, 0},
	}
	for name, c := range cases {
		checkRunList(t, name, impl.PlayDay(c.n, c.list, c.late), c.runs)
		checkInts(t, name, impl.LateAt(c.n, c.list, c.late), c.at)
		if got := impl.Waited(c.n, c.list, c.late); got != c.waited {
			t.Errorf("%s: waited %d, not %d", name, got, c.waited)
		}
		checkPlayed(t, c.n, c.list, c.late)
	}
}

func TestOnEdges(t *testing.T) {
	// Edges 0 and 1 join the same nodes; the second is never ridden.
	n := impl.Net{Nodes: 4, Edges: tracks(1, 0, 0, 1, 1, 2, 2, 3)}
	list := []impl.Trip{
		tripOf("a", at(0, 5, 10), at(1, 20, 25), at(2, 35, 35)),
		tripOf("b", at(1, 12, 12), at(0, 15, 15)),
		hop("c", 2, 3, 20, 30),
	}
	late := []int{0, 0, 3}
	cases := map[int][]int{
		math.MinInt: {-1, -1, -1, -1},
		-1:          {-1, -1, -1, -1},
		0:           {-1, -1, -1, -1},
		9:           {-1, -1, -1, -1},
		10:          {0, -1, -1, -1},
		12:          {0, -1, -1, -1},
		19:          {0, -1, -1, -1},
		20:          {1, -1, -1, -1},
		22:          {1, -1, -1, -1},
		23:          {-1, -1, -1, 2},
		24:          {-1, -1, -1, 2},
		25:          {-1, -1, 0, 2},
		32:          {-1, -1, 0, 2},
		33:          {-1, -1, 0, -1},
		34:          {-1, -1, 0, -1},
		35:          {-1, -1, -1, -1},
		36:          {-1, -1, -1, -1},
		100000:      {-1, -1, -1, -1},
		100001:      {-1, -1, -1, -1},
		math.MaxInt: {-1, -1, -1, -1},
	}
	for minute, want := range cases {
		checkInts(t, "minute "+strconv.Itoa(minute), impl.OnEdges(n, list, late, minute), want)
	}
	checkPlayed(t, n, list, late)
	// A day may go on behind MaxMinute: so does the answer.
	beyond := []impl.Trip{hop("a", 0, 1, 99990, 100000), hop("b", 1, 0, 99980, 100000)}
	if got := impl.OnEdges(n, beyond, []int{0, 0}, 100001); !slices.Equal(got, []int{0, -1, -1, -1}) {
		t.Error("behind MaxMinute", got)
	}
	if got := impl.OnEdges(n, beyond, []int{10000, 10000}, 109990); !slices.Equal(got, []int{1, -1, -1, -1}) {
		t.Error("behind MaxMinute, late", got)
	}
	checkPlayed(t, n, beyond, []int{10000, 10000})
}

func TestPunctual(t *testing.T) {
	n := lineNet(4)
	list := []impl.Trip{hop("a", 0, 1, 10, 20), hop("b", 1, 2, 10, 20), hop("c", 2, 3, 10, 20), hop("d", 3, 2, 40, 50)}
	late := []int{0, 3, 7, 3}
	cases := map[int]int{math.MinInt: 0, -1: 0, 0: 1, 1: 1, 2: 1, 3: 3, 4: 3, 6: 3, 7: 4, 8: 4, 10001: 4, math.MaxInt: 4}
	for limit, want := range cases {
		if got := impl.Punctual(n, list, late, limit); got != want {
			t.Errorf("%d: %d, not %d", limit, got, want)
		}
	}
	if got := impl.Punctual(n, list, []int{10000, 10000, 10000, 10000}, 9999); got != 0 {
		t.Error("all are late", got)
	}
	if got := impl.Punctual(n, list, []int{10000, 10000, 10000, 10000}, 10000); got != 4 {
		t.Error("all are just so late", got)
	}
	// The last one is ready 5 minutes ahead of the third one's arrival, and waits so long.
	waits := []int{10000, 10000, 10000, 9975}
	checkInts(t, "one waits", impl.LateAt(n, list, waits), []int{10000, 10000, 10000, 9980})
	if impl.Punctual(n, list, waits, 9979) != 0 || impl.Punctual(n, list, waits, 9980) != 1 || impl.Punctual(n, list, waits, 10000) != 4 {
		t.Error("one waits")
	}
	for _, limit := range []int{math.MinInt, -1, 0, math.MaxInt} {
		if impl.Punctual(n, list, late[:3], limit) != -1 || impl.Punctual(n, nil, nil, limit) != 0 || impl.Punctual(impl.Net{}, nil, nil, limit) != -1 {
			t.Error("no day", limit)
		}
	}
}

func TestApart(t *testing.T) {
	// Edges 0 and 1 join the same nodes: all trips between them are on the first.
	n := impl.Net{Nodes: 3, Edges: tracks(0, 1, 1, 0, 1, 2)}
	list := []impl.Trip{
		tripOf("a", at(0, 1, 1), at(1, 2, 2), at(2, 3, 3)),
		hop("b", 1, 0, 1, 2),
		tripOf("c", at(0, 1, 1), at(1, 2, 2), at(0, 3, 3)),
	}
	cases := map[string]struct {
		runs []impl.Run
		want bool
	}{
		"nothing":                         {nil, true},
		"an empty list":                   {[]impl.Run{}, true},
		"one":                             {[]impl.Run{runOf(0, 0, 5, 9)}, true},
		"the last trip and leg":           {[]impl.Run{runOf(2, 1, 5, 9)}, true},
		"a trip of -1":                    {[]impl.Run{runOf(-1, 0, 5, 9)}, false},
		"a trip beyond the last":          {[]impl.Run{runOf(3, 0, 5, 9)}, false},
		"a leg of -1":                     {[]impl.Run{runOf(0, -1, 5, 9)}, false},
		"a leg beyond the last":           {[]impl.Run{runOf(0, 2, 5, 9)}, false},
		"a leg beyond the last of two":    {[]impl.Run{runOf(1, 1, 5, 9)}, false},
		"From is To":                      {[]impl.Run{runOf(0, 0, 9, 9)}, false},
		"From is beyond To":               {[]impl.Run{runOf(0, 0, 10, 9)}, false},
		"one minute":                      {[]impl.Run{runOf(0, 0, 9, 10)}, true},
		"a wrong one at the end":          {[]impl.Run{runOf(0, 0, 5, 9), runOf(1, 0, 20, 21), runOf(2, 2, 30, 31)}, false},
		"a wrong one between":             {[]impl.Run{runOf(0, 0, 5, 9), runOf(1, 0, 21, 21), runOf(2, 1, 30, 31)}, false},
		"no minute is shared":             {[]impl.Run{runOf(0, 0, 5, 9), runOf(1, 0, 10, 12)}, true},
		"they just touch":                 {[]impl.Run{runOf(0, 0, 5, 9), runOf(1, 0, 9, 12)}, true},
		"they just touch, turned":         {[]impl.Run{runOf(1, 0, 9, 12), runOf(0, 0, 5, 9)}, true},
		"one minute is shared":            {[]impl.Run{runOf(0, 0, 5, 10), runOf(1, 0, 9, 12)}, false},
		"one minute is shared, turned":    {[]impl.Run{runOf(1, 0, 9, 12), runOf(0, 0, 5, 10)}, false},
		"one within the other":            {[]impl.Run{runOf(0, 0, 5, 20), runOf(1, 0, 9, 12)}, false},
		"the other within the one":        {[]impl.Run{runOf(0, 0, 9, 12), runOf(1, 0, 5, 20)}, false},
		"the same From":                   {[]impl.Run{runOf(0, 0, 5, 6), runOf(1, 0, 5, 20)}, false},
		"the same To":                     {[]impl.Run{runOf(0, 0, 5, 20), runOf(1, 0, 19, 20)}, false},
		"the same run twice":              {[]impl.Run{runOf(0, 0, 5, 9), runOf(0, 0, 5, 9)}, false},
		"the same trip, two minutes":      {[]impl.Run{runOf(0, 0, 5, 9), runOf(0, 0, 9, 10)}, true},
		"the same trip, two legs":         {[]impl.Run{runOf(2, 0, 5, 9), runOf(2, 1, 8, 10)}, false},
		"the same trip, two edges":        {[]impl.Run{runOf(0, 0, 5, 9), runOf(0, 1, 5, 9)}, true},
		"two edges in one minute":         {[]impl.Run{runOf(1, 0, 5, 9), runOf(0, 1, 5, 9)}, true},
		"the first and the last meet":     {[]impl.Run{runOf(0, 0, 5, 9), runOf(0, 1, 5, 9), runOf(1, 0, 9, 12), runOf(2, 0, 8, 9)}, false},
		"the last two meet":               {[]impl.Run{runOf(0, 0, 5, 9), runOf(0, 1, 5, 9), runOf(1, 0, 10, 12), runOf(2, 0, 11, 12)}, false},
		"not in the order of time":        {[]impl.Run{runOf(2, 1, 50, 60), runOf(0, 0, 5, 9), runOf(1, 0, 20, 30), runOf(2, 0, 9, 20)}, true},
		"not as planned":                  {[]impl.Run{runOf(0, 1, 1, 2), runOf(0, 0, 7, 8)}, true},
		"ahead of all minutes":            {[]impl.Run{runOf(0, 0, -9, -5), runOf(1, 0, -5, 0)}, true},
		"ahead of all minutes, one meets": {[]impl.Run{runOf(0, 0, -9, -5), runOf(1, 0, -6, 0)}, false},
		"behind all minutes":              {[]impl.Run{runOf(0, 0, 100000, 100001), runOf(1, 0, 100001, 2400000)}, true},
		"from end to end":                 {[]impl.Run{runOf(0, 0, math.MinInt, math.MaxInt)}, true},
		"from end to end, one meets":      {[]impl.Run{runOf(0, 0, math.MinInt, math.MaxInt), runOf(1, 0, 0, 1)}, false},
		"from end to end, on two edges":   {[]impl.Run{runOf(0, 0, math.MinInt, math.MaxInt), runOf(0, 1, math.MinInt, math.MaxInt)}, true},
		"both halves of all":              {[]impl.Run{runOf(0, 0, math.MinInt, 0), runOf(1, 0, 0, math.MaxInt)}, true},
		"the wrong way from end to end":   {[]impl.Run{runOf(0, 0, math.MaxInt, math.MinInt)}, false},
		"the greatest trip":               {[]impl.Run{runOf(math.MaxInt, 0, 5, 9)}, false},
		"the least leg":                   {[]impl.Run{runOf(0, math.MinInt, 5, 9)}, false},
		"the greatest leg":                {[]impl.Run{runOf(0, math.MaxInt, 5, 9)}, false},
	}
	for name, c := range cases {
		if got := checkRunsApart(t, n, list, c.runs); got != c.want {
			t.Errorf("%s: %v", name, got)
		}
	}
	checkApartRefuses(t, n, list)
}

func checkApartRefuses(t *testing.T, n impl.Net, list []impl.Trip) {
	t.Helper()
	var many []impl.Run
	for k := range impl.MaxUses + 1 {
		many = append(many, runOf(k%3, 0, k, k+1))
	}
	if !checkRunsApart(t, n, list, many[:impl.MaxUses]) || checkRunsApart(t, n, list, many) {
		t.Error("as many runs as there may be, and one more")
	}
	meets := slices.Clone(many[:impl.MaxUses])
	meets[299].From--
	if checkRunsApart(t, n, list, meets) {
		t.Error("the last of as many as there may be meets the one ahead of it")
	}
	one := []impl.Run{runOf(0, 0, 5, 9)}
	for _, runs := range [][]impl.Run{nil, one} {
		for name, wrong := range wrongNets() {
			if checkRunsApart(t, wrong, list, runs) || checkRunsApart(t, wrong, nil, nil) {
				t.Error(name)
			}
		}
		for _, wrong := range wrongTables() {
			if checkRunsApart(t, n, wrong, runs) {
				t.Error(wrong)
			}
		}
		if checkRunsApart(t, n, append(tableCopy(list), hop("d", 0, 2, 1, 2)), runs) {
			t.Error("not ridden")
		}
	}
	if checkRunsApart(t, n, nil, one) {
		t.Error("a run of no trip")
	}
	if impl.Apart(n, list, make([]impl.Run, 1000000)) {
		t.Error("a great many")
	}
}

// TestApartOfEverySmallList has all lists of up to three runs of a few minutes, right and wrong.
func TestApartOfEverySmallList(t *testing.T) {
	n := lineNet(3)
	list := []impl.Trip{tripOf("a", at(0, 1, 1), at(1, 2, 2), at(2, 3, 3)), hop("b", 1, 0, 1, 2)}
	var choices []impl.Run
	for from := range 4 {
		for to := from; to <= 4; to++ {
			choices = append(choices, runOf(0, 0, from, to), runOf(1, 0, from, to))
		}
		choices = append(choices, runOf(0, 1, from, from+2))
	}
	choices = append(choices, runOf(0, 2, 0, 1), runOf(2, 0, 0, 1), runOf(-1, 0, 0, 1), runOf(1, -1, 0, 1))
	apart := 0
	manyLists(3, choices, func(runs []impl.Run) {
		if got := impl.Apart(n, list, runs); got != apartByWords(n, list, runs) {
			t.Fatalf("Apart(%v): %v", runs, got)
		} else if got {
			apart++
		}
	})
	if apart < 1000 {
		t.Error("few are apart", apart)
	}
}

func TestApartThrown(t *testing.T) {
	d := &dice{state: 211}
	apart, not := 0, 0
	for range 3000 {
		n := someNet(d, 2+d.below(5), 1+d.below(8), 3)
		list := tableOn(d, n, 1+d.below(8), 30, 6)
		var runs []impl.Run
		span := []int{20, 200, 2000}[d.below(3)]
		for range d.below(20) {
			place, from := d.below(len(list)), d.below(span)
			runs = append(runs, runOf(place, d.below(len(list[place].Calls)-1), from, from+1+d.below(10)))
		}
		if len(runs) > 0 && d.below(10) == 0 {
			r := &runs[d.below(len(runs))]
			*[]*int{&r.Trip, &r.Leg, &r.From, &r.To}[d.below(4)] += []int{-12, 12, -30, 30}[d.below(4)]
		}
		if checkRunsApart(t, n, list, runs) {
			apart++
		} else {
			not++
		}
	}
	if apart < 500 || not < 500 {
		t.Error(apart, not)
	}
}

func TestDayOfAsManyTripsAsThereMayBe(t *testing.T) {
	n := oneTrack()
	none := make([]int, 25)
	runs := checkPlayed(t, n, shuttles(24, 0, 12), none[:24])
	// One minute each: by place they go, over and over, as long as somebody with a lesser place is not ready again.
	if len(runs) != 264 || runs[0] != runOf(0, 0, 1, 2) || runs[1] != runOf(1, 0, 2, 3) || runs[2] != runOf(0, 1, 3, 4) {
		t.Error(runs)
	}
	last := runs[263]
	if last.To != 265 || last.Trip != 23 || last.Leg != 10 {
		t.Error("the edge is never free, and the last trip ends the day", last)
	}
	checkNoDay(t, "one trip more", n, shuttles(25, 0, 12), none)
	checkNoDay(t, "one trip more, each with a leg", n, shuttles(25, 0, 2), none)
	checkNoDay(t, "one trip more than numbers", n, shuttles(24, 0, 12), none)
	late := make([]int, 24)
	for k := range late {
		late[k] = 5 * (24 - k)
	}
	checkPlayed(t, n, shuttles(24, 0, 12), late)
	hops := impl.Clockface(hop("c", 0, 1, 0, 10), 10, 24)
	checkRunList(t, "one behind the other", checkPlayed(t, n, hops, none[:24]), impl.Planned(n, hops))
	checkPlayed(t, n, impl.Clockface(hop("c", 0, 1, 0, 11), 10, 24), none[:24])
	checkPlayed(t, n, impl.Clockface(hop("c", 0, 1, 0, 9), 10, 24), late)
}

// TestLongDays has days that go on far behind MaxMinute, and as long as a day can be.
func TestLongDays(t *testing.T) {
	n := oneTrack()
	var list []impl.Trip
	for k := range impl.MaxTrips {
		list = append(list, hop("t"+strconv.Itoa(k), k%2, 1-k%2, 0, impl.MaxMinute))
	}
	late := make([]int, impl.MaxTrips)
	runs := impl.PlayDay(n, list, late)
	for k, r := range runs {
		if r != runOf(k, 0, k*impl.MaxMinute, (k+1)*impl.MaxMinute) {
			t.Fatal(k, r)
		}
	}
	if len(runs) != 24 || impl.Waited(n, list, late) != 276*impl.MaxMinute || impl.LateAt(n, list, late)[23] != 23*impl.MaxMinute {
		t.Error(len(runs), impl.Waited(n, list, late))
	}
	for k := range impl.MaxTrips {
		late[k] = impl.MaxLate
		if got := impl.OnEdges(n, list, make([]int, 24), k*impl.MaxMinute+5); got[0] != k {
			t.Error("on the edge", k, got)
		}
	}
	if got := impl.PlayDay(n, list, late); len(got) != 24 || got[23] != runOf(23, 0, 2310000, 2410000) {
		t.Error("all are late", got)
	}
	if impl.Punctual(n, list, late, 10000) != 1 || impl.Punctual(n, list, late, 2309999) != 23 || impl.Punctual(n, list, late, 2310000) != 24 {
		t.Error("how late")
	}
	checkPlayed(t, n, list[:6], late[:6])
	// The last minutes that a timetable can tell.
	checkPlayed(t, n, []impl.Trip{hop("a", 0, 1, 99999, 100000), hop("b", 1, 0, 99999, 100000), hop("c", 1, 0, 99998, 100000)}, []int{0, 10000, 10000})
}

// TestDayOfEverySmallTable has all timetables of up to three of a few trips, with all lateness of up to two minutes.
func TestDayOfEverySmallTable(t *testing.T) {
	n := impl.Net{Nodes: 3, Edges: tracks(0, 1, 2, 1)}
	choices := []impl.Trip{
		hop("", 0, 1, 0, 2), hop("", 0, 1, 1, 2), hop("", 1, 0, 1, 3), hop("", 1, 2, 2, 3),
		tripOf("", at(0, 0, 0), at(1, 2, 2), at(2, 4, 4)),
		tripOf("", at(2, 0, 1), at(1, 2, 3), at(0, 4, 4)),
		tripOf("", at(0, 0, 0), at(1, 1, 1), at(0, 2, 4), at(1, 5, 5)),
	}
	waited := 0
	manyLists(3, choices, func(list []impl.Trip) {
		named := tableCopy(list)
		for k := range named {
			named[k].Name = string(rune('a' + k))
		}
		eachList(len(named), 2, func(late []int) {
			day := playedByWords(n, named, late, 0)
			if got := impl.PlayDay(n, named, late); !slices.Equal(got, day.runs) {
				t.Fatalf("PlayDay(%v, %v): %v, not %v", named, late, got, day.runs)
			}
			if len(named) < 3 {
				checkPlayed(t, n, named, late)
			}
			waited += day.waited
		})
	})
	if waited < 5000 {
		t.Error("few wait", waited)
	}
}

// someLateness throws a number for each trip; most are 0.
func someLateness(d *dice, trips, most int) []int {
	late := make([]int, trips)
	for k := range late {
		if d.below(3) == 0 {
			late[k] = d.below(most + 1)
		}
	}
	return late
}

func TestDayThrown(t *testing.T) {
	d := &dice{state: 212}
	waits, late := 0, 0
	for round := range 1500 {
		n := someNet(d, 2+d.below(6), 1+d.below(8), 3)
		list := tableOn(d, n, d.below([]int{5, 25}[round%2]), []int{10, 60, 200}[d.below(3)], 1+d.below(9))
		lateness := someLateness(d, len(list), []int{0, 3, 30, 300}[d.below(4)])
		checkPlayed(t, n, list, lateness)
		waits += min(1, impl.Waited(n, list, lateness))
		for _, minutes := range impl.LateAt(n, list, lateness) {
			late += min(1, minutes)
		}
	}
	if waits < 500 || late < 2000 {
		t.Error("few wait, or few are late", waits, late)
	}
}

// checkPromise23 looks at a day by itself: who is where, and when everybody left.
func checkPromise23(t *testing.T, n impl.Net, list []impl.Trip, late []int) []impl.Run {
	t.Helper()
	runs := impl.PlayDay(n, list, late)
	edges := edgesByWords(n, list)
	type spot struct{ edge, minute int }
	taken := map[spot]int{}
	legs, came := make([]int, len(list)), make([]int, len(list))
	for i, r := range runs {
		for minute := r.From; minute < r.To; minute++ {
			here := spot{edges[r.Trip][r.Leg], minute}
			if taken[here]++; taken[here] > 1 {
				t.Fatalf("two trains are on one edge: %v, %v, %v, %v", n, list, late, runs)
			}
		}
		calls := list[r.Trip].Calls
		if r.Leg != legs[r.Trip] || r.To-r.From != calls[r.Leg+1].Arr-calls[r.Leg].Dep {
			t.Fatalf("not the next leg, or not as long: %v of %v", r, list[r.Trip])
		}
		if r.From < calls[r.Leg].Dep || r.To < calls[r.Leg+1].Arr || r.From < came[r.Trip] || r.Leg == 0 && r.From < calls[0].Dep+late[r.Trip] {
			t.Fatalf("ahead of time: %v of %v, late by %d", r, list[r.Trip], late[r.Trip])
		}
		if i > 0 && (r.From < runs[i-1].From || r.From == runs[i-1].From && r.Trip <= runs[i-1].Trip) {
			t.Fatalf("not in the order in which they began: %v", runs)
		}
		legs[r.Trip]++
		came[r.Trip] = r.To
	}
	for place, trip := range list {
		if legs[place] != len(trip.Calls)-1 {
			t.Fatalf("a trip has not come to its last call: %v, %v", trip, runs)
		}
	}
	return runs
}

// checkNobodyWaitsInVain: who waits has somebody on its edge in each minute from being ready on, or one with a lesser place that leaves.
func checkNobodyWaitsInVain(t *testing.T, n impl.Net, list []impl.Trip, late []int, runs []impl.Run) {
	t.Helper()
	edges := edgesByWords(n, list)
	came := make([]int, len(list))
	for _, r := range runs {
		ready := max(list[r.Trip].Calls[r.Leg].Dep, came[r.Trip])
		if r.Leg == 0 {
			ready += late[r.Trip]
		}
		came[r.Trip] = r.To
		for minute := ready; minute < r.From; minute++ {
			if !slices.ContainsFunc(runs, func(o impl.Run) bool {
				if edges[o.Trip][o.Leg] != edges[r.Trip][r.Leg] || o.Trip == r.Trip || minute < o.From || minute >= o.To {
					return false
				}
				return o.From < minute || o.Trip < r.Trip
			}) {
				t.Fatalf("%v waits in vain in minute %d: %v, %v, %v, %v", r, minute, n, list, late, runs)
			}
		}
	}
}

func TestPromise23(t *testing.T) {
	d := &dice{state: 213}
	apart, shifted := 0, 0
	for round := range 800 {
		n := someNet(d, 2+d.below(7), 2+d.below(9), 3)
		list := tableOn(d, n, 1+d.below(12), []int{40, 400}[round%2], 7)
		none := make([]int, len(list))
		plan, runs := impl.Planned(n, list), checkPromise23(t, n, list, none)
		if impl.Apart(n, list, plan) {
			apart++
			checkRunList(t, "the day is the plan", runs, plan)
			if impl.Waited(n, list, none) != 0 || impl.Punctual(n, list, none, 0) != len(list) || slices.Max(impl.LateAt(n, list, none)) != 0 {
				t.Fatalf("a plan that is apart: %v, %v", n, list)
			}
		} else {
			shifted++
			if slices.Equal(runs, plan) {
				t.Fatalf("a plan that is not apart is played: %v, %v", n, list)
			}
		}
		if !impl.Apart(n, list, runs) {
			t.Fatalf("the day is not apart: %v, %v, %v", n, list, runs)
		}
		checkNobodyWaitsInVain(t, n, list, none, runs)
		late := someLateness(d, len(list), 40)
		runs = checkPromise23(t, n, list, late)
		checkNobodyWaitsInVain(t, n, list, late, runs)
		for place, minutes := range impl.LateAt(n, list, late) {
			if minutes < 0 {
				t.Fatalf("trip %d comes early: %v, %v, %v", place, n, list, late)
			}
		}
	}
	if apart < 100 || shifted < 100 {
		t.Error("few plans are apart, or few are not", apart, shifted)
	}
}

func TestDaySharesNoMemory(t *testing.T) {
	// Room behind the lists: what is put there would be seen.
	edges := tracks(0, 1, 1, 2, 0, 2)
	trips := []impl.Trip{
		tripOf("a", at(0, 1, 1), at(1, 5, 6), at(2, 9, 9)), hop("b", 1, 0, 2, 4), hop("c", 0, 1, 1, 2),
	}
	late := []int{0, 3, 7, 7}
	room, wereTrips, wasLate := slices.Clone(edges), tableCopy(trips), slices.Clone(late)
	n, list := impl.Net{Nodes: 3, Edges: edges[:2]}, trips[:2]
	for range 3 {
		plan, runs := impl.Planned(n, list), impl.PlayDay(n, list, late[:2])
		checkRunList(t, "Planned", plan, []impl.Run{runOf(0, 0, 1, 5), runOf(1, 0, 2, 4), runOf(0, 1, 6, 9)})
		checkRunList(t, "PlayDay", runs, []impl.Run{runOf(0, 0, 1, 5), runOf(1, 0, 5, 7), runOf(0, 1, 6, 9)})
		lateness, on := impl.LateAt(n, list, late[:2]), impl.OnEdges(n, list, late[:2], 6)
		checkInts(t, "LateAt", lateness, []int{0, 3})
		checkInts(t, "OnEdges", on, []int{1, 0})
		if impl.Waited(n, list, late[:2]) != 0 || impl.Punctual(n, list, late[:2], 0) != 1 || !impl.Apart(n, list, runs[:2]) {
			t.Error("what is counted")
		}
		for k := range plan {
			plan[k], runs[k] = runOf(-9, -9, -9, -9), runOf(-9, -9, -9, -9)
		}
		for k := range 2 {
			lateness[k], on[k] = -9, -9
		}
		_, _, _, _ = append(plan, runOf(-8, 0, 0, 0)), append(runs, runOf(-8, 0, 0, 0)), append(lateness, -8), append(on, -8)
		if !slices.Equal(edges, room) || !sameTable(trips, wereTrips) || !slices.Equal(late, wasLate) {
			t.Fatal(edges, trips, late)
		}
	}
}

// TestDaysAreOne asks for the same day often, and by many at once: however the trips run, the day is one, and all of them end.
func TestDaysAreOne(t *testing.T) {
	before := runtime.NumGoroutine()
	d := &dice{state: 214}
	n := someNet(d, 8, 14, 3)
	list := tableOn(d, n, impl.MaxTrips, 20, 5)
	late := someLateness(d, len(list), 15)
	day := playedByWords(n, list, late, 60)
	wrong := slices.Concat(late, []int{0})
	var all sync.WaitGroup
	for range 16 {
		all.Go(func() {
			for minute, on := range day.on {
				if !slices.Equal(impl.PlayDay(n, list, late), day.runs) || !slices.Equal(impl.LateAt(n, list, late), day.at) || impl.Waited(n, list, late) != day.waited {
					t.Error("another day")
				}
				if !slices.Equal(impl.OnEdges(n, list, late, minute), on) || impl.PlayDay(n, list, wrong) != nil {
					t.Error("another minute")
				}
			}
		})
	}
	all.Wait()
	// Whoever has told that it is done may still be on its way out.
	for try := 0; try < 10000 && runtime.NumGoroutine() > before; try++ {
		runtime.Gosched()
	}
	if after := runtime.NumGoroutine(); after > before {
		t.Error("goroutines are left", before, after)
	}
}

func TestDayNeverPanics(t *testing.T) {
	extremes := []int{math.MinInt, math.MinInt + 1, -2, -1, 0, 1, 2, 10000, 10001, 100000, 100001, math.MaxInt - 1, math.MaxInt}
	nets := []impl.Net{{}, oneTrack(), lineNet(3), {Nodes: math.MaxInt, Edges: tracks(0, 1)}, {Nodes: 2, Edges: tracks(-5, math.MaxInt)}}
	d := &dice{state: 215}
	pick := func() int { return extremes[d.below(len(extremes))] }
	for range 8000 {
		n := nets[d.below(len(nets))]
		list := []impl.Trip{hop("a", 0, 1, d.below(9), 10), tripOf("b", at(1, 0, d.below(5)), at(0, 6, 8), at(1, 9, 9)), tripOf("c", at(d.below(2), pick(), pick()), at(pick(), pick(), pick())), {}}[:d.below(5)]
		late := []int{d.below(9), d.below(10001), pick(), pick(), 0}[:d.below(6)]
		runs := []impl.Run{runOf(0, 0, pick(), pick()), runOf(1, d.below(2), pick(), pick()), runOf(pick(), pick(), pick(), pick())}[:d.below(4)]
		minute := pick()
		if panicsIn(func() {
			if dayOkByWords(n, list, late) {
				checkPlayed(t, n, list, late)
			} else {
				checkNoDay(t, "thrown", n, list, late)
			}
			checkRunsApart(t, n, list, runs)
			impl.OnEdges(n, list, late, minute)
			impl.Punctual(n, list, late, minute)
		}) {
			t.Fatalf("%v, %v, %v, %v, %d", n, list, late, runs, minute)
		}
	}
	if impl.DayOk(impl.Net{}, nil, nil) || impl.Planned(impl.Net{}, nil) != nil || impl.PlayDay(impl.Net{}, nil, nil) != nil || impl.LateAt(impl.Net{}, nil, nil) != nil {
		t.Error("nil lists, and no net")
	}
	if impl.OnEdges(impl.Net{}, nil, nil, 0) != nil || impl.Waited(impl.Net{}, nil, nil) != -1 || impl.Punctual(impl.Net{}, nil, nil, 0) != -1 || impl.Apart(impl.Net{}, nil, nil) {
		t.Error("nil lists, and no net")
	}
	huge, hugeLate := make([]impl.Trip, 100000), make([]int, 100000)
	if impl.DayOk(oneTrack(), huge, hugeLate) || impl.PlayDay(oneTrack(), huge, hugeLate) != nil || len(impl.Planned(oneTrack(), huge)) != 0 || impl.Waited(oneTrack(), huge, hugeLate) != -1 || impl.Apart(oneTrack(), huge, nil) {
		t.Error("a huge list")
	}
}
