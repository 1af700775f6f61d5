package tests

import (
	"cmp"
	"fmt"
	"math"
	"slices"
	"strconv"
	"strings"
	"sync"
	"testing"

	"loop.example/g00075/impl"
)

func leg(trip, on, off int) impl.Leg {
	return impl.Leg{Trip: trip, On: on, Off: off}
}

// asking is what the questions of the chapter are asked with.
type asking struct {
	from, to, minute, change, hops int
}

// givenTable is the one of which the chapter's figures are easily told by hand.
func givenTable() []impl.Trip {
	return []impl.Trip{
		tripOf("a", at(0, 10, 10), at(1, 20, 22), at(2, 40, 40)),
		tripOf("b", at(1, 25, 25), at(2, 30, 30)),
		tripOf("c", at(0, 30, 30), at(2, 60, 60)),
	}
}

// relay has so many trips, each from a node to the next one, with a minute between an arrival and the next departure.
func relay(trips int) []impl.Trip {
	var list []impl.Trip
	for k := range trips {
		list = append(list, hop("r"+strconv.Itoa(k), k, k+1, 10*k, 10*k+9))
	}
	return list
}

// legsByWords asks each leg by itself, and each one behind another by both.
func legsByWords(list []impl.Trip, legs []impl.Leg, change int) bool {
	if !tableByWords(list) || change < 0 || change > 60 || len(legs) > 5 {
		return false
	}
	node, ready := -1, -1
	for _, l := range legs {
		if l.Trip < 0 || l.Trip >= len(list) {
			return false
		}
		calls := list[l.Trip].Calls
		if l.On < 0 || l.Off < 0 || l.On >= len(calls) || l.Off >= len(calls) || !(l.On < l.Off) {
			return false
		}
		if node != -1 && calls[l.On].Node != node || calls[l.On].Dep < ready {
			return false
		}
		node, ready = calls[l.Off].Node, calls[l.Off].Arr+change
	}
	return true
}

func askedByWords(list []impl.Trip, q asking) bool {
	if !tableByWords(list) || !minuteByWords(q.minute) {
		return false
	}
	return max(q.from, q.to) < 30 && min(q.from, q.to) > -1 && q.change > -1 && q.change < 61 && q.hops > -1 && q.hops < 6
}

// eachJourney gives every journey of at most hops legs to f, the empty one too, with where and when it arrives.
func eachJourney(list []impl.Trip, q asking, f func(legs []impl.Leg, node, minute int)) {
	var goOn func(legs []impl.Leg, node, arrived, ready int)
	goOn = func(legs []impl.Leg, node, arrived, ready int) {
		f(legs, node, arrived)
		if len(legs) == q.hops {
			return
		}
		for i, trip := range list {
			for on, c := range trip.Calls {
				for off := on + 1; off < len(trip.Calls) && c.Node == node && c.Dep >= ready; off++ {
					end := trip.Calls[off]
					goOn(append(slices.Clone(legs), leg(i, on, off)), end.Node, end.Arr, end.Arr+q.change)
				}
			}
		}
	}
	goOn(nil, q.from, q.minute, q.minute)
}

func compareLegs(a, b []impl.Leg) int {
	return cmp.Or(cmp.Compare(len(a), len(b)), slices.CompareFunc(a, b, func(x, y impl.Leg) int {
		return slices.Compare([]int{x.Trip, x.On, x.Off}, []int{y.Trip, y.On, y.Off})
	}))
}

// bestByWords goes through all journeys: for each node that one arrives at, the minute and the legs of the best.
func bestByWords(list []impl.Trip, q asking) (minutes map[int]int, journeys map[int][]impl.Leg) {
	minutes, journeys = map[int]int{}, map[int][]impl.Leg{}
	if !askedByWords(list, q) {
		return minutes, journeys
	}
	eachJourney(list, q, func(legs []impl.Leg, node, minute int) {
		best, there := minutes[node]
		if !there || minute < best || minute == best && compareLegs(legs, journeys[node]) < 0 {
			minutes[node], journeys[node] = minute, legs
		}
	})
	return minutes, journeys
}

func soonestByWords(list []impl.Trip, q asking) int {
	minutes, _ := bestByWords(list, q)
	if minute, there := minutes[q.to]; there {
		return minute
	}
	return -1
}

// latestByWords tries every minute, from by down.
func latestByWords(list []impl.Trip, q asking) int {
	for minute := q.minute; askedByWords(list, q) && minute >= 0; minute-- {
		then := q
		then.minute = minute
		if soonest := soonestByWords(list, then); soonest != -1 && soonest <= q.minute {
			return minute
		}
	}
	return -1
}

func journeyTextByWords(list []impl.Trip, legs []impl.Leg, change int) string {
	text := ""
	for i := 0; legsByWords(list, legs, change) && i < len(legs); i++ {
		trip := list[legs[i].Trip]
		dep, arr := trip.Calls[legs[i].On].Dep, trip.Calls[legs[i].Off].Arr
		text += fmt.Sprintf(" / %s %02d:%02d-%02d:%02d", trip.Name, dep/60, dep%60, arr/60, arr%60)
	}
	return strings.TrimPrefix(text, " / ")
}

func checkLegs(t *testing.T, list []impl.Trip, legs []impl.Leg, change int) bool {
	t.Helper()
	list0, legs0 := tableCopy(list), slices.Clone(legs)
	want := legsByWords(list, legs, change)
	if got := impl.LegsOk(list, legs, change); got != want {
		t.Fatalf("LegsOk(%v, %v, %d): %v", list, legs, change, got)
	}
	if got, text := impl.JourneyText(list, legs, change), journeyTextByWords(list, legs, change); got != text {
		t.Fatalf("JourneyText(%v, %v, %d): %q, not %q", list, legs, change, got, text)
	}
	if !sameTable(list, list0) || !slices.Equal(legs, legs0) {
		t.Fatalf("%v was %v, %v was %v", list, list0, legs, legs0)
	}
	return want
}

// checkBest holds Soonest, Journey and Within against what is the best for each node.
func checkBest(t *testing.T, list []impl.Trip, q asking, minutes map[int]int, journeys map[int][]impl.Leg) {
	t.Helper()
	list0 := tableCopy(list)
	want, there := minutes[q.to]
	if !there {
		want = -1
	}
	if got := impl.Soonest(list, q.from, q.to, q.minute, q.change, q.hops); got != want {
		t.Fatalf("Soonest(%v, %+v): %d, not %d", list, q, got, want)
	}
	got := impl.Journey(list, q.from, q.to, q.minute, q.change, q.hops)
	if !slices.Equal(got, journeys[q.to]) {
		t.Fatalf("Journey(%v, %+v): %v, not %v", list, q, got, journeys[q.to])
	}
	if there {
		checkLegs(t, list, got, q.change)
	}
	var nodes []int
	for node := range minutes {
		nodes = append(nodes, node)
	}
	slices.Sort(nodes)
	within := impl.Within(list, q.from, q.minute, q.change, q.hops)
	fromOnly := asking{q.from, q.from, q.minute, q.change, q.hops}
	if askedByWords(list, q) && !slices.Equal(within, nodes) || !askedByWords(list, fromOnly) && len(within) != 0 {
		t.Fatalf("Within(%v, %+v): %v, not %v", list, q, within, nodes)
	}
	if !sameTable(list, list0) {
		t.Fatalf("%v was %v", list, list0)
	}
}

func checkFastest(t *testing.T, list []impl.Trip, q asking) {
	t.Helper()
	list0 := tableCopy(list)
	var want []int
	q.hops = 5
	for hops := 1; askedByWords(list, q) && hops <= 5; hops++ {
		then := q
		then.hops = hops
		want = append(want, soonestByWords(list, then))
	}
	if got := impl.Fastest(list, q.from, q.to, q.minute, q.change); !slices.Equal(got, want) {
		t.Fatalf("Fastest(%v, %+v): %v, not %v", list, q, got, want)
	}
	if !sameTable(list, list0) {
		t.Fatalf("%v was %v", list, list0)
	}
}

func checkLatest(t *testing.T, list []impl.Trip, q asking) {
	t.Helper()
	list0 := tableCopy(list)
	if got, want := impl.Latest(list, q.from, q.to, q.minute, q.change, q.hops), latestByWords(list, q); got != want {
		t.Fatalf("Latest(%v, %+v): %d, not %d", list, q, got, want)
	}
	if !sameTable(list, list0) {
		t.Fatalf("%v was %v", list, list0)
	}
}

// checkQuestion holds all but Latest against every journey that there is.
func checkQuestion(t *testing.T, list []impl.Trip, q asking) {
	t.Helper()
	minutes, journeys := bestByWords(list, q)
	checkBest(t, list, q, minutes, journeys)
	checkFastest(t, list, q)
}

// memo finds the best journey from its end: what is the best from an arrival on is worked out once.
type memo struct {
	list   []impl.Trip
	change int
	known  map[[4]int]ending
}

type ending struct {
	minute int
	legs   []impl.Leg
}

// on answers the best journey of 1 to hops legs from a node, not ahead of ready; its minute is -1 when there is none.
func (m *memo) on(node, to, ready, hops int) ending {
	key := [4]int{node, to, ready, hops}
	if known, ok := m.known[key]; ok {
		return known
	}
	best := ending{minute: -1}
	for i, trip := range m.list {
		for on, c := range trip.Calls {
			if hops == 0 || c.Node != node || c.Dep < ready {
				continue
			}
			for off := on + 1; off < len(trip.Calls); off++ {
				end, first := trip.Calls[off], []impl.Leg{leg(i, on, off)}
				try := ending{minute: end.Arr, legs: first}
				if end.Node != to {
					rest := m.on(end.Node, to, end.Arr+m.change, hops-1)
					try = ending{minute: rest.minute, legs: slices.Concat(first, rest.legs)}
				}
				if try.minute >= 0 && (best.minute < 0 || cmp.Or(cmp.Compare(try.minute, best.minute), compareLegs(try.legs, best.legs)) < 0) {
					best = try
				}
			}
		}
	}
	m.known[key] = best
	return best
}

// bestFromTheEnd tells of a question that is one what bestByWords does, of tables too great for that.
func bestFromTheEnd(list []impl.Trip, q asking) (minutes map[int]int, journeys map[int][]impl.Leg) {
	minutes, journeys = map[int]int{q.from: q.minute}, map[int][]impl.Leg{}
	m := &memo{list: list, change: q.change, known: map[[4]int]ending{}}
	for node := range 30 {
		if best := m.on(q.from, node, q.minute, q.hops); node != q.from && best.minute >= 0 {
			minutes[node], journeys[node] = best.minute, best.legs
		}
	}
	return minutes, journeys
}

// ways throws trips of at most so many calls, of which each lies at most reach nodes beyond the one ahead of it: who
// goes far must change.
func ways(d *dice, trips, calls, span, nodes, reach int) []impl.Trip {
	var list []impl.Trip
	for k := range trips {
		trip := tripOf("t" + strconv.Itoa(k))
		clock, node := d.below(span), d.below(nodes)
		for range 2 + d.below(calls-1) {
			trip.Calls = append(trip.Calls, at(node, clock, clock+d.below(3)))
			clock += 3 + d.below(4)
			node = (node + 1 + d.below(min(reach, nodes-1))) % nodes
		}
		list = append(list, trip)
	}
	return list
}

func TestWayConstants(t *testing.T) {
	if impl.MaxHops != 5 || impl.MaxChange != 60 {
		t.Error(impl.MaxHops, impl.MaxChange)
	}
}

func TestLegsOkByHand(t *testing.T) {
	list := givenTable()
	away := append(givenTable(), hop("d", 5, 2, 50, 60))
	round := []impl.Trip{tripOf("a", at(0, 0, 0), at(1, 5, 8), at(0, 10, 10), at(2, 20, 20))}
	cases := map[string]struct {
		list   []impl.Trip
		legs   []impl.Leg
		change int
		want   bool
	}{
		"nil":                             {nil, nil, 0, true},
		"no trip and no leg":              {[]impl.Trip{}, []impl.Leg{}, 60, true},
		"no trip and a leg":               {nil, []impl.Leg{leg(0, 0, 1)}, 0, false},
		"no leg":                          {list, nil, 5, true},
		"one leg":                         {list, []impl.Leg{leg(0, 0, 1)}, 5, true},
		"one leg to the end":              {list, []impl.Leg{leg(0, 0, 2)}, 60, true},
		"a leg from the middle on":        {list, []impl.Leg{leg(0, 1, 2)}, 5, true},
		"the last trip":                   {list, []impl.Leg{leg(2, 0, 1)}, 5, true},
		"On and Off alike":                {list, []impl.Leg{leg(0, 1, 1)}, 5, false},
		"both alike at the end":           {list, []impl.Leg{leg(0, 2, 2)}, 5, false},
		"On behind Off":                   {list, []impl.Leg{leg(0, 2, 1)}, 5, false},
		"an On of -1":                     {list, []impl.Leg{leg(0, -1, 1)}, 5, false},
		"an Off of -1":                    {list, []impl.Leg{leg(0, 0, -1)}, 5, false},
		"both below 0":                    {list, []impl.Leg{leg(0, -2, -1)}, 5, false},
		"an Off that is no place":         {list, []impl.Leg{leg(0, 0, 3)}, 5, false},
		"no place of that trip":           {list, []impl.Leg{leg(1, 0, 2)}, 5, false},
		"both no places":                  {list, []impl.Leg{leg(0, 3, 4)}, 5, false},
		"a Trip of -1":                    {list, []impl.Leg{leg(-1, 0, 1)}, 5, false},
		"a Trip beyond the last":          {list, []impl.Leg{leg(3, 0, 1)}, 5, false},
		"a change of just so many":        {list, []impl.Leg{leg(0, 0, 1), leg(1, 0, 1)}, 5, true},
		"a change of one minute less":     {list, []impl.Leg{leg(0, 0, 1), leg(1, 0, 1)}, 6, false},
		"no change":                       {list, []impl.Leg{leg(0, 0, 1), leg(1, 0, 1)}, 0, true},
		"the other way round":             {list, []impl.Leg{leg(1, 0, 1), leg(0, 0, 1)}, 0, false},
		"another node":                    {away, []impl.Leg{leg(0, 0, 1), leg(3, 0, 1)}, 5, false},
		"another node, late enough":       {list, []impl.Leg{leg(0, 0, 1), leg(2, 0, 1)}, 5, false},
		"the node of the start again":     {list, []impl.Leg{leg(2, 0, 1), leg(0, 0, 1)}, 0, false},
		"two on one trip, no change":      {list, []impl.Leg{leg(0, 0, 1), leg(0, 1, 2)}, 0, true},
		"two on one trip, as it stands":   {list, []impl.Leg{leg(0, 0, 1), leg(0, 1, 2)}, 2, true},
		"two on one trip, one too many":   {list, []impl.Leg{leg(0, 0, 1), leg(0, 1, 2)}, 3, false},
		"the same leg twice":              {list, []impl.Leg{leg(0, 0, 1), leg(0, 0, 1)}, 0, false},
		"back to the start and on":        {round, []impl.Leg{leg(0, 0, 2), leg(0, 2, 3)}, 0, true},
		"back to the start, to its first": {round, []impl.Leg{leg(0, 0, 2), leg(0, 0, 3)}, 0, false},
		"a first leg that is wrong":       {list, []impl.Leg{leg(0, 1, 0), leg(1, 0, 1)}, 0, false},
		"a last leg that is wrong":        {list, []impl.Leg{leg(0, 0, 1), leg(1, 0, 0)}, 0, false},
		"a last leg that is far off":      {list, []impl.Leg{leg(0, 0, 1), leg(9, 0, 1)}, 0, false},
		"a change of -1":                  {list, nil, -1, false},
		"a change of 0":                   {list, nil, 0, true},
		"a change of MaxChange":           {list, nil, 60, true},
		"a change of one more":            {list, nil, 61, false},
		"a change of -1, one leg":         {list, []impl.Leg{leg(0, 0, 1)}, -1, false},
		"a change of one more, one leg":   {list, []impl.Leg{leg(0, 0, 1)}, 61, false},
		"the greatest change":             {list, []impl.Leg{leg(0, 0, 1), leg(1, 0, 1)}, math.MaxInt, false},
		"the least change":                {list, []impl.Leg{leg(0, 0, 1), leg(1, 0, 1)}, math.MinInt, false},
		"the greatest places":             {list, []impl.Leg{leg(math.MaxInt, math.MaxInt-1, math.MaxInt)}, 0, false},
		"the least places":                {list, []impl.Leg{leg(0, math.MinInt, math.MaxInt)}, 0, false},
		"the least Trip":                  {list, []impl.Leg{leg(math.MinInt, 0, 1)}, 0, false},
		"no timetable, no leg":            {shuttles(25, 0, 2), nil, 0, false},
		"no timetable, one leg":           {shuttles(25, 0, 2), []impl.Leg{leg(0, 0, 1)}, 0, false},
		"as many trips as may be":         {shuttles(24, 0, 2), []impl.Leg{leg(23, 0, 1)}, 0, true},
	}
	for name, c := range cases {
		if got := impl.LegsOk(c.list, c.legs, c.change); got != c.want {
			t.Errorf("%s: %v", name, got)
		}
		checkLegs(t, c.list, c.legs, c.change)
	}
}

func TestLegsOkOfEveryCount(t *testing.T) {
	list, long := relay(24), tripOf("x")
	for k := range 12 {
		long.Calls = append(long.Calls, at(k, 5*k, 5*k+3))
	}
	for count := range 12 {
		var legs, onOne []impl.Leg
		for k := range count {
			legs, onOne = append(legs, leg(k, 0, 1)), append(onOne, leg(0, k, k+1))
		}
		for change := -1; change <= 62; change++ {
			fits := count <= 5 && change >= 0 && change <= 60
			if got := impl.LegsOk(list, legs, change); got != (fits && (count < 2 || change < 2)) {
				t.Errorf("%d legs, a change of %d: %v", count, change, got)
			}
			if got := impl.LegsOk([]impl.Trip{long}, onOne, change); got != (fits && (count < 2 || change < 4)) {
				t.Errorf("%d legs on one trip, a change of %d: %v", count, change, got)
			}
			checkLegs(t, list, legs, change)
			checkLegs(t, []impl.Trip{long}, onOne, change)
		}
	}
	if impl.LegsOk(list, make([]impl.Leg, 100000), 0) || impl.JourneyText(list, make([]impl.Leg, 100000), 0) != "" {
		t.Error("a huge list")
	}
}

func TestLegsOkOfEverySmallList(t *testing.T) {
	list := []impl.Trip{
		tripOf("a", at(0, 0, 1), at(1, 2, 4), at(0, 5, 5)),
		tripOf("b", at(1, 3, 3), at(0, 4, 6), at(1, 7, 7)),
	}
	var all []impl.Leg
	for trip := -1; trip <= 2; trip++ {
		for on := -1; on <= 3; on++ {
			for off := -1; off <= 3; off++ {
				all = append(all, leg(trip, on, off))
			}
		}
	}
	right := 0
	manyLists(2, all, func(legs []impl.Leg) {
		for change := range 4 {
			if checkLegs(t, list, legs, change) {
				right++
			}
		}
	})
	if right < 40 {
		t.Error("too few are right", right)
	}
}

func TestJourneysByHand(t *testing.T) {
	list := givenTable()
	round := []impl.Trip{tripOf("a", at(0, 0, 0), at(1, 5, 8), at(0, 10, 10), at(2, 20, 20))}
	alone := []impl.Trip{hop("a", 3, 4, 50, 60)}
	cases := map[string]struct {
		list    []impl.Trip
		ask     asking
		soonest int
		legs    []impl.Leg
	}{
		"no trip":                            {nil, asking{0, 1, 0, 0, 5}, -1, nil},
		"no trip, where one is":              {nil, asking{0, 0, 9, 0, 5}, 9, nil},
		"one trip":                           {alone, asking{3, 4, 0, 5, 5}, 60, []impl.Leg{leg(0, 0, 1)}},
		"one trip, the other way":            {alone, asking{4, 3, 0, 5, 5}, -1, nil},
		"one trip, another node":             {alone, asking{3, 5, 0, 5, 5}, -1, nil},
		"exactly at the minute":              {alone, asking{3, 4, 50, 5, 5}, 60, []impl.Leg{leg(0, 0, 1)}},
		"one minute too late":                {alone, asking{3, 4, 51, 5, 5}, -1, nil},
		"one minute to go":                   {alone, asking{3, 4, 49, 0, 5}, 60, []impl.Leg{leg(0, 0, 1)}},
		"less than change to the first leg":  {alone, asking{3, 4, 47, 60, 1}, 60, []impl.Leg{leg(0, 0, 1)}},
		"no minute to the first leg":         {alone, asking{3, 4, 50, 60, 1}, 60, []impl.Leg{leg(0, 0, 1)}},
		"one hop is enough":                  {alone, asking{3, 4, 0, 5, 1}, 60, []impl.Leg{leg(0, 0, 1)}},
		"no hop":                             {alone, asking{3, 4, 0, 5, 0}, -1, nil},
		"sooner with more legs":              {list, asking{0, 2, 0, 5, 5}, 30, []impl.Leg{leg(0, 0, 1), leg(1, 0, 1)}},
		"two hops are enough":                {list, asking{0, 2, 0, 5, 2}, 30, []impl.Leg{leg(0, 0, 1), leg(1, 0, 1)}},
		"but one hop only":                   {list, asking{0, 2, 0, 5, 1}, 40, []impl.Leg{leg(0, 0, 2)}},
		"one minute too few for the change":  {list, asking{0, 2, 0, 6, 5}, 40, []impl.Leg{leg(0, 0, 2)}},
		"a first leg at the minute, changed": {list, asking{0, 2, 10, 5, 5}, 30, []impl.Leg{leg(0, 0, 1), leg(1, 0, 1)}},
		"the next trip":                      {list, asking{0, 2, 11, 5, 5}, 60, []impl.Leg{leg(2, 0, 1)}},
		"on where a trip stands":             {list, asking{1, 2, 22, 5, 1}, 30, []impl.Leg{leg(1, 0, 1)}},
		"on where it has arrived":            {list, asking{1, 2, 26, 5, 5}, -1, nil},
		"back there is nothing":              {list, asking{2, 0, 0, 5, 5}, -1, nil},
		"where one is, without hops":         {list, asking{1, 1, 7, 5, 0}, 7, nil},
		"where one is, with hops":            {list, asking{1, 1, 7, 5, 5}, 7, nil},
		"where one is at 0":                  {list, asking{0, 0, 0, 60, 5}, 0, nil},
		"where one is at MaxMinute":          {list, asking{29, 29, 100000, 0, 0}, 100000, nil},
		"where a trip comes back to":         {round, asking{0, 0, 0, 0, 5}, 0, nil},
		"where a trip comes back to, late":   {round, asking{0, 0, 1, 0, 1}, 1, nil},
		"a node that is called at twice":     {round, asking{0, 2, 0, 0, 5}, 20, []impl.Leg{leg(0, 0, 3)}},
		"the second call there":              {round, asking{0, 2, 1, 0, 5}, 20, []impl.Leg{leg(0, 2, 3)}},
		"the second call, just so":           {round, asking{0, 2, 10, 60, 5}, 20, []impl.Leg{leg(0, 2, 3)}},
		"beyond the second call":             {round, asking{0, 2, 11, 60, 5}, -1, nil},
		"to a node that is called at twice":  {round, asking{1, 0, 0, 0, 5}, 10, []impl.Leg{leg(0, 1, 2)}},
		"to the first call of two": {[]impl.Trip{tripOf("a", at(0, 0, 0), at(1, 5, 8), at(2, 10, 10), at(1, 20, 20))},
			asking{0, 1, 0, 0, 5}, 5, []impl.Leg{leg(0, 0, 1)}},
		"fewer legs, as soon": {[]impl.Trip{hop("a", 0, 1, 0, 5), hop("b", 1, 2, 5, 9), hop("c", 0, 2, 3, 9)},
			asking{0, 2, 0, 0, 5}, 9, []impl.Leg{leg(2, 0, 1)}},
		"fewer legs on one trip": {[]impl.Trip{tripOf("a", at(0, 0, 0), at(1, 5, 8), at(2, 10, 10))},
			asking{0, 2, 0, 0, 5}, 10, []impl.Leg{leg(0, 0, 2)}},
		"told apart by Trip": {[]impl.Trip{hop("b", 0, 1, 4, 9), hop("a", 0, 1, 0, 9)},
			asking{0, 1, 0, 0, 5}, 9, []impl.Leg{leg(0, 0, 1)}},
		"the first Trip comes later to the change": {[]impl.Trip{hop("a", 0, 1, 0, 9), hop("b", 0, 1, 0, 5), hop("c", 1, 2, 9, 12)},
			asking{0, 2, 0, 0, 5}, 12, []impl.Leg{leg(0, 0, 1), leg(2, 0, 1)}},
		"the first Trip comes too late to it": {[]impl.Trip{hop("a", 0, 1, 0, 9), hop("b", 0, 1, 0, 5), hop("c", 1, 2, 9, 12)},
			asking{0, 2, 0, 1, 5}, 12, []impl.Leg{leg(1, 0, 1), leg(2, 0, 1)}},
		"the first Trip comes by another node": {[]impl.Trip{hop("a", 0, 3, 0, 9), hop("b", 0, 1, 0, 5), hop("c", 1, 2, 9, 12), hop("d", 3, 2, 9, 12)},
			asking{0, 2, 0, 0, 5}, 12, []impl.Leg{leg(0, 0, 1), leg(3, 0, 1)}},
		"the second Trip of a journey": {[]impl.Trip{hop("a", 1, 2, 7, 12), hop("b", 0, 1, 0, 5), hop("c", 1, 2, 6, 12)},
			asking{0, 2, 0, 0, 5}, 12, []impl.Leg{leg(1, 0, 1), leg(0, 0, 1)}},
		"told apart by On": {[]impl.Trip{tripOf("a", at(0, 0, 1), at(1, 2, 3), at(0, 4, 5), at(2, 6, 7))},
			asking{0, 2, 0, 0, 5}, 6, []impl.Leg{leg(0, 0, 3)}},
		"by Trip ahead of On": {[]impl.Trip{tripOf("a", at(0, 0, 0), at(1, 1, 1), at(0, 2, 2), at(2, 9, 9)), hop("b", 0, 2, 3, 9)},
			asking{0, 2, 1, 0, 5}, 9, []impl.Leg{leg(0, 2, 3)}},
		"told apart by Off": {[]impl.Trip{tripOf("a", at(0, 0, 0), at(1, 2, 2), at(3, 4, 4), at(1, 6, 6)), hop("b", 1, 2, 9, 12)},
			asking{0, 2, 0, 3, 5}, 12, []impl.Leg{leg(0, 0, 1), leg(1, 0, 1)}},
		"an Off that is not left yet": {[]impl.Trip{tripOf("a", at(0, 0, 0), at(1, 2, 2), at(3, 4, 4), at(1, 6, 6)), hop("b", 1, 2, 1, 12), hop("c", 1, 2, 6, 12)},
			asking{0, 2, 0, 0, 5}, 12, []impl.Leg{leg(0, 0, 1), leg(2, 0, 1)}},
		"by On ahead of Off": {[]impl.Trip{tripOf("a", at(0, 0, 0), at(3, 2, 2), at(0, 4, 4), at(1, 6, 6)), hop("b", 1, 2, 9, 12), hop("c", 3, 2, 9, 12)},
			asking{0, 2, 0, 0, 5}, 12, []impl.Leg{leg(0, 0, 1), leg(2, 0, 1)}},
		"the first leg counts ahead of the second": {[]impl.Trip{hop("x", 3, 2, 9, 12), hop("a", 0, 1, 0, 5), hop("b", 0, 3, 0, 5), hop("y", 1, 2, 9, 12)},
			asking{0, 2, 0, 0, 5}, 12, []impl.Leg{leg(1, 0, 1), leg(3, 0, 1)}},
		"by the start again": {[]impl.Trip{hop("a", 0, 1, 0, 5), hop("b", 1, 0, 6, 8), hop("c", 0, 2, 10, 12)},
			asking{0, 2, 0, 0, 5}, 12, []impl.Leg{leg(2, 0, 1)}},
		"beyond it and back is later": {[]impl.Trip{hop("a", 0, 1, 0, 5), hop("b", 1, 2, 6, 8), hop("c", 2, 1, 9, 12)},
			asking{0, 1, 0, 0, 5}, 5, []impl.Leg{leg(0, 0, 1)}},
		"a trip changed to itself": {[]impl.Trip{tripOf("a", at(0, 0, 0), at(1, 5, 20), at(2, 30, 30)), hop("b", 1, 3, 7, 10), hop("c", 3, 1, 11, 15)},
			asking{0, 2, 0, 0, 5}, 30, []impl.Leg{leg(0, 0, 2)}},
		"the last minutes":        {[]impl.Trip{hop("a", 0, 1, 99990, 99995), hop("b", 1, 2, 99999, 100000)}, asking{0, 2, 99990, 4, 2}, 100000, []impl.Leg{leg(0, 0, 1), leg(1, 0, 1)}},
		"beyond them":             {[]impl.Trip{hop("a", 0, 1, 99990, 99995), hop("b", 1, 2, 99999, 100000)}, asking{0, 2, 99990, 60, 5}, -1, nil},
		"from node 0 to 29":       {[]impl.Trip{hop("a", 0, 29, 1, 2)}, asking{0, 29, 0, 0, 1}, 2, []impl.Leg{leg(0, 0, 1)}},
		"five legs":               {relay(6), asking{0, 5, 0, 1, 5}, 49, []impl.Leg{leg(0, 0, 1), leg(1, 0, 1), leg(2, 0, 1), leg(3, 0, 1), leg(4, 0, 1)}},
		"five legs, four hops":    {relay(6), asking{0, 5, 0, 1, 4}, -1, nil},
		"six legs":                {relay(6), asking{0, 6, 0, 1, 5}, -1, nil},
		"four changes, one short": {relay(6), asking{0, 5, 0, 2, 5}, -1, nil},
		"as many trips as may be": {relay(24), asking{19, 24, 190, 1, 5}, 239, []impl.Leg{leg(19, 0, 1), leg(20, 0, 1), leg(21, 0, 1), leg(22, 0, 1), leg(23, 0, 1)}},
	}
	for name, c := range cases {
		q := c.ask
		if got := impl.Soonest(c.list, q.from, q.to, q.minute, q.change, q.hops); got != c.soonest {
			t.Errorf("%s: soonest at %d", name, got)
		}
		if got := impl.Journey(c.list, q.from, q.to, q.minute, q.change, q.hops); !slices.Equal(got, c.legs) {
			t.Errorf("%s: %v", name, got)
		}
		checkQuestion(t, c.list, q)
	}
}

func TestFastestByHand(t *testing.T) {
	stairs := append(relay(5), hop("a", 0, 5, 0, 90), hop("b", 0, 4, 0, 41), hop("c", 4, 5, 50, 60), hop("d", 0, 3, 3, 30))
	cases := map[string]struct {
		list []impl.Trip
		ask  asking
		want []int
	}{
		"no trip":                     {nil, asking{0, 1, 0, 0, 0}, []int{-1, -1, -1, -1, -1}},
		"no trip, where one is":       {nil, asking{3, 3, 8, 0, 0}, []int{8, 8, 8, 8, 8}},
		"where one is":                {givenTable(), asking{0, 0, 3, 0, 0}, []int{3, 3, 3, 3, 3}},
		"sooner by two":               {givenTable(), asking{0, 2, 0, 5, 0}, []int{40, 30, 30, 30, 30}},
		"more hops are no sooner":     {givenTable(), asking{0, 2, 0, 6, 0}, []int{40, 40, 40, 40, 40}},
		"the next trip":               {givenTable(), asking{0, 2, 11, 0, 0}, []int{60, 60, 60, 60, 60}},
		"none":                        {givenTable(), asking{2, 0, 0, 0, 0}, []int{-1, -1, -1, -1, -1}},
		"by five legs only":           {relay(6), asking{0, 5, 0, 0, 0}, []int{-1, -1, -1, -1, 49}},
		"by three legs":               {relay(6), asking{0, 3, 0, 1, 0}, []int{-1, -1, 29, 29, 29}},
		"too far":                     {relay(6), asking{0, 6, 0, 0, 0}, []int{-1, -1, -1, -1, -1}},
		"at the first, second, fifth": {stairs, asking{0, 5, 0, 1, 0}, []int{90, 60, 60, 60, 49}},
		"without the third":           {stairs, asking{0, 5, 0, 2, 0}, []int{90, 60, 60, 60, 60}},
		"with no change at all":       {stairs, asking{0, 5, 0, 0, 0}, []int{90, 60, 49, 49, 49}},
	}
	for name, c := range cases {
		got := impl.Fastest(c.list, c.ask.from, c.ask.to, c.ask.minute, c.ask.change)
		checkInts(t, name, got, c.want)
		checkFastest(t, c.list, c.ask)
	}
}

func TestLatestByHand(t *testing.T) {
	list := givenTable()
	cases := map[string]struct {
		list []impl.Trip
		ask  asking
		want int
	}{
		"no trip":                        {nil, asking{0, 1, 50, 0, 5}, -1},
		"no trip, where one is":          {nil, asking{4, 4, 50, 0, 5}, 50},
		"at by itself":                   {list, asking{2, 2, 33, 5, 5}, 33},
		"at by itself, without hops":     {list, asking{2, 2, 33, 5, 0}, 33},
		"at by itself, which is 0":       {list, asking{0, 0, 0, 5, 5}, 0},
		"at by itself, the last minute":  {list, asking{0, 0, 100000, 60, 5}, 100000},
		"to another node by 0":           {list, asking{0, 2, 0, 5, 5}, -1},
		"just in time":                   {list, asking{0, 2, 60, 5, 5}, 30},
		"one minute less":                {list, asking{0, 2, 59, 5, 5}, 10},
		"by the two legs":                {list, asking{0, 2, 30, 5, 5}, 10},
		"not any more":                   {list, asking{0, 2, 29, 5, 5}, -1},
		"with one hop":                   {list, asking{0, 2, 39, 5, 1}, -1},
		"with one hop, in time":          {list, asking{0, 2, 40, 5, 1}, 10},
		"without hops":                   {list, asking{0, 2, 60, 5, 0}, -1},
		"with too long a change":         {list, asking{0, 2, 39, 6, 5}, -1},
		"by the last minute":             {list, asking{0, 2, 100000, 5, 5}, 30},
		"no way":                         {list, asking{2, 0, 100000, 5, 5}, -1},
		"at minute 0":                    {[]impl.Trip{hop("a", 0, 1, 0, 5)}, asking{0, 1, 5, 60, 1}, 0},
		"at minute 0, by much later":     {[]impl.Trip{hop("a", 0, 1, 0, 5)}, asking{0, 1, 5000, 60, 1}, 0},
		"at minute 0, one too late":      {[]impl.Trip{hop("a", 0, 1, 0, 5)}, asking{0, 1, 4, 60, 1}, -1},
		"the last of all minutes":        {[]impl.Trip{hop("a", 0, 1, 99999, 100000)}, asking{0, 1, 100000, 60, 1}, 99999},
		"the last one, but too late":     {[]impl.Trip{hop("a", 0, 1, 99999, 100000)}, asking{0, 1, 99999, 60, 1}, -1},
		"the second call of a trip":      {[]impl.Trip{tripOf("a", at(0, 0, 0), at(1, 5, 8), at(0, 10, 12), at(2, 20, 20))}, asking{0, 2, 20, 0, 5}, 12},
		"the slow one is left earlier":   {[]impl.Trip{hop("a", 0, 1, 10, 40), hop("b", 0, 1, 20, 30)}, asking{0, 1, 50, 0, 5}, 20},
		"the fast one is left later":     {[]impl.Trip{hop("a", 0, 1, 20, 30), hop("b", 0, 1, 10, 20)}, asking{0, 1, 29, 0, 5}, 10},
		"the Dep counts, not the Arr":    {[]impl.Trip{tripOf("a", at(0, 3, 9), at(1, 20, 25))}, asking{0, 1, 20, 0, 5}, 9},
		"the last Arr counts, no Dep":    {[]impl.Trip{tripOf("a", at(0, 3, 9), at(1, 20, 25))}, asking{0, 1, 19, 0, 5}, -1},
		"by five legs":                   {relay(6), asking{0, 5, 49, 1, 5}, 0},
		"by five legs, one minute short": {relay(6), asking{0, 5, 48, 1, 5}, -1},
	}
	for name, c := range cases {
		q := c.ask
		if got := impl.Latest(c.list, q.from, q.to, q.minute, q.change, q.hops); got != c.want {
			t.Errorf("%s: %d", name, got)
		}
		if q.minute < 1000 {
			checkLatest(t, c.list, q)
		}
	}
}

func TestWithinByHand(t *testing.T) {
	list := givenTable()
	turned := []impl.Trip{hop("a", 9, 4, 0, 5), hop("b", 4, 7, 6, 8), hop("c", 7, 9, 9, 10), hop("d", 9, 2, 11, 12), hop("e", 2, 29, 13, 14), hop("f", 29, 0, 15, 16)}
	cases := map[string]struct {
		list []impl.Trip
		ask  asking
		want []int
	}{
		"no trip":                {nil, asking{from: 7, hops: 5}, []int{7}},
		"node 0, no trip":        {nil, asking{from: 0}, []int{0}},
		"without hops":           {list, asking{from: 0}, []int{0}},
		"one hop":                {list, asking{from: 0, hops: 1}, []int{0, 1, 2}},
		"late":                   {list, asking{from: 0, minute: 11, change: 5, hops: 5}, []int{0, 2}},
		"too late":               {list, asking{from: 0, minute: 31, change: 5, hops: 5}, []int{0}},
		"from the middle":        {list, asking{from: 1, minute: 25, change: 60, hops: 1}, []int{1, 2}},
		"from the end":           {list, asking{from: 2, hops: 5}, []int{2}},
		"where no trip calls":    {list, asking{from: 29, hops: 5}, []int{29}},
		"one leg, not sorted":    {turned, asking{from: 9, hops: 1}, []int{2, 4, 9}},
		"two legs":               {turned, asking{from: 9, hops: 2}, []int{2, 4, 7, 9, 29}},
		"three legs":             {turned, asking{from: 9, hops: 3}, []int{0, 2, 4, 7, 9, 29}},
		"MaxHops":                {turned, asking{from: 9, hops: 5}, []int{0, 2, 4, 7, 9, 29}},
		"MaxHops, all needed":    {turned, asking{from: 4, hops: 5}, []int{0, 2, 4, 7, 9, 29}},
		"one hop less":           {turned, asking{from: 4, hops: 4}, []int{2, 4, 7, 9, 29}},
		"MaxHops, long changes":  {turned, asking{from: 4, change: 2, hops: 5}, []int{4, 7}},
		"a change of one minute": {turned, asking{from: 9, minute: 1, change: 1, hops: 5}, []int{0, 2, 9, 29}},
		"five legs of a relay":   {relay(24), asking{from: 0, change: 1, hops: 5}, []int{0, 1, 2, 3, 4, 5}},
		"four legs of a relay":   {relay(24), asking{from: 0, change: 1, hops: 4}, []int{0, 1, 2, 3, 4}},
		"every node": {[]impl.Trip{tripOf("a", at(0, 0, 0), at(1, 2, 2), at(2, 4, 4), at(3, 6, 6), at(4, 8, 8), at(5, 10, 10), at(6, 12, 12), at(7, 14, 14), at(8, 16, 16), at(9, 18, 18), at(10, 20, 20), at(11, 22, 22))},
			asking{from: 0, change: 60, hops: 1}, numbers(0, 11)},
	}
	for name, c := range cases {
		q := c.ask
		checkInts(t, name, impl.Within(c.list, q.from, q.minute, q.change, q.hops), c.want)
		for to := range 30 {
			q.to = to
			checkQuestion(t, c.list, q)
		}
	}
}

func TestJourneyTextByHand(t *testing.T) {
	list := givenTable()
	late := []impl.Trip{hop("night1", 0, 1, 1438, 1510), hop("abcdefghijkl", 1, 2, 1511, 6000), hop("0", 2, 3, 6000, 100000)}
	waits := []impl.Trip{tripOf("w", at(0, 0, 65), at(1, 70, 99))}
	cases := map[string]struct {
		list   []impl.Trip
		legs   []impl.Leg
		change int
		want   string
	}{
		"nil":                       {nil, nil, 0, ""},
		"no leg":                    {list, nil, 5, ""},
		"one leg":                   {list, []impl.Leg{leg(0, 0, 1)}, 5, "a 00:10-00:20"},
		"over a call":               {list, []impl.Leg{leg(0, 0, 2)}, 5, "a 00:10-00:40"},
		"from the middle on":        {list, []impl.Leg{leg(0, 1, 2)}, 5, "a 00:22-00:40"},
		"the Dep, and the Arr":      {waits, []impl.Leg{leg(0, 0, 1)}, 0, "w 01:05-01:10"},
		"two legs":                  {list, []impl.Leg{leg(0, 0, 1), leg(1, 0, 1)}, 5, "a 00:10-00:20 / b 00:25-00:30"},
		"two legs, too much change": {list, []impl.Leg{leg(0, 0, 1), leg(1, 0, 1)}, 6, ""},
		"two legs on one trip":      {list, []impl.Leg{leg(0, 0, 1), leg(0, 1, 2)}, 2, "a 00:10-00:20 / a 00:22-00:40"},
		"past midnight": {late, []impl.Leg{leg(0, 0, 1), leg(1, 0, 1), leg(2, 0, 1)}, 0,
			"night1 23:58-25:10 / abcdefghijkl 25:11-100:00 / 0 100:00-1666:40"},
		"as many as may be": {relay(9), []impl.Leg{leg(2, 0, 1), leg(3, 0, 1), leg(4, 0, 1), leg(5, 0, 1), leg(6, 0, 1)}, 1,
			"r2 00:20-00:29 / r3 00:30-00:39 / r4 00:40-00:49 / r5 00:50-00:59 / r6 01:00-01:09"},
		"one more":       {relay(9), []impl.Leg{leg(2, 0, 1), leg(3, 0, 1), leg(4, 0, 1), leg(5, 0, 1), leg(6, 0, 1), leg(7, 0, 1)}, 1, ""},
		"a wrong leg":    {list, []impl.Leg{leg(0, 1, 1)}, 5, ""},
		"a wrong change": {list, []impl.Leg{leg(0, 0, 1)}, 61, ""},
		"no timetable":   {shuttles(25, 0, 2), []impl.Leg{leg(0, 0, 1)}, 0, ""},
	}
	for name, c := range cases {
		if got := impl.JourneyText(c.list, c.legs, c.change); got != c.want {
			t.Errorf("%s: %q", name, got)
		}
		checkLegs(t, c.list, c.legs, c.change)
	}
}

// checkNone holds every function against a question that is none.
func checkNone(t *testing.T, what string, list []impl.Trip, q asking) {
	t.Helper()
	if askedByWords(list, q) {
		t.Fatalf("%s: it is one", what)
	}
	soonest := impl.Soonest(list, q.from, q.to, q.minute, q.change, q.hops)
	latest := impl.Latest(list, q.from, q.to, q.minute, q.change, q.hops)
	if soonest != -1 || latest != -1 || len(impl.Journey(list, q.from, q.to, q.minute, q.change, q.hops)) != 0 {
		t.Errorf("%s: %d, %d", what, soonest, latest)
	}
	fastest := impl.Fastest(list, q.from, q.to, q.minute, q.change)
	if q.hops = 5; !askedByWords(list, q) && len(fastest) != 0 {
		t.Errorf("%s: Fastest %v", what, fastest)
	}
}

func TestQuestionsThatAreNone(t *testing.T) {
	list := append(givenTable(), hop("z", 0, 29, 5, 6), hop("y", 29, 0, 5, 6))
	right := asking{0, 2, 0, 5, 5}
	wrong := map[string]asking{
		"a from of -1":             {-1, 2, 0, 5, 5},
		"a from of MaxNodes":       {30, 2, 0, 5, 5},
		"a to of -1":               {0, -1, 0, 5, 5},
		"a to of MaxNodes":         {0, 30, 0, 5, 5},
		"both -1":                  {-1, -1, 0, 5, 5},
		"both MaxNodes":            {30, 30, 0, 5, 5},
		"a minute of -1":           {0, 2, -1, 5, 5},
		"a minute beyond the last": {0, 2, 100001, 5, 5},
		"a change of -1":           {0, 2, 0, -1, 5},
		"a change of one more":     {0, 2, 0, 61, 5},
		"hops of -1":               {0, 2, 0, 5, -1},
		"hops of one more":         {0, 2, 0, 5, 6},
		"the greatest of all":      {math.MaxInt, math.MaxInt, math.MaxInt, math.MaxInt, math.MaxInt},
		"the least of all":         {math.MinInt, math.MinInt, math.MinInt, math.MinInt, math.MinInt},
		"the greatest from":        {math.MaxInt, 2, 0, 5, 5},
		"the least to":             {0, math.MinInt, 0, 5, 5},
		"the greatest minute":      {0, 2, math.MaxInt, 5, 5},
		"the least change":         {0, 2, 0, math.MinInt, 5},
		"the greatest change":      {0, 2, 0, math.MaxInt, 5},
		"the greatest hops":        {0, 2, 0, 5, math.MaxInt},
	}
	for name, q := range wrong {
		checkNone(t, name, list, q)
		q.to = q.from
		if !askedByWords(list, q) {
			checkNone(t, name+", to itself", list, q)
			if got := impl.Within(list, q.from, q.minute, q.change, q.hops); len(got) != 0 {
				t.Errorf("%s: Within %v", name, got)
			}
		}
	}
	for _, table := range wrongTables() {
		checkNone(t, "no timetable", table, right)
		checkNone(t, "no timetable, to itself", table, asking{0, 0, 0, 0, 0})
		if got := impl.Within(table, 0, 0, 0, 5); len(got) != 0 {
			t.Errorf("Within(%v): %v", table, got)
		}
		checkLegs(t, table, nil, 0)
		checkLegs(t, table, []impl.Leg{leg(0, 0, 1)}, 0)
	}
	for trips := range 30 {
		q := asking{0, 1, 0, 0, 1}
		table := shuttles(trips, 5, 2)
		want := []int{-1, 7, -1}[min(trips, 1)+trips/25]
		if got := impl.Soonest(table, 0, 1, 0, 0, 1); got != want {
			t.Errorf("%d trips: %d", trips, got)
		}
		if got := impl.LegsOk(table, nil, 0); got != (trips <= 24) {
			t.Errorf("%d trips: %v", trips, got)
		}
		checkQuestion(t, table, q)
	}
}

// TestQuestionsAtTheirEdges goes over every limit of every number, together with those of another.
func TestQuestionsAtTheirEdges(t *testing.T) {
	list := append(givenTable(), hop("z", 0, 29, 5, 6), hop("y", 29, 0, 0, 100000), hop("x", 29, 0, 7, 9))
	nodes, minutes, changes, hops := []int{-1, 0, 2, 29, 30}, []int{-1, 0, 1, 10, 100000, 100001}, []int{-1, 0, 5, 60, 61}, []int{-1, 0, 1, 2, 5, 6}
	ones := 0
	for _, from := range nodes {
		for _, to := range nodes {
			for _, minute := range minutes {
				for _, change := range changes {
					for _, most := range hops {
						q := asking{from, to, minute, change, most}
						checkQuestion(t, list, q)
						if !askedByWords(list, q) {
							checkNone(t, "an edge", list, q)
							continue
						}
						ones++
						if minute < 100 {
							checkLatest(t, list, q)
						}
						within := impl.Within(list, from, minute, change, most)
						if !slices.IsSorted(within) || !slices.Contains(within, from) {
							t.Fatalf("%+v: %v", q, within)
						}
					}
				}
			}
		}
	}
	if ones != 9*4*3*4 {
		t.Error("not so many are questions", ones)
	}
}

// TestJourneysOfEverySmallTable throws nothing: three trips of one leg each, or two of two, at every minute near each other.
func TestJourneysOfEverySmallTable(t *testing.T) {
	var hops []impl.Trip
	for from := range 3 {
		for dep := range 3 {
			for arr := dep + 1; arr <= 3; arr++ {
				hops = append(hops, hop("a", from, (from+1)%3, dep, arr), hop("a", from, (from+2)%3, dep, arr))
			}
		}
	}
	for i := range hops {
		for j := range hops {
			for k := 0; k < len(hops); k += 1 + (i+j)%3 {
				list := []impl.Trip{tripCopy(hops[i]), tripCopy(hops[j]), tripCopy(hops[k])}
				list[1].Name, list[2].Name = "b", "c"
				q := asking{0, 2, (i + j) % 2, k % 2, 3}
				minutes, journeys := bestByWords(list, q)
				checkBest(t, list, q, minutes, journeys)
				checkLatest(t, list, asking{0, 1, 3, k % 2, 2})
			}
		}
	}
}

// TestJourneysThrown holds the answers against all journeys that there are.
func TestJourneysThrown(t *testing.T) {
	d := &dice{state: 121}
	var byLegs [6]int
	for range 4000 {
		nodes := 2 + d.below(5)
		list := ways(d, d.below(15), 3, 30, nodes, 1+d.below(3))
		q := asking{d.below(nodes), d.below(nodes), d.below(12), d.below(1 + d.below(4)), d.below(6)}
		checkQuestion(t, list, q)
		byLegs[len(impl.Journey(list, q.from, q.to, q.minute, q.change, q.hops))]++
		q.minute = d.below(40)
		checkLatest(t, list, q)
	}
	if byLegs[1] < 200 || byLegs[2] < 100 || byLegs[3] < 10 {
		t.Error("too few journeys of several legs", byLegs)
	}
}

// TestJourneysOfGreatTables holds the answers against those that are found from the end.
func TestJourneysOfGreatTables(t *testing.T) {
	d := &dice{state: 122}
	var byLegs [6]int
	for range 400 {
		nodes, calls := 3+d.below(10), 2+d.below(1+d.below(11))
		if calls > 6 {
			nodes += 17
		}
		list := ways(d, 24-d.below(1+d.below(24)), calls, 70, nodes, 1+d.below(3))
		q := asking{list[d.below(len(list))].Calls[0].Node, 0, d.below(10), d.below(1 + d.below(5)), 5 - d.below(1+d.below(6))}
		minutes, journeys := bestFromTheEnd(list, q)
		for to := range 30 {
			q.to = to
			checkBest(t, list, q, minutes, journeys)
			byLegs[len(journeys[to])]++
		}
	}
	if byLegs[1] < 200 || byLegs[2] < 200 || byLegs[3] < 50 || byLegs[4] < 20 || byLegs[5] < 5 {
		t.Error("too few journeys of many legs", byLegs)
	}
}

// TestTheReferencesAgree lets what is found from the end and what is found among all journeys tell the same.
func TestTheReferencesAgree(t *testing.T) {
	d := &dice{state: 123}
	for range 500 {
		list := ways(d, d.below(12), 4, 20, 2+d.below(4), 1+d.below(3))
		q := asking{d.below(5), 0, d.below(20), d.below(4), d.below(6)}
		minutes, journeys := bestByWords(list, q)
		others, ways := bestFromTheEnd(list, q)
		for node := range 30 {
			minute, there := minutes[node]
			other, too := others[node]
			if minute != other || there != too || !slices.Equal(journeys[node], ways[node]) {
				t.Fatalf("%v, %+v: node %d at %d and %d, by %v and %v", list, q, node, minute, other, journeys[node], ways[node])
			}
		}
	}
}

func TestPromise14(t *testing.T) {
	d := &dice{state: 124}
	found := 0
	for range 150 {
		list := someTable(d, 1+d.below(12), 3+d.below(10))
		q := asking{d.below(8), d.below(8), d.below(40), d.below(1 + d.below(20)), 1 + d.below(5)}
		ask := func(minute, hops int) int { return impl.Soonest(list, q.from, q.to, minute, q.change, hops) }
		soonest, legs := ask(q.minute, q.hops), impl.Journey(list, q.from, q.to, q.minute, q.change, q.hops)
		if soonest >= 0 && len(legs) > 0 {
			found++
			first, last := legs[0], legs[len(legs)-1]
			on, off := list[first.Trip].Calls[first.On], list[last.Trip].Calls[last.Off]
			if !impl.LegsOk(list, legs, q.change) || len(legs) > q.hops || on.Node != q.from || on.Dep < q.minute || off.Node != q.to || off.Arr != soonest {
				t.Fatalf("%v, %+v: %v is no journey that arrives at %d", list, q, legs, soonest)
			}
			if fewer := ask(q.minute, len(legs)-1); fewer >= 0 && fewer <= soonest {
				t.Fatalf("%v, %+v: fewer legs than %v arrive at %d", list, q, legs, fewer)
			}
			if impl.JourneyText(list, legs, q.change) == "" {
				t.Fatalf("%v has no text", legs)
			}
		}
		past := -1
		for minute := range 120 {
			then := ask(minute, q.hops)
			if then >= 0 && (then < past || past == math.MaxInt) {
				t.Fatalf("%v, %+v: from %d on at %d, ahead of %d", list, q, minute, then, past)
			}
			if past = then; then < 0 {
				past = math.MaxInt
			}
		}
		fastest := impl.Fastest(list, q.from, q.to, q.minute, q.change)
		for k := 1; k < len(fastest); k++ {
			if fastest[k-1] >= 0 && (fastest[k] < 0 || fastest[k] > fastest[k-1]) {
				t.Fatalf("%v, %+v: more hops are later, %v", list, q, fastest)
			}
		}
		checkLatestIsInTime(t, list, q, d.below(150), ask)
	}
	if found < 50 {
		t.Error("too few journeys", found)
	}
}

// checkLatestIsInTime starts at the latest minute, at the one behind it, and where there is none at the first of all.
func checkLatestIsInTime(t *testing.T, list []impl.Trip, q asking, by int, ask func(minute, hops int) int) {
	t.Helper()
	latest := impl.Latest(list, q.from, q.to, by, q.change, q.hops)
	inTime := func(minute int) bool {
		soonest := ask(minute, q.hops)
		return minute <= by && soonest >= 0 && soonest <= by
	}
	if latest < -1 || latest > by || latest >= 0 && !inTime(latest) || inTime(latest+1) {
		t.Fatalf("%v, %+v: the latest by %d is %d", list, q, by, latest)
	}
}

func TestJourneysShareNoMemory(t *testing.T) {
	// Room behind the lists: what is put there would be seen.
	room := append(givenTable(), hop("x", 7, 8, 7, 8), hop("y", 7, 8, 7, 8))
	for i := range room {
		room[i].Calls = append(room[i].Calls, at(7, 7, 7), at(7, 7, 7))[:len(room[i].Calls)]
	}
	was := tableCopy(room)
	behind := func() bool {
		return slices.ContainsFunc(room, func(trip impl.Trip) bool {
			return trip.Calls[:len(trip.Calls)+1][len(trip.Calls)] != at(7, 7, 7)
		})
	}
	list := room[:3]
	pieces := []impl.Leg{leg(0, 0, 1), leg(1, 0, 1), leg(7, 7, 7), leg(7, 7, 7)}
	for range 3 {
		legs := impl.Journey(list, 0, 2, 0, 5, 5)
		fastest, within := impl.Fastest(list, 0, 2, 0, 5), impl.Within(list, 0, 0, 5, 5)
		if !slices.Equal(legs, pieces[:2]) || !impl.LegsOk(list, pieces[:2], 5) || impl.JourneyText(list, pieces[:2], 5) != "a 00:10-00:20 / b 00:25-00:30" {
			t.Error("Journey", legs)
		}
		checkInts(t, "Fastest", fastest, []int{40, 30, 30, 30, 30})
		checkInts(t, "Within", within, []int{0, 1, 2})
		legs[0], legs[1], fastest[0], within[0] = leg(9, 9, 9), leg(9, 9, 9), -9, -9
		_, _, _ = append(legs, leg(8, 8, 8)), append(fastest, -8), append(within, -8)
		if impl.Soonest(list, 0, 2, 0, 5, 5) != 30 || impl.Latest(list, 0, 2, 59, 5, 5) != 10 {
			t.Error("another answer")
		}
		if !sameTable(room, was) || behind() || !slices.Equal(pieces[2:], []impl.Leg{leg(7, 7, 7), leg(7, 7, 7)}) {
			t.Fatal(room, pieces)
		}
	}
}

// TestJourneysAreTheSameHoweverOften asks the same often, and by many at once.
func TestJourneysAreTheSameHoweverOften(t *testing.T) {
	d := &dice{state: 125}
	list := someTable(d, 6, 12)
	for len(list) < 20 {
		list = someTable(d, 6, 12)
	}
	q := asking{list[0].Calls[0].Node, list[1].Calls[5%len(list[1].Calls)].Node, 0, 2, 5}
	minutes, journeys := bestFromTheEnd(list, q)
	latest, fastest := impl.Latest(list, q.from, q.to, 200, 2, 5), impl.Fastest(list, q.from, q.to, 0, 2)
	within, text := impl.Within(list, q.from, 0, 2, 5), impl.JourneyText(list, journeys[q.to], 2)
	var all sync.WaitGroup
	for range 8 {
		all.Go(func() {
			for range 20 {
				legs := impl.Journey(list, q.from, q.to, 0, 2, 5)
				if !slices.Equal(legs, journeys[q.to]) || impl.JourneyText(list, legs, 2) != text || impl.Soonest(list, q.from, q.to, 0, 2, 5) != minutes[q.to] {
					t.Error("another journey", legs)
				}
				if impl.Latest(list, q.from, q.to, 200, 2, 5) != latest || !slices.Equal(impl.Fastest(list, q.from, q.to, 0, 2), fastest) || !slices.Equal(impl.Within(list, q.from, 0, 2, 5), within) {
					t.Error("another answer")
				}
			}
		})
	}
	all.Wait()
}

// TestJourneysOfTheGreatestTables asks where there is the most to look at: all trips go to and fro between two nodes.
func TestJourneysOfTheGreatestTables(t *testing.T) {
	var list []impl.Trip
	for k := range impl.MaxTrips {
		list = append(list, shuttle("s"+strconv.Itoa(k), k%5, impl.MaxCalls))
	}
	far := []impl.Trip{}
	for _, trip := range list {
		far = append(far, movedByWords(trip, 99970))
	}
	for hops := range 6 {
		q := asking{0, 1, 0, hops % 3, hops}
		minutes, journeys := bestFromTheEnd(list, q)
		checkBest(t, list, q, minutes, journeys)
		q.to = 7
		checkBest(t, list, q, minutes, journeys)
		if got := impl.Latest(far, 0, 1, 100000, 0, hops); got != []int{-1, 99995}[min(hops, 1)] {
			t.Error("the latest of all", hops, got)
		}
	}
}

func TestJourneysNeverPanic(t *testing.T) {
	extremes := []int{math.MinInt, math.MinInt + 1, -2, -1, 0, 1, 2, 5, 6, 24, 29, 30, 60, 61, 100000, 100001, math.MaxInt - 1, math.MaxInt}
	d := &dice{state: 126}
	pick := func() int { return extremes[d.below(len(extremes))] }
	mild := func(most int) int { return []int{pick(), d.below(most)}[min(1, d.below(4))] }
	for range 20000 {
		list := givenTable()[:d.below(4)]
		if d.below(4) == 0 && len(list) > 0 {
			list[d.below(len(list))].Calls[d.below(2)] = at(pick(), pick(), pick())
		}
		q := asking{mild(3), mild(3), mild(40), mild(8), mild(6)}
		legs := []impl.Leg{leg(mild(3), mild(3), mild(3)), leg(mild(3), mild(3), mild(3)), leg(pick(), pick(), pick())}[:d.below(4)]
		if panicsIn(func() {
			checkQuestion(t, list, q)
			checkLegs(t, list, legs, q.change)
			impl.Latest(list, q.from, q.to, q.minute, q.change, q.hops)
		}) {
			t.Fatalf("%v, %+v, %v", list, q, legs)
		}
	}
	huge := make([]impl.Trip, 100000)
	if impl.LegsOk(huge, nil, 0) || impl.Soonest(huge, 0, 0, 0, 0, 0) != -1 || impl.Journey(huge, 0, 1, 0, 0, 5) != nil || impl.Fastest(huge, 0, 0, 0, 0) != nil {
		t.Error("a huge list")
	}
	if impl.Latest(huge, 0, 0, 0, 0, 0) != -1 || impl.Within(huge, 0, 0, 0, 0) != nil || impl.JourneyText(huge, make([]impl.Leg, 1), 0) != "" {
		t.Error("a huge list")
	}
	if !impl.LegsOk(nil, nil, 0) || impl.JourneyText(nil, nil, 0) != "" || impl.Soonest(nil, 0, 1, 0, 0, 5) != -1 || impl.Latest(nil, 0, 1, 9, 0, 5) != -1 || len(impl.Journey(nil, 0, 1, 0, 0, 5)) != 0 {
		t.Error("nil lists")
	}
}
