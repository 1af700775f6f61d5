package tests

import (
	"fmt"
	"math"
	"regexp"
	"slices"
	"strconv"
	"strings"
	"testing"

	"loop.example/g00075/impl"
)

func at(node, arr, dep int) impl.Call {
	return impl.Call{Node: node, Arr: arr, Dep: dep}
}

func tripOf(name string, calls ...impl.Call) impl.Trip {
	return impl.Trip{Name: name, Calls: calls}
}

// shuttle goes to and fro between nodes 0 and 1: a minute at each call, a minute between them.
func shuttle(name string, start, calls int) impl.Trip {
	t := impl.Trip{Name: name}
	for k := range calls {
		t.Calls = append(t.Calls, at(k%2, start+2*k, start+2*k+1))
	}
	return t
}

// shuttles are trips with names of their own that all go at the same minutes.
func shuttles(count, start, calls int) []impl.Trip {
	var list []impl.Trip
	for k := range count {
		list = append(list, shuttle("s"+strconv.Itoa(k), start, calls))
	}
	return list
}

func tripCopy(t impl.Trip) impl.Trip {
	return impl.Trip{Name: t.Name, Calls: slices.Clone(t.Calls)}
}

func sameTrip(a, b impl.Trip) bool {
	return a.Name == b.Name && slices.Equal(a.Calls, b.Calls)
}

func tableCopy(list []impl.Trip) []impl.Trip {
	var copied []impl.Trip
	for _, t := range list {
		copied = append(copied, tripCopy(t))
	}
	return copied
}

func sameTable(a, b []impl.Trip) bool {
	return slices.EqualFunc(a, b, sameTrip)
}

func checkTrip(t *testing.T, what string, got, want impl.Trip) {
	t.Helper()
	if !sameTrip(got, want) {
		t.Errorf("%s: %v, not %v", what, got, want)
	}
}

func minuteByWords(m int) bool { return 0 <= m && m <= 100000 }

// tripByWords goes over the names with an expression, and over the times one behind the other.
func tripByWords(t impl.Trip) bool {
	if !nameForm.MatchString(t.Name) || len(t.Calls) < 2 || len(t.Calls) > 12 {
		return false
	}
	past, node := -1, -1
	for _, c := range t.Calls {
		if c.Node < 0 || c.Node > 29 || c.Node == node || !minuteByWords(c.Arr) || !minuteByWords(c.Dep) {
			return false
		}
		if c.Arr <= past || c.Dep < c.Arr {
			return false
		}
		past, node = c.Dep, c.Node
	}
	return true
}

func tableByWords(list []impl.Trip) bool {
	names := map[string]bool{}
	for _, t := range list {
		if !tripByWords(t) || names[t.Name] {
			return false
		}
		names[t.Name] = true
	}
	return len(list) <= 24
}

// whereByWords asks each call and each way between two calls by itself.
func whereByWords(t impl.Trip, minute int) (int, int) {
	if !tripByWords(t) {
		return -1, 2
	}
	for k, c := range t.Calls {
		if c.Arr <= minute && minute <= c.Dep {
			return k, 0
		}
		if k+1 < len(t.Calls) && c.Dep < minute && minute < t.Calls[k+1].Arr {
			return k, 1
		}
	}
	if minute < t.Calls[0].Arr {
		return -1, 0
	}
	return -1, 1
}

// boardByWords takes the next departure again and again, until there are enough or none is left.
func boardByWords(list []impl.Trip, node, minute, count int) []impl.Entry {
	var board []impl.Entry
	if !tableByWords(list) || count < 0 || count > 50 {
		return board
	}
	for len(board) < count {
		next := impl.Entry{Trip: -1}
		for i, t := range list {
			for k := range len(t.Calls) - 1 {
				c, entry := t.Calls[k], impl.Entry{Trip: i, Call: k}
				if c.Node != node || c.Dep < minute || slices.Contains(board, entry) {
					continue
				}
				if next.Trip < 0 || c.Dep < list[next.Trip].Calls[next.Call].Dep {
					next = entry
				}
			}
		}
		if next.Trip < 0 {
			break
		}
		board = append(board, next)
	}
	return board
}

func movedByWords(t impl.Trip, by int) impl.Trip {
	if !tripByWords(t) || by < -100000 || by > 100000 {
		return impl.Trip{}
	}
	then := tripCopy(t)
	for k := range then.Calls {
		then.Calls[k].Arr += by
		then.Calls[k].Dep += by
	}
	if !tripByWords(then) {
		return impl.Trip{}
	}
	return then
}

func clockByWords(t impl.Trip, step, times int) []impl.Trip {
	if !tripByWords(t) || step < 1 || step > 1440 || times < 1 || times > 24 {
		return nil
	}
	var list []impl.Trip
	for k := range times {
		then := movedByWords(t, k*step)
		then.Name = fmt.Sprintf("%s%d", t.Name, k)
		list = append(list, then)
	}
	if !tableByWords(list) {
		return nil
	}
	return list
}

// backByWords goes call by call with a clock that is put on by what the trip stands and rides.
func backByWords(t impl.Trip, start int) impl.Trip {
	if !tripByWords(t) || !minuteByWords(start) {
		return impl.Trip{}
	}
	then := impl.Trip{Name: t.Name}
	clock := start
	for k := len(t.Calls) - 1; k >= 0; k-- {
		c := t.Calls[k]
		arr := clock
		clock += c.Dep - c.Arr
		then.Calls = append(then.Calls, at(c.Node, arr, clock))
		if k > 0 {
			clock += c.Arr - t.Calls[k-1].Dep
		}
	}
	if !tripByWords(then) {
		return impl.Trip{}
	}
	return then
}

func textByWords(t impl.Trip) string {
	if !tripByWords(t) {
		return ""
	}
	text := t.Name
	for _, c := range t.Calls {
		text += fmt.Sprintf(" %d@%02d:%02d-%02d:%02d", c.Node, c.Arr/60, c.Arr%60, c.Dep/60, c.Dep%60)
	}
	return text
}

const (
	timeForm = `([0-9]{2}|[1-9][0-9]{2,3}):([0-5][0-9])`
	callForm = ` (0|[1-9][0-9]?)@` + timeForm + `-` + timeForm
)

var (
	nameForm  = regexp.MustCompile(`\A[a-z0-9]{1,12}\z`)
	tripForm  = regexp.MustCompile(`\A([a-z0-9]{1,12})((?:` + callForm + `){2,12})\z`)
	callForms = regexp.MustCompile(callForm)
)

// readByWords takes a text apart by its form alone; it prints nothing.
func readByWords(text string) (impl.Trip, bool) {
	if len(text) > 300 {
		return impl.Trip{}, false
	}
	parts := tripForm.FindStringSubmatch(text)
	if parts == nil {
		return impl.Trip{}, false
	}
	trip := impl.Trip{Name: parts[1]}
	for _, form := range callForms.FindAllStringSubmatch(parts[2], -1) {
		var x [5]int
		for k := range x {
			x[k], _ = strconv.Atoi(form[k+1])
		}
		trip.Calls = append(trip.Calls, at(x[0], 60*x[1]+x[2], 60*x[3]+x[4]))
	}
	if !tripByWords(trip) {
		return impl.Trip{}, false
	}
	return trip, true
}

func checkRead(t *testing.T, text string) {
	t.Helper()
	got, ok := impl.ReadTrip(text)
	want, right := readByWords(text)
	if ok != right || !sameTrip(got, want) {
		t.Fatalf("ReadTrip(%q): %v, %v, not %v, %v", text, got, ok, want, right)
	}
}

// checkAllOf holds every function of one trip against the chapter's words; the trip must stay as it was.
func checkAllOf(t *testing.T, trip impl.Trip, minutes []int) {
	t.Helper()
	was := tripCopy(trip)
	if got, want := impl.TripOk(trip), tripByWords(trip); got != want {
		t.Fatalf("TripOk(%v): %v", trip, got)
	}
	if got, want := impl.TripText(trip), textByWords(trip); got != want {
		t.Fatalf("TripText(%v): %q, not %q", trip, got, want)
	}
	for _, m := range minutes {
		k, kind := impl.Where(trip, m)
		if place, want := whereByWords(trip, m); k != place || kind != want {
			t.Fatalf("Where(%v, %d): %d, %d, not %d, %d", trip, m, k, kind, place, want)
		}
		checkTrip(t, fmt.Sprintf("%v moved by %d", trip, m), impl.Moved(trip, m), movedByWords(trip, m))
		checkTrip(t, fmt.Sprintf("%v moved by %d", trip, -m), impl.Moved(trip, -m), movedByWords(trip, -m))
		checkTrip(t, fmt.Sprintf("%v back from %d", trip, m), impl.Back(trip, m), backByWords(trip, m))
	}
	if !sameTrip(trip, was) {
		t.Fatalf("%v was %v", trip, was)
	}
}

func checkClock(t *testing.T, trip impl.Trip, step, times int) {
	t.Helper()
	was := tripCopy(trip)
	if got, want := impl.Clockface(trip, step, times), clockByWords(trip, step, times); !sameTable(got, want) {
		t.Errorf("Clockface(%v, %d, %d): %v, not %v", trip, step, times, got, want)
	}
	if !sameTrip(trip, was) {
		t.Fatalf("%v was %v", trip, was)
	}
}

func checkBoard(t *testing.T, list []impl.Trip, node, minute, count int) {
	t.Helper()
	was := tableCopy(list)
	if got, want := impl.Board(list, node, minute, count), boardByWords(list, node, minute, count); !slices.Equal(got, want) {
		t.Fatalf("Board(%v, %d, %d, %d): %v, not %v", list, node, minute, count, got, want)
	}
	if !sameTable(list, was) {
		t.Fatalf("%v was %v", list, was)
	}
}

// someTrip is right: its times go on from start by less than most minutes each.
func someTrip(d *dice, name string, start, most, nodes int) impl.Trip {
	t := impl.Trip{Name: name}
	clock, node := start, d.below(nodes)
	for range 2 + d.below(11) {
		arr := clock
		clock += d.below(most)
		t.Calls = append(t.Calls, at(node, arr, clock))
		clock += 1 + d.below(most)
		node = (node + 1 + d.below(nodes-1)) % nodes
	}
	return t
}

func someTable(d *dice, most, nodes int) []impl.Trip {
	var list []impl.Trip
	for k := range d.below(impl.MaxTrips + 1) {
		list = append(list, someTrip(d, "t"+strconv.Itoa(d.below(1000)*100+k), d.below(20), most, nodes))
	}
	return list
}

// wrongTrips are each one fault away from a right one.
func wrongTrips() []impl.Trip {
	first, second := at(0, 10, 12), at(1, 20, 20)
	return []impl.Trip{
		{},
		tripOf("a"),
		tripOf("a", first),
		shuttle("a", 0, 13),
		tripOf("", first, second),
		tripOf("A", first, second),
		tripOf("abcdefghijklm", first, second),
		tripOf("a b", first, second),
		tripOf("a", at(0, 12, 11), second),
		tripOf("a", first, at(1, 12, 20)),
		tripOf("a", first, at(1, 11, 20)),
		tripOf("a", first, at(0, 20, 20)),
		tripOf("a", at(-1, 10, 12), second),
		tripOf("a", at(30, 10, 12), second),
		tripOf("a", at(0, -1, 12), second),
		tripOf("a", first, at(1, 20, 100001)),
		tripOf("a", first, at(1, 100001, 100001)),
		tripOf("a", first, second, at(2, 20, 25)),
		tripOf("a", first, second, at(1, 25, 25)),
		tripOf("a", at(0, math.MinInt, 12), at(1, 20, math.MaxInt)),
		tripOf("a", at(math.MinInt, 10, 12), at(math.MaxInt, 20, 20)),
	}
}

func wrongTables() [][]impl.Trip {
	lists := [][]impl.Trip{
		shuttles(25, 0, 2),
		{shuttle("a", 0, 2), shuttle("a", 0, 2)},
		{shuttle("a", 0, 2), shuttle("b", 0, 2), shuttle("a", 50, 3)},
		{shuttle("b", 0, 2), shuttle("c", 0, 2), shuttle("a", 50, 3), shuttle("c", 9, 9)},
	}
	for _, t := range wrongTrips() {
		lists = append(lists, []impl.Trip{t}, []impl.Trip{shuttle("z", 0, 3), t}, []impl.Trip{t, shuttle("z", 0, 3)})
	}
	return lists
}

func TestTableConstants(t *testing.T) {
	if impl.MaxTrips != 24 || impl.MaxCalls != 12 || impl.MaxBoard != 50 || impl.MaxTripText != 300 {
		t.Error("the limits")
	}
}

func TestTripOk(t *testing.T) {
	for _, trip := range []impl.Trip{
		tripOf("a", at(0, 10, 12), at(1, 13, 13)),
		tripOf("abcdefghijkl", at(0, 0, 0), at(1, 1, 1)),
		tripOf("0", at(29, 0, 100), at(0, 101, 100000)),
		tripOf("a9z", at(0, 99999, 99999), at(29, 100000, 100000)),
		tripOf("a", at(0, 1, 1), at(1, 2, 2), at(0, 3, 3)),
		shuttle("a", 0, 12),
		shuttle("a", 100000-23, 12),
	} {
		if !impl.TripOk(trip) {
			t.Errorf("%v is right", trip)
		}
	}
	for _, trip := range wrongTrips() {
		if impl.TripOk(trip) {
			t.Errorf("%v is wrong", trip)
		}
	}
}

func TestTripOkOfEveryCount(t *testing.T) {
	for calls := range 30 {
		if got := impl.TripOk(shuttle("a", 0, calls)); got != (calls >= 2 && calls <= 12) {
			t.Errorf("%d calls: %v", calls, got)
		}
	}
}

func TestTripOkOfNames(t *testing.T) {
	for length := range 20 {
		name := strings.Repeat("z", length)
		if got := impl.TripOk(shuttle(name, 0, 2)); got != (length >= 1 && length <= 12) {
			t.Errorf("a name of %d bytes: %v", length, got)
		}
	}
	for b := range 256 {
		right := b >= 'a' && b <= 'z' || b >= '0' && b <= '9'
		for _, name := range []string{string([]byte{byte(b)}), string([]byte{'a', byte(b)}), string([]byte{byte(b), '9'}), string([]byte{'a', byte(b), 'b'})} {
			if got := impl.TripOk(shuttle(name, 0, 2)); got != right {
				t.Errorf("%q: %v", name, got)
			}
		}
	}
	for _, name := range []string{"\u00e9", "a\u00e9", "\u0660", "\uff41", "\U0001d41a", "\xc3", "a\xff", "a\ufffd", "a\n", " a", "a ", "a-b", "a@b"} {
		if impl.TripOk(shuttle(name, 0, 2)) {
			t.Errorf("%q is no name", name)
		}
	}
}

func TestTripOkOfEverySmallTrip(t *testing.T) {
	var choices []impl.Call
	for _, node := range []int{-1, 0, 29, 30} {
		for _, arr := range []int{-1, 0, 1, 99999, 100000, 100001} {
			for _, dep := range []int{-1, 0, 1, 2, 99999, 100000, 100001} {
				choices = append(choices, at(node, arr, dep))
			}
		}
	}
	right := 0
	manyLists(2, choices, func(calls []impl.Call) {
		trip := tripOf("a", calls...)
		got := impl.TripOk(trip)
		if got != tripByWords(trip) {
			t.Fatalf("%v: %v", trip, got)
		}
		if got {
			right++
		}
	})
	if right == 0 {
		t.Error("none is right")
	}
}

func TestTripsOfThreeCalls(t *testing.T) {
	var choices []impl.Call
	for node := range 2 {
		for arr := range 4 {
			for dep := range 4 {
				choices = append(choices, at(node, arr, dep))
			}
		}
	}
	manyLists(3, choices, func(calls []impl.Call) {
		trip := tripOf("a", calls...)
		if got := impl.TripOk(trip); got != tripByWords(trip) {
			t.Fatalf("%v: %v", trip, got)
		} else if got {
			checkAllOf(t, trip, numbers(-2, 6))
		}
	})
}

func TestTableOk(t *testing.T) {
	full := shuttles(24, 0, 12)
	for _, list := range [][]impl.Trip{nil, {}, full[:1], full[:23], full, {shuttle("a", 0, 2), shuttle("aa", 0, 2), shuttle("0", 5, 3)}} {
		was := tableCopy(list)
		if !impl.TableOk(list) || !sameTable(list, was) {
			t.Errorf("%v: a timetable, that stays as it is", list)
		}
	}
	for _, list := range wrongTables() {
		was := tableCopy(list)
		if impl.TableOk(list) || !sameTable(list, was) {
			t.Errorf("%v: no timetable, that stays as it is", list)
		}
	}
}

func TestTableOkOfTwoAlikeAnywhere(t *testing.T) {
	for i := range 24 {
		for k := range i {
			list := shuttles(24, 0, 2)
			list[i].Name = list[k].Name
			if impl.TableOk(list) {
				t.Errorf("%d and %d are alike", i, k)
			}
		}
		list := shuttles(24, 0, 2)
		list[i].Calls = list[i].Calls[:1]
		if impl.TableOk(list) {
			t.Errorf("%d is wrong", i)
		}
	}
}

func TestWhere(t *testing.T) {
	trip := tripOf("a", at(0, 10, 12), at(3, 13, 13), at(0, 20, 25))
	for _, c := range []struct{ minute, place, kind int }{
		{math.MinInt, -1, 0}, {-1, -1, 0}, {0, -1, 0}, {9, -1, 0},
		{10, 0, 0}, {11, 0, 0}, {12, 0, 0}, {13, 1, 0}, {14, 1, 1}, {19, 1, 1}, {20, 2, 0}, {25, 2, 0},
		{26, -1, 1}, {100000, -1, 1}, {100001, -1, 1}, {math.MaxInt, -1, 1},
	} {
		if k, kind := impl.Where(trip, c.minute); k != c.place || kind != c.kind {
			t.Errorf("at %d: %d, %d, not %d, %d", c.minute, k, kind, c.place, c.kind)
		}
	}
	for _, wrong := range wrongTrips() {
		for _, minute := range []int{math.MinInt, -1, 0, 11, 15, 20, 30, math.MaxInt} {
			if k, kind := impl.Where(wrong, minute); k != -1 || kind != 2 {
				t.Errorf("%v at %d: %d, %d", wrong, minute, k, kind)
			}
		}
	}
}

func TestBoardByHand(t *testing.T) {
	list := []impl.Trip{
		tripOf("a", at(0, 5, 10), at(1, 12, 12), at(0, 20, 20), at(2, 30, 31)),
		tripOf("b", at(1, 0, 1), at(0, 8, 10), at(1, 15, 20)),
		tripOf("c", at(2, 1, 1), at(0, 7, 9), at(2, 11, 12), at(0, 14, 50)),
	}
	for _, c := range []struct {
		node, minute, count int
		want                []impl.Entry
	}{
		{0, 0, 50, []impl.Entry{{Trip: 2, Call: 1}, {Trip: 0, Call: 0}, {Trip: 1, Call: 1}, {Trip: 0, Call: 2}}},
		{0, 10, 50, []impl.Entry{{Trip: 0, Call: 0}, {Trip: 1, Call: 1}, {Trip: 0, Call: 2}}},
		{0, 11, 50, []impl.Entry{{Trip: 0, Call: 2}}},
		{0, 21, 50, nil},
		{0, -7, 2, []impl.Entry{{Trip: 2, Call: 1}, {Trip: 0, Call: 0}}},
		{0, 10, 1, []impl.Entry{{Trip: 0, Call: 0}}},
		{1, 1, 9, []impl.Entry{{Trip: 1, Call: 0}, {Trip: 0, Call: 1}}},
		{2, 0, 9, []impl.Entry{{Trip: 2, Call: 0}, {Trip: 2, Call: 2}}},
		{0, 0, 0, nil}, {0, 0, 51, nil}, {0, 0, -1, nil}, {3, 0, 9, nil}, {-1, 0, 9, nil}, {30, 0, 9, nil},
		{0, math.MaxInt, 9, nil},
	} {
		if got := impl.Board(list, c.node, c.minute, c.count); !slices.Equal(got, c.want) {
			t.Errorf("node %d at %d, %d of them: %v, not %v", c.node, c.minute, c.count, got, c.want)
		}
	}
}

func TestBoardOfMoreThanItHolds(t *testing.T) {
	list := shuttles(24, 100, 12)
	if got := impl.Board(list, 0, 0, 50); len(got) != 50 || got[24] != (impl.Entry{Trip: 0, Call: 2}) || got[49] != (impl.Entry{Trip: 1, Call: 4}) {
		t.Error(got)
	}
	for _, node := range []int{-1, 0, 1, 2} {
		for _, minute := range numbers(99, 126) {
			for _, count := range []int{math.MinInt, -1, 0, 1, 23, 24, 25, 49, 50, 51, math.MaxInt} {
				checkBoard(t, list, node, minute, count)
			}
		}
	}
}

func TestBoardOfWrongOnes(t *testing.T) {
	for _, list := range wrongTables() {
		if got := impl.Board(list, 0, 0, 50); len(got) != 0 {
			t.Errorf("%v: %v", list, got)
		}
	}
	if len(impl.Board(nil, 0, 0, 50)) != 0 {
		t.Error("nothing departs without trips")
	}
}

func TestMoved(t *testing.T) {
	trip := tripOf("a7", at(0, 420, 422), at(3, 430, 430))
	checkTrip(t, "by 0", impl.Moved(trip, 0), trip)
	checkTrip(t, "on", impl.Moved(trip, 60), tripOf("a7", at(0, 480, 482), at(3, 490, 490)))
	checkTrip(t, "to the start", impl.Moved(trip, -420), tripOf("a7", at(0, 0, 2), at(3, 10, 10)))
	checkTrip(t, "ahead of the start", impl.Moved(trip, -421), impl.Trip{})
	checkTrip(t, "to the end", impl.Moved(trip, 99570), tripOf("a7", at(0, 99990, 99992), at(3, 100000, 100000)))
	checkTrip(t, "behind the end", impl.Moved(trip, 99571), impl.Trip{})
	for _, by := range []int{-100000, -100001, 100000, 100001, math.MinInt, math.MaxInt} {
		checkTrip(t, strconv.Itoa(by), impl.Moved(trip, by), impl.Trip{})
	}
	for _, wrong := range wrongTrips() {
		checkTrip(t, "a wrong one", impl.Moved(wrong, 0), impl.Trip{})
	}
}

func TestMovedTurnsNoWrongTripIntoARightOne(t *testing.T) {
	checkTrip(t, "from below 0", impl.Moved(tripOf("a", at(0, -5, 0), at(1, 3, 3)), 5), impl.Trip{})
	checkTrip(t, "from beyond", impl.Moved(tripOf("a", at(0, 5, 6), at(1, 9, 100001)), -1), impl.Trip{})
	checkTrip(t, "back from beyond", impl.Back(tripOf("a", at(0, 99990, 99991), at(1, 99999, 100001)), 0), impl.Trip{})
}

func TestClockface(t *testing.T) {
	trip := tripOf("a7", at(0, 420, 422), at(3, 430, 430))
	want := []impl.Trip{
		tripOf("a70", at(0, 420, 422), at(3, 430, 430)),
		tripOf("a71", at(0, 480, 482), at(3, 490, 490)),
		tripOf("a72", at(0, 540, 542), at(3, 550, 550)),
	}
	if got := impl.Clockface(trip, 60, 3); !sameTable(got, want) {
		t.Error(got)
	}
	for _, step := range []int{math.MinInt, -1, 0, 1, 2, 1439, 1440, 1441, math.MaxInt} {
		for _, times := range []int{math.MinInt, -1, 0, 1, 2, 23, 24, 25, math.MaxInt} {
			checkClock(t, trip, step, times)
		}
	}
	if got := impl.Clockface(trip, 1440, 24); len(got) != 24 || got[23].Name != "a723" || got[23].Calls[1].Dep != 430+23*1440 {
		t.Error(got)
	}
	for _, wrong := range wrongTrips() {
		if len(impl.Clockface(wrong, 1, 1)) != 0 {
			t.Errorf("%v on a clock face", wrong)
		}
	}
}

func TestClockfaceOfLongNames(t *testing.T) {
	for length := 1; length <= 12; length++ {
		trip := shuttle(strings.Repeat("x", length), 0, 2)
		for times := 1; times <= 24; times++ {
			want := times
			if length == 12 || length == 11 && times > 10 {
				want = 0
			}
			if got := impl.Clockface(trip, 1, times); len(got) != want {
				t.Errorf("%d bytes, %d times: %v", length, times, got)
			}
		}
	}
}

func TestClockfaceAtTheEnd(t *testing.T) {
	trip := shuttle("a", 100000-3-10, 2)
	for _, c := range []struct{ step, times, want int }{{10, 2, 2}, {11, 2, 0}, {5, 3, 3}, {5, 4, 0}, {1, 11, 11}, {1, 12, 0}, {1440, 1, 1}, {1440, 2, 0}} {
		if got := impl.Clockface(trip, c.step, c.times); len(got) != c.want {
			t.Errorf("step %d, %d times: %v", c.step, c.times, got)
		}
	}
}

// The names of one clock face differ; those of two may be alike, and then both together are no timetable.
func TestClockfaceNamesThatBecomeAlike(t *testing.T) {
	one, other := impl.Clockface(shuttle("a", 0, 2), 10, 12), impl.Clockface(shuttle("a1", 5, 2), 10, 2)
	if len(one) != 12 || len(other) != 2 || one[11].Name != other[1].Name {
		t.Fatal(one, other)
	}
	if impl.TableOk(append(tableCopy(one), other...)) || !impl.TableOk(append(tableCopy(one[:10]), other...)) {
		t.Error("two with one name")
	}
}

func TestBack(t *testing.T) {
	trip := tripOf("a", at(0, 10, 12), at(3, 13, 20), at(5, 30, 34))
	checkTrip(t, "from 50", impl.Back(trip, 50), tripOf("a", at(5, 50, 54), at(3, 64, 71), at(0, 72, 74)))
	checkTrip(t, "from 0", impl.Back(trip, 0), tripOf("a", at(5, 0, 4), at(3, 14, 21), at(0, 22, 24)))
	checkTrip(t, "to the end", impl.Back(trip, 99976), tripOf("a", at(5, 99976, 99980), at(3, 99990, 99997), at(0, 99998, 100000)))
	checkTrip(t, "twice", impl.Back(impl.Back(trip, 50), 10), trip)
	for _, start := range []int{99977, 100000, 100001, -1, math.MinInt, math.MaxInt} {
		checkTrip(t, strconv.Itoa(start), impl.Back(trip, start), impl.Trip{})
	}
	for _, wrong := range wrongTrips() {
		checkTrip(t, "a wrong one", impl.Back(wrong, 0), impl.Trip{})
	}
}

func TestTripText(t *testing.T) {
	for _, c := range []struct {
		trip impl.Trip
		text string
	}{
		{tripOf("a7", at(0, 420, 422), at(3, 430, 430)), "a7 0@07:00-07:02 3@07:10-07:10"},
		{tripOf("0", at(29, 0, 59), at(10, 60, 100000)), "0 29@00:00-00:59 10@01:00-1666:40"},
		{tripOf("abcdefghijkl", at(9, 5999, 6000), at(0, 6001, 6060)), "abcdefghijkl 9@99:59-100:00 0@100:01-101:00"},
		{tripOf("a", at(0, 1, 1), at(1, 2, 2), at(0, 3, 3)), "a 0@00:01-00:01 1@00:02-00:02 0@00:03-00:03"},
	} {
		if got := impl.TripText(c.trip); got != c.text {
			t.Errorf("%v: %q", c.trip, got)
		}
		if got, ok := impl.ReadTrip(c.text); !ok || !sameTrip(got, c.trip) {
			t.Errorf("%q: %v, %v", c.text, got, ok)
		}
	}
	for _, wrong := range wrongTrips() {
		if got := impl.TripText(wrong); got != "" {
			t.Errorf("%v: %q", wrong, got)
		}
	}
}

func TestReadTripRefuses(t *testing.T) {
	for _, text := range []string{
		"", " ", "a", "a ", "a7 0@07:00-07:02", " a7 0@07:00-07:02 3@07:10-07:10", "a7 0@07:00-07:02 3@07:10-07:10 ",
		"a7  0@07:00-07:02 3@07:10-07:10", "a7 0@07:00-07:02  3@07:10-07:10", "a7 0@07:00-07:023@07:10-07:10",
		"a70@07:00-07:02 3@07:10-07:10", "0@07:00-07:02 3@07:10-07:10", " 0@07:00-07:02 3@07:10-07:10",
		"a7 00@07:00-07:02 3@07:10-07:10", "a7 0@07:00-07:02 03@07:10-07:10", "a7 @07:00-07:02 3@07:10-07:10",
		"a7 -0@07:00-07:02 3@07:10-07:10", "a7 +0@07:00-07:02 3@07:10-07:10", "a7 -1@07:00-07:02 3@07:10-07:10",
		"a7 0@7:00-07:02 3@07:10-07:10", "a7 0@007:00-07:02 3@07:10-07:10", "a7 0@07:0-07:02 3@07:10-07:10",
		"a7 0@07:00-07:2 3@07:10-07:10", "a7 0@07:00-007:02 3@07:10-07:10", "a7 0@07:60-08:02 3@08:10-08:10",
		"a7 0@0700-07:02 3@07:10-07:10", "a7 0@07:0007:02 3@07:10-07:10", "a7 007:00-07:02 3@07:10-07:10",
		"a7 0@@07:00-07:02 3@07:10-07:10", "a7 0@07:00--07:02 3@07:10-07:10", "a7 0@07:00-07:02- 3@07:10-07:10",
		"a7 0@07:00-07:02-07:03 3@07:10-07:10", "a7 0@07:00 3@07:10-07:10", "a7 0@ 3@07:10-07:10", "a7 0 3@07:10-07:10",
		"a7 30@07:00-07:02 3@07:10-07:10", "a7 0@07:00-07:02 30@07:10-07:10", "a7 0@07:02-07:00 3@07:10-07:10",
		"a7 0@07:00-07:10 3@07:10-07:10", "a7 0@07:00-07:02 0@07:10-07:10", "a7 0@07:00-07:02 3@07:10-1666:41",
		"a7 18446744073709551616@07:00-07:02 3@07:10-07:10", "a7 4294967296@07:00-07:02 3@07:10-07:10",
		"A7 0@07:00-07:02 3@07:10-07:10", "abcdefghijklm 0@07:00-07:02 3@07:10-07:10", "a\u00e9 0@07:00-07:02 3@07:10-07:10",
		"a7\t0@07:00-07:02 3@07:10-07:10", "a7 0@07:00-07:02\n3@07:10-07:10", "a7 0@07:00-07:02 3@07:10-07:10\n",
		"a7 0@07:00-07:02\u00a03@07:10-07:10", "a7 \u0660@07:00-07:02 3@07:10-07:10", "a7 0@07:00\u20107:02 3@07:10-07:10",
		"a7 0@07:00-07:02 3@07:10-07:10\x00", "\ufeffa7 0@07:00-07:02 3@07:10-07:10",
	} {
		if got, ok := impl.ReadTrip(text); ok || !sameTrip(got, impl.Trip{}) {
			t.Errorf("%q: %v, %v", text, got, ok)
		}
	}
}

// A byte too many, one too few and another one, at every place of a few texts.
func TestReadTripOfTextsAByteAway(t *testing.T) {
	for _, trip := range []impl.Trip{
		tripOf("a7", at(0, 420, 422), at(3, 430, 430)),
		tripOf("0", at(29, 0, 6000), at(2, 99999, 100000)),
		tripOf("abcdefghijkl", at(1, 59, 60), at(10, 600, 659), at(1, 5999, 6000)),
	} {
		text := impl.TripText(trip)
		for i := range len(text) + 1 {
			for b := range 256 {
				more := string([]byte{byte(b)})
				checkRead(t, text[:i]+more+text[i:])
				if i < len(text) {
					checkRead(t, text[:i]+more+text[i+1:])
				}
			}
			for k := i; k <= len(text); k++ {
				checkRead(t, text[:i]+text[k:])
				checkRead(t, text[:i]+text[i:k]+text[i:])
			}
		}
	}
}

func TestReadTripOfLongTexts(t *testing.T) {
	longest := impl.Trip{Name: "abcdefghijkl"}
	for k := range 12 {
		longest.Calls = append(longest.Calls, at(10+k, 100000-23+2*k, 100000-22+2*k))
	}
	text := impl.TripText(longest)
	if len(text) != 240 {
		t.Errorf("%d bytes: %q", len(text), text)
	}
	if got, ok := impl.ReadTrip(text); !ok || !sameTrip(got, longest) {
		t.Errorf("%q: %v, %v", text, got, ok)
	}
	// No trip has a text of that many bytes: whatever fills the room, it is refused.
	for _, length := range []int{241, 299, 300, 301, 302, 1000} {
		for _, more := range []string{" ", "0", "a", " 5@1666:38-1666:39", " 22@1666:40-1666:40"} {
			behind := (text + strings.Repeat(more, length))[:length]
			ahead := strings.Repeat("a", length-len(text)) + text
			for _, some := range []string{behind, ahead} {
				if got, ok := impl.ReadTrip(some); ok || !sameTrip(got, impl.Trip{}) {
					t.Errorf("%q: %v, %v", some, got, ok)
				}
			}
		}
	}
	checkRead(t, text+" 22@1666:40-1666:40")
	checkRead(t, strings.Repeat(" ", 300))
	checkRead(t, strings.Repeat("0@00:00-00:00 ", 22))
	checkRead(t, strings.Repeat("x", 1<<20))
}

func TestTripsThrown(t *testing.T) {
	d := &dice{state: 8}
	for range 400 {
		trip := someTrip(d, strconv.Itoa(d.below(1000)), d.below(90000), 1+d.below(900), 2+d.below(29))
		if d.below(4) == 0 {
			trip.Calls[d.below(len(trip.Calls))].Arr += d.below(5) - 2
		}
		if d.below(4) == 0 {
			trip.Calls[d.below(len(trip.Calls))].Node = d.below(34) - 2
		}
		minutes := []int{-100001, -1, 0, 99999, 100000, 100001, d.below(100000)}
		for _, c := range trip.Calls {
			minutes = append(minutes, c.Arr-1, c.Arr, c.Dep, c.Dep+1, 100000-c.Dep, 100001-c.Dep)
		}
		checkAllOf(t, trip, minutes)
		for range 6 {
			checkClock(t, trip, d.below(1443)-1, d.below(27)-1)
		}
	}
}

// Promise 10: a trip that is printed is read as it was, and the other way round.
func TestPromise10Texts(t *testing.T) {
	d := &dice{state: 10}
	for range 2000 {
		trip := someTrip(d, strconv.FormatInt(int64(d.below(1<<30))*int64(1+d.below(1<<20)), 36), d.below(1000), 1+d.below(4000), 2+d.below(29))
		if !tripByWords(trip) {
			continue
		}
		text := impl.TripText(trip)
		if got, ok := impl.ReadTrip(text); !ok || !sameTrip(got, trip) || impl.TripText(got) != text {
			t.Fatalf("%v: %q is read as %v, %v", trip, text, got, ok)
		}
	}
}

// Promise 10: a board misses nothing and is in order, whatever count it stops at.
func TestPromise10Boards(t *testing.T) {
	d := &dice{state: 11}
	for range 150 {
		list := someTable(d, 1+d.below(6), 2+d.below(4))
		if !impl.TableOk(list) {
			t.Fatalf("%v is a timetable", list)
		}
		for range 12 {
			checkBoard(t, list, d.below(8)-1, d.below(60)-5, d.below(53)-1)
		}
	}
}

// Promise 10: trips on a clock face are a timetable, each a step behind the one ahead.
func TestPromise10Clockfaces(t *testing.T) {
	d := &dice{state: 12}
	for range 300 {
		trip := someTrip(d, "c"+strconv.Itoa(d.below(100)), d.below(70000), 1+d.below(50), 30)
		step, times := 1+d.below(1440), 1+d.below(24)
		list := impl.Clockface(trip, step, times)
		if !impl.TableOk(list) || len(list) != 0 && len(list) != times {
			t.Fatalf("%v, %d, %d: %v", trip, step, times, list)
		}
		last := trip.Calls[len(trip.Calls)-1].Dep + (times-1)*step
		if (len(list) == 0) != (last > 100000) {
			t.Fatalf("%v, %d, %d: %v", trip, step, times, list)
		}
		for k, one := range list {
			back := impl.Moved(one, -k*step)
			if one.Name != trip.Name+strconv.Itoa(k) || !slices.Equal(back.Calls, trip.Calls) {
				t.Fatalf("%v, %d, %d: %v", trip, step, times, list)
			}
		}
	}
}

func TestMovedOrTurnedTwiceIsAsItWas(t *testing.T) {
	d := &dice{state: 13}
	for range 500 {
		trip := someTrip(d, "m", d.below(30000), 1+d.below(900), 30)
		by := d.below(60001) - 30000
		if moved := impl.Moved(trip, by); len(moved.Calls) > 0 {
			checkTrip(t, "moved and back", impl.Moved(moved, -by), trip)
		}
		if back := impl.Back(trip, d.below(100001)); len(back.Calls) > 0 {
			checkTrip(t, "turned twice", impl.Back(back, trip.Calls[0].Arr), trip)
		}
	}
}

func TestTripsShareNoMemory(t *testing.T) {
	// Room behind the list: what is put there would be seen.
	room := make([]impl.Call, 6)
	copy(room, []impl.Call{at(0, 10, 12), at(3, 13, 20), at(5, 30, 34), at(7, 7, 7)})
	trip := impl.Trip{Name: "a", Calls: room[:3]}
	was := slices.Clone(room)
	answers := []impl.Trip{impl.Moved(trip, 0), impl.Moved(trip, 5), impl.Back(trip, 0), impl.Back(trip, 10)}
	answers = append(answers, impl.Clockface(trip, 1, 20)...)
	for i, one := range answers {
		others := tableCopy(answers)
		for k := range one.Calls {
			one.Calls[k] = at(-9, -9, -9)
		}
		_ = append(one.Calls, at(-8, -8, -8))
		if !slices.Equal(room, was) {
			t.Errorf("answer %d shares memory with the trip", i)
		}
		for k := range answers {
			if k != i && !sameTrip(answers[k], others[k]) {
				t.Errorf("answers %d and %d share memory", i, k)
			}
		}
	}
	list := []impl.Trip{trip, shuttle("b", 0, 4)}
	board := impl.Board(list, 0, 0, 50)
	board[0] = impl.Entry{Trip: -9, Call: -9}
	if len(board) != 3 || !slices.Equal(room, was) || !slices.Equal(impl.Board(list, 0, 0, 50), boardByWords(list, 0, 0, 50)) {
		t.Error("a board shares memory")
	}
}

func TestTripsNeverPanic(t *testing.T) {
	trips := append(wrongTrips(), shuttle("a", 0, 2), shuttle("a", 100000-23, 12))
	extremes := []int{math.MinInt, math.MinInt + 1, -100001, -1, 0, 1, 50, 51, 100000, 100001, math.MaxInt - 1, math.MaxInt}
	for _, trip := range trips {
		for _, x := range extremes {
			for _, y := range extremes {
				if panicsIn(func() {
					impl.Where(trip, x)
					impl.Moved(trip, x)
					impl.Back(trip, x)
					impl.Clockface(trip, x, y)
					impl.Board([]impl.Trip{trip}, x, y, 3)
					impl.Board([]impl.Trip{trip}, 0, x, y)
				}) {
					t.Errorf("%v, %d, %d", trip, x, y)
				}
			}
		}
	}
	d := &dice{state: 14}
	for range 20000 {
		text := make([]byte, d.below(40))
		for i := range text {
			text[i] = "0123@:- a\xff"[d.below(10)]
		}
		checkRead(t, string(text))
	}
}
