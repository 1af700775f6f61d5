package tests

import (
	"math"
	"slices"
	"testing"

	"loop.example/g00075/impl"
)

func going(at, goal int) impl.Single {
	return impl.Single{At: at, Goal: goal}
}

// spotsByWords tells, spot by spot along the line, how many trains fit there.
func spotsByWords(line []int) []int {
	var fits []int
	for k, station := range line {
		if k > 0 {
			fits = append(fits, 1)
		}
		fits = append(fits, station)
	}
	return fits
}

// singlesByWords writes the trains down at their spots, and strikes them out there one by one.
func singlesByWords(line []int, trains []impl.Single) bool {
	if len(line) < 2 || len(line) > 5 || len(trains) > 4 || slices.Min(line) < 1 || slices.Max(line) > 4 {
		return false
	}
	free := map[int]int{}
	goals := map[int]bool{}
	for spot, fit := range spotsByWords(line) {
		free[spot] = fit
		goals[spot] = spot%2 == 0
	}
	for _, s := range trains {
		if free[s.At] == 0 || !goals[s.Goal] {
			return false
		}
		free[s.At]--
	}
	return true
}

// moveByWords moves the train to the next spot and asks whether all is right then: a spot too full is not.
func moveByWords(line []int, trains []impl.Single, i int) ([]impl.Single, bool) {
	if !singlesByWords(line, trains) || i < 0 || i >= len(trains) || trains[i].At == trains[i].Goal {
		return nil, false
	}
	then := slices.Clone(trains)
	if then[i].At < then[i].Goal {
		then[i].At++
	} else {
		then[i].At--
	}
	if !singlesByWords(line, then) {
		return nil, false
	}
	return then, true
}

func allThere(trains []impl.Single) bool {
	return !slices.ContainsFunc(trains, func(s impl.Single) bool { return s.At != s.Goal })
}

func stuckByWords(line []int, trains []impl.Single) bool {
	if !singlesByWords(line, trains) || allThere(trains) {
		return false
	}
	for i := range trains {
		if _, ok := moveByWords(line, trains, i); ok {
			return false
		}
	}
	return true
}

// canByWords takes one move after the other, with all the line-ups that so many moves lead to.
func canByWords(line []int, trains []impl.Single) bool {
	if !singlesByWords(line, trains) {
		return false
	}
	now := [][]impl.Single{trains}
	for len(now) > 0 {
		var next [][]impl.Single
		seen := map[[4]impl.Single]bool{}
		for _, some := range now {
			if allThere(some) {
				return true
			}
			for i := range some {
				then, ok := moveByWords(line, some, i)
				key := [4]impl.Single{}
				copy(key[:], then)
				if ok && !seen[key] {
					seen[key] = true
					next = append(next, then)
				}
			}
		}
		now = next
	}
	return false
}

func firstByWords(line []int, trains []impl.Single) int {
	for i := range trains {
		if then, ok := moveByWords(line, trains, i); ok && canByWords(line, then) {
			return i
		}
	}
	return -1
}

func finishByWords(line []int, trains []impl.Single) []int {
	var moves []int
	for canByWords(line, trains) && !allThere(trains) {
		i := firstByWords(line, trains)
		moves = append(moves, i)
		trains, _ = moveByWords(line, trains, i)
	}
	return moves
}

// checkSingles holds every function against the chapter's words, on one line and its trains, which must stay as they were.
func checkSingles(t *testing.T, line []int, trains []impl.Single) {
	t.Helper()
	lineWas, trainsWas := slices.Clone(line), slices.Clone(trains)
	if got, want := impl.SinglesOk(line, trains), singlesByWords(line, trains); got != want {
		t.Fatalf("SinglesOk(%v, %v): %v, not %v", line, trains, got, want)
	}
	for i := -1; i <= len(trains); i++ {
		checkMoveOn(t, line, trains, i)
	}
	if got, want := impl.Stuck(line, trains), stuckByWords(line, trains); got != want {
		t.Fatalf("Stuck(%v, %v): %v, not %v", line, trains, got, want)
	}
	if got, want := impl.CanFinish(line, trains), canByWords(line, trains); got != want {
		t.Fatalf("CanFinish(%v, %v): %v, not %v", line, trains, got, want)
	}
	if got, want := impl.FirstMove(line, trains), firstByWords(line, trains); got != want {
		t.Fatalf("FirstMove(%v, %v): %v, not %v", line, trains, got, want)
	}
	if got, want := impl.Finish(line, trains), finishByWords(line, trains); !slices.Equal(got, want) {
		t.Fatalf("Finish(%v, %v): %v, not %v", line, trains, got, want)
	}
	if !slices.Equal(line, lineWas) || !slices.Equal(trains, trainsWas) {
		t.Fatalf("%v, %v became %v, %v", lineWas, trainsWas, line, trains)
	}
}

func checkMoveOn(t *testing.T, line []int, trains []impl.Single, i int) {
	t.Helper()
	want, wantOk := moveByWords(line, trains, i)
	if got := impl.MayMove(line, trains, i); got != wantOk {
		t.Fatalf("MayMove(%v, %v, %d): %v", line, trains, i, got)
	}
	if got, ok := impl.MoveOn(line, trains, i); ok != wantOk || !slices.Equal(got, want) {
		t.Fatalf("MoveOn(%v, %v, %d): %v, %v, not %v, %v", line, trains, i, got, ok, want, wantOk)
	}
}

// singlesOn gives every train that a line may have.
func singlesOn(line []int) []impl.Single {
	var all []impl.Single
	for at := 0; at <= 2*len(line)-2; at++ {
		for goal := 0; goal <= 2*len(line)-2; goal += 2 {
			all = append(all, going(at, goal))
		}
	}
	return all
}

// throwSingles throws a line and trains on it, of which the last that don't fit are left out.
func throwSingles(d *dice) ([]int, []impl.Single) {
	line := make([]int, 2+d.below(4))
	for k := range line {
		line[k] = 1 + d.below(4)*d.below(2)
	}
	var trains []impl.Single
	for range 4 {
		more := append(slices.Clone(trains), going(d.below(2*len(line)-1), 2*d.below(len(line))))
		if singlesByWords(line, more) {
			trains = more
		}
	}
	return line, trains
}

func TestSingleLimits(t *testing.T) {
	if impl.MaxLoops != 5 || impl.MaxSingles != 4 {
		t.Error("MaxLoops", impl.MaxLoops, "MaxSingles", impl.MaxSingles)
	}
}

func TestSinglesOkLine(t *testing.T) {
	right := [][]int{{1, 1}, {4, 4}, {1, 4}, {2, 1, 3}, {1, 1, 1, 1, 1}, {4, 4, 4, 4, 4}}
	for _, line := range right {
		if !impl.SinglesOk(line, nil) || !impl.SinglesOk(line, []impl.Single{}) {
			t.Errorf("%v without trains is right", line)
		}
		for k := range line {
			for _, fit := range []int{0, 5, -1, math.MaxInt, math.MinInt} {
				wrong := slices.Clone(line)
				wrong[k] = fit
				if impl.SinglesOk(wrong, nil) {
					t.Errorf("%v is not a line", wrong)
				}
				checkSingles(t, wrong, []impl.Single{going(0, 2)})
			}
		}
	}
	for _, wrong := range [][]int{nil, {}, {1}, {4}, {1, 1, 1, 1, 1, 1}, {1, 1, 1, 1, 1, 0}} {
		if impl.SinglesOk(wrong, nil) {
			t.Errorf("%v is not a line", wrong)
		}
		checkSingles(t, wrong, nil)
		checkSingles(t, wrong, []impl.Single{going(0, 0)})
	}
}

func TestSinglesOkTrain(t *testing.T) {
	for stations := 2; stations <= 5; stations++ {
		line, last := slices.Repeat([]int{2}, stations), 2*stations-2
		for at := -3; at <= last+3; at++ {
			for goal := -3; goal <= last+3; goal++ {
				want := at >= 0 && at <= last && goal >= 0 && goal <= last && goal%2 == 0
				if got := impl.SinglesOk(line, []impl.Single{going(at, goal)}); got != want {
					t.Errorf("At %d, Goal %d on %v: %v", at, goal, line, got)
				}
				checkSingles(t, line, []impl.Single{going(at, goal)})
				checkSingles(t, line, []impl.Single{going(0, 2), going(at, goal)})
			}
		}
		for _, far := range []int{math.MinInt, math.MinInt + 1, math.MaxInt - 1, math.MaxInt} {
			checkSingles(t, line, []impl.Single{going(far, 0)})
			checkSingles(t, line, []impl.Single{going(0, far)})
			checkSingles(t, line, []impl.Single{going(far, far)})
		}
	}
}

func TestSinglesOkRoom(t *testing.T) {
	for fit := 1; fit <= 4; fit++ {
		line := []int{fit, fit, fit}
		for spot := range 5 {
			for n := range 6 {
				trains := slices.Repeat([]impl.Single{going(spot, 4)}, n)
				want := n <= 4 && n <= fit && (spot%2 == 0 || n <= 1)
				if got := impl.SinglesOk(line, trains); got != want {
					t.Errorf("%d trains at spot %d of %v: %v", n, spot, line, got)
				}
				checkSingles(t, line, trains)
			}
		}
	}
}

func TestSinglesOkMany(t *testing.T) {
	line := []int{4, 4}
	four := []impl.Single{going(0, 2), going(0, 0), going(2, 0), going(2, 2)}
	if !impl.SinglesOk(line, four) {
		t.Error("MaxSingles trains are right")
	}
	for _, more := range singlesOn(line) {
		five := append(slices.Clone(four), more)
		if impl.SinglesOk(line, five) {
			t.Error("one more than MaxSingles", five)
		}
		checkSingles(t, line, five)
	}
}

func TestMayMove(t *testing.T) {
	line := []int{1, 2, 1}
	cases := []struct {
		trains []impl.Single
		i      int
		want   bool
	}{
		{[]impl.Single{going(0, 4)}, 0, true},
		{[]impl.Single{going(4, 0)}, 0, true},
		{[]impl.Single{going(1, 0)}, 0, true},
		{[]impl.Single{going(0, 4)}, -1, false},
		{[]impl.Single{going(0, 4)}, 1, false},
		{[]impl.Single{going(0, 4)}, math.MaxInt, false},
		{[]impl.Single{going(0, 4)}, math.MinInt, false},
		{nil, 0, false},
		// At its goal.
		{[]impl.Single{going(2, 2)}, 0, false},
		// The section ahead is taken, by one that goes the same way, one that comes, and one that is about to leave.
		{[]impl.Single{going(0, 4), going(1, 4)}, 0, false},
		{[]impl.Single{going(0, 4), going(1, 0)}, 0, false},
		// The station ahead has room for one more, and has none.
		{[]impl.Single{going(1, 2), going(2, 2)}, 0, true},
		{[]impl.Single{going(1, 2), going(2, 2), going(2, 4)}, 0, false},
		{[]impl.Single{going(1, 4), going(2, 2), going(2, 2)}, 0, false},
		{[]impl.Single{going(3, 4), going(4, 4)}, 0, false},
		// Who is behind takes no room ahead.
		{[]impl.Single{going(2, 4), going(1, 2), going(2, 0)}, 0, true},
		// Another train that is not right.
		{[]impl.Single{going(0, 4), going(4, 5)}, 0, false},
		{[]impl.Single{going(0, 4), going(5, 4)}, 0, false},
		{[]impl.Single{going(0, 4), going(4, 4), going(4, 4)}, 0, false},
	}
	for _, c := range cases {
		if got := impl.MayMove(line, c.trains, c.i); got != c.want {
			t.Errorf("MayMove(%v, %v, %d): %v", line, c.trains, c.i, got)
		}
		checkMoveOn(t, line, c.trains, c.i)
	}
}

func TestMoveOn(t *testing.T) {
	line := []int{1, 2, 1}
	trains := []impl.Single{going(0, 4), going(3, 0), going(2, 2)}
	if got, ok := impl.MoveOn(line, trains, 0); !ok || !slices.Equal(got, []impl.Single{going(1, 4), going(3, 0), going(2, 2)}) {
		t.Error("up the line", got, ok)
	}
	if got, ok := impl.MoveOn(line, trains, 1); !ok || !slices.Equal(got, []impl.Single{going(0, 4), going(2, 0), going(2, 2)}) {
		t.Error("down the line", got, ok)
	}
	for _, i := range []int{2, 3, -1} {
		if got, ok := impl.MoveOn(line, trains, i); ok || len(got) != 0 {
			t.Error("train", i, "moves", got, ok)
		}
	}
}

func TestMoveOnOwnMemory(t *testing.T) {
	line := []int{1, 2, 1}
	// Room behind the trains, into which an answer that shares memory would grow.
	trains := append(make([]impl.Single, 0, 8), going(0, 4), going(4, 0))
	got, _ := impl.MoveOn(line, trains, 0)
	for i := range got {
		got[i] = going(-7, -7)
	}
	if !slices.Equal(trains, []impl.Single{going(0, 4), going(4, 0)}) {
		t.Error("the trains became", trains)
	}
	moves := impl.Finish(line, trains)
	for i := range moves {
		moves[i] = -7
	}
	if again := impl.Finish(line, trains); !slices.Equal(again, finishByWords(line, trains)) {
		t.Error("the moves of another call became", again)
	}
	if !slices.Equal(line, []int{1, 2, 1}) {
		t.Error("the line became", line)
	}
}

func TestStuck(t *testing.T) {
	cases := []struct {
		line   []int
		trains []impl.Single
		want   bool
	}{
		{[]int{1, 1, 1}, []impl.Single{going(1, 4), going(2, 0)}, true},
		{[]int{1, 1}, []impl.Single{going(0, 2), going(1, 0)}, true},
		{[]int{1, 2, 1}, []impl.Single{going(1, 4), going(2, 0)}, false},
		// Not stuck yet.
		{[]int{1, 1, 1}, []impl.Single{going(0, 4), going(4, 0)}, false},
		// One may move, though it does not help the others.
		{[]int{1, 1, 1}, []impl.Single{going(0, 2), going(1, 0), going(4, 2)}, false},
		// One that is at its goal is in the way.
		{[]int{1, 1, 1}, []impl.Single{going(1, 4), going(2, 2)}, true},
		{[]int{1, 1}, []impl.Single{going(1, 2), going(2, 2)}, true},
		{[]int{1, 1}, []impl.Single{going(0, 2), going(2, 2)}, false},
		// All there, and none there.
		{[]int{1, 1}, []impl.Single{going(0, 0), going(2, 2)}, false},
		{[]int{1, 1}, nil, false},
		// Not right: a line of one station, a section too full, a goal on a section.
		{[]int{1}, []impl.Single{going(0, 0)}, false},
		{[]int{1, 1}, []impl.Single{going(1, 2), going(1, 0)}, false},
		{[]int{1, 1}, []impl.Single{going(0, 2), going(1, 1)}, false},
	}
	for _, c := range cases {
		if got := impl.Stuck(c.line, c.trains); got != c.want {
			t.Errorf("Stuck(%v, %v): %v", c.line, c.trains, got)
		}
		checkSingles(t, c.line, c.trains)
	}
}

func TestFinishCases(t *testing.T) {
	cases := []struct {
		name   string
		line   []int
		trains []impl.Single
		can    bool
		first  int
		moves  []int
	}{
		{"one train", []int{1, 1}, []impl.Single{going(2, 0)}, true, 0, []int{0, 0}},
		{"the whole longest line", []int{1, 1, 1, 1, 1}, []impl.Single{going(0, 8)}, true, 0, []int{0, 0, 0, 0, 0, 0, 0, 0}},
		{"they meet in the loop", []int{1, 2, 1}, []impl.Single{going(0, 4), going(4, 0)}, true, 0, []int{0, 0, 1, 1, 0, 0, 1, 1}},
		{"no loop", []int{1, 1, 1}, []impl.Single{going(0, 4), going(4, 0)}, false, -1, nil},
		{"face to face", []int{1, 4}, []impl.Single{going(0, 2), going(1, 0)}, false, -1, nil},
		{"they part", []int{1, 1, 1}, []impl.Single{going(1, 0), going(2, 4)}, true, 0, []int{0, 1, 1}},
		{"one behind the other", []int{2, 1, 2}, []impl.Single{going(0, 4), going(1, 4)}, true, 1, []int{1, 0, 1, 0, 1, 0, 0}},
		{"the first may move but must not", []int{2, 1, 1}, []impl.Single{going(0, 4), going(4, 0)}, true, 1, []int{1, 1, 1, 1, 0, 0, 0, 0}},
		{"one too many at the goal", []int{1, 1, 1}, []impl.Single{going(0, 2), going(2, 2)}, false, -1, nil},
		{"room for both at the goal", []int{1, 2, 1}, []impl.Single{going(0, 2), going(2, 2)}, true, 0, []int{0, 0}},
		{"one at its goal in the way", []int{1, 1, 1}, []impl.Single{going(2, 2), going(0, 4)}, false, -1, nil},
		{"one passed at its goal", []int{1, 2, 1}, []impl.Single{going(2, 2), going(0, 4)}, true, 1, []int{1, 1, 1, 1}},
		{"two with one goal where one fits", []int{1, 1, 1}, []impl.Single{going(0, 2), going(4, 2)}, false, -1, nil},
		{"one waits till the other has left its goal", []int{1, 1, 1}, []impl.Single{going(0, 2), going(2, 4)}, true, 0, []int{0, 1, 0, 1}},
		{"all there", []int{1, 1}, []impl.Single{going(2, 2), going(0, 0)}, true, -1, nil},
		{"no train", []int{1, 1}, nil, true, -1, nil},
		{"not right", []int{1, 1}, []impl.Single{going(0, 2), going(0, 2)}, false, -1, nil},
		{"no line", nil, nil, false, -1, nil},
	}
	for _, c := range cases {
		if got := impl.CanFinish(c.line, c.trains); got != c.can {
			t.Errorf("%s: CanFinish: %v", c.name, got)
		}
		if got := impl.FirstMove(c.line, c.trains); got != c.first {
			t.Errorf("%s: FirstMove: %v, not %v", c.name, got, c.first)
		}
		if got := impl.Finish(c.line, c.trains); !slices.Equal(got, c.moves) {
			t.Errorf("%s: Finish: %v, not %v", c.name, got, c.moves)
		}
		checkSingles(t, c.line, c.trains)
	}
}

// They are not stuck yet, but no order of moves is any good.
func TestNotStuckYet(t *testing.T) {
	line, trains := []int{1, 1, 1, 1, 1}, []impl.Single{going(0, 8), going(8, 0)}
	if impl.Stuck(line, trains) || impl.CanFinish(line, trains) || impl.FirstMove(line, trains) != -1 {
		t.Error("two that face each other on a line without a loop can't finish")
	}
	for {
		then, ok := impl.MoveOn(line, trains, 0)
		if !ok {
			break
		}
		trains = then
	}
	if !impl.Stuck(line, trains) {
		t.Error("they have met and are stuck", trains)
	}
}

// The longest searches there are: four trains from end to end.
func TestFinishLongest(t *testing.T) {
	for _, line := range [][]int{{4, 1, 1, 1, 4}, {4, 4, 4, 4, 4}, {4, 2, 1, 2, 4}} {
		checkSingles(t, line, []impl.Single{going(0, 8), going(8, 0), going(0, 8), going(8, 0)})
	}
}

func TestSinglesEveryTwo(t *testing.T) {
	lines := [][]int{{1, 1, 1, 1}, {1, 1, 2, 1}, {2, 1, 1, 2}, {1, 1, 1, 1, 1}, {1, 1, 2, 1, 1}}
	manyLists(3, []int{1, 2}, func(line []int) { lines = append(lines, line) })
	for _, line := range lines {
		manyLists(2, singlesOn(line), func(trains []impl.Single) { checkSingles(t, line, trains) })
	}
}

func TestSinglesEveryThree(t *testing.T) {
	for _, line := range [][]int{{1, 1}, {1, 2}, {2, 1}, {2, 2}, {3, 1}, {1, 1, 1}, {1, 2, 1}, {2, 1, 2}, {1, 1, 2}} {
		manyLists(3, singlesOn(line), func(trains []impl.Single) { checkSingles(t, line, trains) })
	}
}

func TestSinglesThrown(t *testing.T) {
	d := &dice{state: 7}
	for range 3000 {
		line, trains := throwSingles(d)
		checkSingles(t, line, trains)
	}
}

// Promise 9: who can finish does so by the moves of Finish, nobody is stuck on the way, and who is stuck can't finish.
func TestPromiseSingles(t *testing.T) {
	d := &dice{state: 97}
	finished, stuck := 0, 0
	for range 20000 {
		line, trains := throwSingles(d)
		if impl.Stuck(line, trains) {
			stuck++
			if impl.CanFinish(line, trains) || impl.FirstMove(line, trains) != -1 || len(impl.Finish(line, trains)) != 0 {
				t.Fatalf("%v on %v are stuck but can finish", trains, line)
			}
		}
		if impl.CanFinish(line, trains) {
			finished++
			followFinish(t, line, trains)
		}
	}
	if finished < 1000 || stuck < 1000 {
		t.Error("too few of a kind were thrown", finished, stuck)
	}
}

func followFinish(t *testing.T, line []int, trains []impl.Single) {
	t.Helper()
	spots := 0
	for _, s := range trains {
		spots += max(s.At-s.Goal, s.Goal-s.At)
	}
	moves, now := impl.Finish(line, trains), trains
	if len(moves) != spots {
		t.Fatalf("%v on %v: %d moves, not %d", trains, line, len(moves), spots)
	}
	for n, i := range moves {
		if first := impl.FirstMove(line, now); first != i || impl.Stuck(line, now) {
			t.Fatalf("%v on %v: move %d is of %d, not of %d", trains, line, n, first, i)
		}
		then, ok := impl.MoveOn(line, now, i)
		if !ok || !impl.SinglesOk(line, then) || !impl.CanFinish(line, then) {
			t.Fatalf("%v on %v: move %d leads to %v", trains, line, n, then)
		}
		now = then
	}
	if !allThere(now) || impl.Stuck(line, now) || impl.FirstMove(line, now) != -1 {
		t.Fatalf("%v on %v: in the end %v", trains, line, now)
	}
}

func TestSinglesNeverPanic(t *testing.T) {
	far := []int{math.MinInt, -1, 0, 1, 2, 9, math.MaxInt}
	lines := [][]int{nil, {}, {1}, {math.MaxInt, math.MinInt}, {1, 1}, {1, 1, 1, 1, 1, 1}, slices.Repeat([]int{1}, 1000)}
	trains := [][]impl.Single{nil, {}, slices.Repeat([]impl.Single{going(0, 0)}, 1000)}
	for _, at := range far {
		for _, goal := range far {
			trains = append(trains, []impl.Single{going(at, goal)}, []impl.Single{going(0, 2), going(at, goal)})
		}
	}
	for _, line := range lines {
		for _, some := range trains {
			for _, i := range far {
				bad := panicsIn(func() {
					impl.SinglesOk(line, some)
					impl.MayMove(line, some, i)
					impl.MoveOn(line, some, i)
					impl.Stuck(line, some)
					impl.CanFinish(line, some)
					impl.FirstMove(line, some)
					impl.Finish(line, some)
				})
				if bad {
					t.Errorf("panic at %v, %v, %d", line, some, i)
				}
			}
		}
	}
}
