package tests

import (
	"math"
	"slices"
	"testing"

	"loop.example/g00075/impl"
)

func wrongAspects() []int {
	return []int{math.MinInt, -2, -1, 4, 5, math.MaxInt}
}

func span(rear, front int) impl.Span {
	return impl.Span{Rear: rear, Front: front}
}

// wrongPlaces are places that no list of that length has.
func wrongPlaces(length int) []int {
	return []int{math.MinInt, -2, -1, length, length + 1, math.MaxInt}
}

// manyLines gives every line of at most most blocks, each taken or not, to f.
func manyLines(most int, f func(taken []bool)) {
	for n := range most + 1 {
		for set := range 1 << n {
			taken := make([]bool, n)
			for i := range taken {
				taken[i] = set>>i&1 == 1
			}
			f(taken)
		}
	}
}

// oneTaken is a line of n blocks of which just that one is taken; none when there is no such block.
func oneTaken(n, block int) []bool {
	taken := make([]bool, n)
	if block >= 0 && block < n {
		taken[block] = true
	}
	return taken
}

// freeByWords counts, block after block, what is not taken from i on.
func freeByWords(taken []bool, i int) int {
	count := 0
	for i+count < len(taken) && !taken[i+count] {
		count++
	}
	return count
}

// aspectByWords hangs on how far the next taken block is; at the end the aspect beyond counts on.
func aspectByWords(taken []bool, beyond, i int) int {
	free := freeByWords(taken, i)
	if i+free == len(taken) {
		free += beyond
	}
	return min(free, impl.AspectGreen)
}

func checkInts(t *testing.T, what string, got, want []int) {
	t.Helper()
	if !slices.Equal(got, want) {
		t.Errorf("%s: %v, not %v", what, got, want)
	}
}

func TestSignalConstants(t *testing.T) {
	if impl.MaxBlocks != 100 || impl.MaxTrains != 12 || impl.MaxMoves != 300 {
		t.Error("the limits")
	}
	if impl.AspectRed != 0 || impl.AspectYellow != 1 || impl.AspectDouble != 2 || impl.AspectGreen != 3 {
		t.Error("the numbers of the aspects")
	}
}

func TestAspects(t *testing.T) {
	checkInts(t, "a red block between free ones", impl.Aspects(oneTaken(7, 4), 3), []int{3, 3, 2, 1, 0, 3, 3})
	checkInts(t, "and red beyond", impl.Aspects(oneTaken(7, 4), 0), []int{3, 3, 2, 1, 0, 2, 1})
	checkInts(t, "all taken", impl.Aspects([]bool{true, true, true}, 3), []int{0, 0, 0})
	checkInts(t, "the first taken", impl.Aspects(oneTaken(3, 0), 1), []int{0, 3, 2})
	checkInts(t, "the last taken", impl.Aspects(oneTaken(5, 4), 3), []int{3, 3, 2, 1, 0})
	for beyond := range 4 {
		last := min(beyond+1, 3)
		checkInts(t, "one free block", impl.Aspects([]bool{false}, beyond), []int{last})
		checkInts(t, "one taken block", impl.Aspects([]bool{true}, beyond), []int{0})
		checkInts(t, "two free blocks", impl.Aspects([]bool{false, false}, beyond), []int{min(beyond+2, 3), last})
		checkInts(t, "no block", impl.Aspects(nil, beyond), nil)
		checkInts(t, "no block", impl.Aspects([]bool{}, beyond), nil)
	}
	manyLines(9, func(taken []bool) {
		for beyond := range 4 {
			want := make([]int, len(taken))
			for i := range want {
				want[i] = aspectByWords(taken, beyond, i)
			}
			checkInts(t, "every line", impl.Aspects(taken, beyond), want)
		}
	})
}

func TestAspectsOfLongLines(t *testing.T) {
	for beyond := range 4 {
		for block := -1; block < impl.MaxBlocks; block++ {
			taken := oneTaken(impl.MaxBlocks, block)
			got := impl.Aspects(taken, beyond)
			if len(got) != impl.MaxBlocks {
				t.Fatalf("MaxBlocks blocks: %d aspects", len(got))
			}
			for i, a := range got {
				if a != aspectByWords(taken, beyond, i) {
					t.Errorf("taken %d, beyond %d: block %d shows %d", block, beyond, i, a)
				}
			}
		}
		checkInts(t, "one block too many", impl.Aspects(make([]bool, impl.MaxBlocks+1), beyond), nil)
		checkInts(t, "far too many", impl.Aspects(make([]bool, 5*impl.MaxBlocks), beyond), nil)
	}
}

func TestAspectsOfWrongInputs(t *testing.T) {
	for _, beyond := range wrongAspects() {
		for _, taken := range [][]bool{nil, {}, {false}, {true}, {true, false}, make([]bool, impl.MaxBlocks), make([]bool, impl.MaxBlocks+1)} {
			checkInts(t, "no aspect beyond", impl.Aspects(taken, beyond), nil)
		}
	}
}

func TestGreenHasThreeFreeBlocks(t *testing.T) {
	d := &dice{state: 51}
	for range 500 {
		taken := make([]bool, 1+d.below(impl.MaxBlocks))
		for i := range taken {
			taken[i] = d.below(6) == 0
		}
		for i, a := range impl.Aspects(taken, d.below(4)) {
			if free := impl.FreeFrom(taken, i); a == impl.AspectGreen && free < 3 && i+free < len(taken) {
				t.Errorf("%v: block %d is green", taken, i)
			}
			if (a == impl.AspectRed) != taken[i] {
				t.Errorf("%v: block %d shows %d", taken, i, a)
			}
		}
	}
}

func TestFreeFrom(t *testing.T) {
	manyLines(8, func(taken []bool) {
		for i := range taken {
			if got := impl.FreeFrom(taken, i); got != freeByWords(taken, i) {
				t.Errorf("FreeFrom(%v, %d) is %d", taken, i, got)
			}
		}
		for _, i := range wrongPlaces(len(taken)) {
			if got := impl.FreeFrom(taken, i); got != 0 {
				t.Errorf("FreeFrom(%v, %d), no place, is %d", taken, i, got)
			}
		}
	})
	for _, row := range []struct {
		taken   []bool
		i, want int
	}{
		{make([]bool, impl.MaxBlocks), 0, impl.MaxBlocks}, {make([]bool, impl.MaxBlocks), impl.MaxBlocks - 1, 1},
		{make([]bool, impl.MaxBlocks), impl.MaxBlocks, 0}, {make([]bool, impl.MaxBlocks), -1, 0},
		{oneTaken(impl.MaxBlocks, impl.MaxBlocks-1), 0, impl.MaxBlocks - 1}, {oneTaken(impl.MaxBlocks, impl.MaxBlocks-1), impl.MaxBlocks - 1, 0},
		{oneTaken(impl.MaxBlocks, 0), 0, 0}, {oneTaken(impl.MaxBlocks, 0), 1, impl.MaxBlocks - 1},
		{make([]bool, impl.MaxBlocks+1), 0, 0}, {make([]bool, impl.MaxBlocks+1), impl.MaxBlocks, 0}, {make([]bool, 3*impl.MaxBlocks), 5, 0},
		{nil, 0, 0}, {nil, -1, 0}, {[]bool{}, 0, 0}, {[]bool{false}, 0, 1}, {[]bool{true}, 0, 0},
	} {
		if got := impl.FreeFrom(row.taken, row.i); got != row.want {
			t.Errorf("of %d blocks from %d on: %d, not %d", len(row.taken), row.i, got, row.want)
		}
	}
}

// spansOnBlocks are count trains of one block each, from block 0 on without a gap.
func spansOnBlocks(count int) []impl.Span {
	var trains []impl.Span
	for block := range count {
		trains = append(trains, span(block, block))
	}
	return trains
}

type trainsOn struct {
	n      int
	trains []impl.Span
}

func rightLines() []trainsOn {
	return []trainsOn{
		{1, nil}, {1, []impl.Span{}}, {impl.MaxBlocks, nil}, {1, []impl.Span{span(0, 0)}},
		{5, []impl.Span{span(0, 1), span(2, 2)}}, {5, []impl.Span{span(0, 1), span(3, 4)}}, {5, []impl.Span{span(0, 4)}}, {5, []impl.Span{span(4, 4)}},
		{impl.MaxBlocks, []impl.Span{span(0, impl.MaxBlocks-1)}}, {impl.MaxBlocks, []impl.Span{span(impl.MaxBlocks-1, impl.MaxBlocks-1)}},
		{impl.MaxTrains, spansOnBlocks(impl.MaxTrains)}, {impl.MaxBlocks, spansOnBlocks(impl.MaxTrains)},
	}
}

func wrongLines() []trainsOn {
	list := []trainsOn{
		{5, []impl.Span{span(2, 1)}}, {5, []impl.Span{span(-1, 1)}}, {5, []impl.Span{span(-1, -1)}}, {5, []impl.Span{span(0, 5)}}, {5, []impl.Span{span(5, 5)}},
		{5, []impl.Span{span(math.MinInt, math.MaxInt)}}, {5, []impl.Span{span(0, math.MaxInt)}}, {5, []impl.Span{span(math.MinInt, 0)}},
		{5, []impl.Span{span(math.MaxInt, math.MaxInt)}}, {5, []impl.Span{span(math.MaxInt, math.MinInt)}},
		{5, []impl.Span{span(0, math.MaxInt), span(math.MinInt, 0)}}, {5, []impl.Span{span(0, 0), span(1, math.MaxInt)}},
		{5, []impl.Span{span(0, 1), span(1, 2)}}, {5, []impl.Span{span(0, 1), span(1, 1)}}, {5, []impl.Span{span(2, 2), span(2, 2)}},
		{5, []impl.Span{span(3, 3), span(0, 1)}}, {5, []impl.Span{span(0, 4), span(2, 2)}}, {5, []impl.Span{span(0, 0), span(2, 1), span(3, 3)}},
		{5, []impl.Span{span(0, 0), span(3, 3), span(2, 4)}}, {5, []impl.Span{span(1, 2), span(3, 4), span(0, 0)}}, {5, []impl.Span{span(0, 0), span(4, 5)}},
		{impl.MaxBlocks, []impl.Span{span(0, impl.MaxBlocks)}}, {impl.MaxBlocks, spansOnBlocks(impl.MaxTrains + 1)},
		{impl.MaxTrains, spansOnBlocks(impl.MaxTrains + 1)}, {impl.MaxTrains - 1, spansOnBlocks(impl.MaxTrains)}, {impl.MaxBlocks, spansOnBlocks(impl.MaxBlocks)},
	}
	for _, n := range []int{math.MinInt, -1, 0, impl.MaxBlocks + 1, math.MaxInt} {
		list = append(list, trainsOn{n, nil}, trainsOn{n, []impl.Span{}}, trainsOn{n, []impl.Span{span(0, 0)}}, trainsOn{n, []impl.Span{span(0, 1), span(3, 3)}})
	}
	return list
}

// takenByWords answers nothing where a train is none or two are on one block or in the wrong order.
func takenByWords(n int, trains []impl.Span) []bool {
	if n < 1 || n > impl.MaxBlocks || len(trains) > impl.MaxTrains {
		return nil
	}
	taken := make([]bool, n)
	for i, s := range trains {
		if s.Rear < 0 || s.Front >= n || s.Rear > s.Front || i > 0 && s.Rear <= trains[i-1].Front {
			return nil
		}
		for block := s.Rear; block <= s.Front; block++ {
			taken[block] = true
		}
	}
	return taken
}

// manySpans gives every list of at most most trains with ends in low .. high to f.
func manySpans(most, low, high int, f func(trains []impl.Span)) {
	var grow func(trains []impl.Span)
	grow = func(trains []impl.Span) {
		f(slices.Clone(trains))
		if len(trains) == most {
			return
		}
		for rear := low; rear <= high; rear++ {
			for front := low; front <= high; front++ {
				grow(append(slices.Clone(trains), span(rear, front)))
			}
		}
	}
	grow(nil)
}

// rightSpans gives every list of trains that is right on n blocks to f.
func rightSpans(n int, f func(trains []impl.Span)) {
	var grow func(trains []impl.Span, free int)
	grow = func(trains []impl.Span, free int) {
		f(slices.Clone(trains))
		for rear := free; rear < n; rear++ {
			for front := rear; front < n; front++ {
				grow(append(slices.Clone(trains), span(rear, front)), front+1)
			}
		}
	}
	grow(nil, 0)
}

func checkTaken(t *testing.T, n int, trains []impl.Span) {
	t.Helper()
	want := takenByWords(n, trains)
	if impl.TrainsOk(n, trains) != (want != nil) {
		t.Errorf("TrainsOk(%d, %v) is not %v", n, trains, want != nil)
	}
	if got := impl.TakenBy(n, trains); !slices.Equal(got, want) {
		t.Errorf("TakenBy(%d, %v) is %v, not %v", n, trains, got, want)
	}
}

func TestTrainsOkAndTakenBy(t *testing.T) {
	for _, l := range rightLines() {
		checkTaken(t, l.n, l.trains)
		if !impl.TrainsOk(l.n, l.trains) || len(impl.TakenBy(l.n, l.trains)) != l.n {
			t.Errorf("%v is right", l)
		}
	}
	for _, l := range wrongLines() {
		checkTaken(t, l.n, l.trains)
		if impl.TrainsOk(l.n, l.trains) || len(impl.TakenBy(l.n, l.trains)) != 0 {
			t.Errorf("%v is wrong", l)
		}
	}
	for n := -1; n <= 3; n++ {
		manySpans(3, -1, 3, func(trains []impl.Span) { checkTaken(t, n, trains) })
	}
	for n := -1; n <= impl.MaxBlocks+2; n++ {
		checkTaken(t, n, nil)
		checkTaken(t, n, []impl.Span{span(0, n-1)})
		checkTaken(t, n, []impl.Span{span(0, n)})
		checkTaken(t, n, []impl.Span{span(n/2, n-1), span(0, n/2)})
	}
	if got := impl.TakenBy(6, []impl.Span{span(0, 1), span(3, 3), span(5, 5)}); !slices.Equal(got, []bool{true, true, false, true, false, true}) {
		t.Error("taken", got)
	}
}

func checkSpans(t *testing.T, what string, got, want []impl.Span) {
	t.Helper()
	if !slices.Equal(got, want) {
		t.Errorf("%s: %v, not %v", what, got, want)
	}
}

// forwardByWords looks at the blocks alone: the next one must be free, and behind the last one beyond counts.
func forwardByWords(n int, trains []impl.Span, k, beyond int) ([]impl.Span, bool) {
	next := trains[k].Front + 1
	if next == n {
		if beyond == impl.AspectRed {
			return nil, false
		}
		return slices.Concat(trains[:k], trains[k+1:]), true
	}
	if takenByWords(n, trains)[next] {
		return nil, false
	}
	end := slices.Clone(trains)
	end[k].Front = next
	return end, true
}

func shrinkByWords(trains []impl.Span, k int) ([]impl.Span, bool) {
	if trains[k].Rear == trains[k].Front {
		return nil, false
	}
	end := slices.Clone(trains)
	end[k] = span(end[k].Rear+1, end[k].Front)
	return end, true
}

func checkForward(t *testing.T, n int, trains []impl.Span, k, beyond int, want []impl.Span, wanted bool) {
	t.Helper()
	if got, ok := impl.Forward(n, trains, k, beyond); ok != wanted || !slices.Equal(got, want) {
		t.Errorf("Forward(%d, %v, %d, %d): %v %v, not %v %v", n, trains, k, beyond, got, ok, want, wanted)
	}
}

func checkShrink(t *testing.T, n int, trains []impl.Span, k int, want []impl.Span, wanted bool) {
	t.Helper()
	if got, ok := impl.Shrink(n, trains, k); ok != wanted || !slices.Equal(got, want) {
		t.Errorf("Shrink(%d, %v, %d): %v %v, not %v %v", n, trains, k, got, ok, want, wanted)
	}
}

func TestForward(t *testing.T) {
	two := []impl.Span{span(0, 1), span(3, 3)}
	checkForward(t, 5, two, 0, 0, []impl.Span{span(0, 2), span(3, 3)}, true)
	checkForward(t, 5, two, 1, 0, []impl.Span{span(0, 1), span(3, 4)}, true)
	checkForward(t, 4, two, 1, 0, nil, false)
	checkForward(t, 5, []impl.Span{span(0, 2), span(3, 3)}, 0, 3, nil, false)
	checkForward(t, 1, []impl.Span{span(0, 0)}, 0, 0, nil, false)
	for beyond := 1; beyond <= 3; beyond++ {
		checkForward(t, 4, two, 1, beyond, []impl.Span{span(0, 1)}, true)
		checkForward(t, 1, []impl.Span{span(0, 0)}, 0, beyond, nil, true)
		checkForward(t, 9, []impl.Span{span(0, 8)}, 0, beyond, nil, true)
		checkForward(t, impl.MaxTrains, spansOnBlocks(impl.MaxTrains), impl.MaxTrains-1, beyond, spansOnBlocks(impl.MaxTrains-1), true)
	}
	for n := 1; n <= 6; n++ {
		rightSpans(n, func(trains []impl.Span) {
			for k := range trains {
				for beyond := range 4 {
					want, wanted := forwardByWords(n, trains, k, beyond)
					checkForward(t, n, trains, k, beyond, want, wanted)
				}
			}
		})
	}
}

func TestForwardHangsOnTheSignalAhead(t *testing.T) {
	for n := 1; n <= 5; n++ {
		rightSpans(n, func(trains []impl.Span) {
			for beyond := range 4 {
				signals := append(impl.Aspects(impl.TakenBy(n, trains), beyond), beyond)
				for k, s := range trains {
					if _, ok := impl.Forward(n, trains, k, beyond); ok == (signals[s.Front+1] == impl.AspectRed) {
						t.Errorf("%d blocks, %v, train %d, beyond %d: %v", n, trains, k, beyond, ok)
					}
				}
			}
		})
	}
}

func TestShrink(t *testing.T) {
	checkShrink(t, 5, []impl.Span{span(0, 1), span(3, 4)}, 0, []impl.Span{span(1, 1), span(3, 4)}, true)
	checkShrink(t, 5, []impl.Span{span(0, 1), span(3, 4)}, 1, []impl.Span{span(0, 1), span(4, 4)}, true)
	checkShrink(t, 5, []impl.Span{span(0, 1), span(3, 3)}, 1, nil, false)
	checkShrink(t, 1, []impl.Span{span(0, 0)}, 0, nil, false)
	checkShrink(t, impl.MaxBlocks, []impl.Span{span(0, impl.MaxBlocks-1)}, 0, []impl.Span{span(1, impl.MaxBlocks-1)}, true)
	checkShrink(t, impl.MaxBlocks, []impl.Span{span(impl.MaxBlocks-1, impl.MaxBlocks-1)}, 0, nil, false)
	for n := 1; n <= 6; n++ {
		rightSpans(n, func(trains []impl.Span) {
			for k := range trains {
				want, wanted := shrinkByWords(trains, k)
				checkShrink(t, n, trains, k, want, wanted)
			}
		})
	}
}

func TestForwardAndShrinkOfWrongInputs(t *testing.T) {
	for _, l := range wrongLines() {
		for _, k := range append(wrongPlaces(len(l.trains)), numbers(0, len(l.trains))...) {
			for beyond := range 4 {
				checkForward(t, l.n, l.trains, k, beyond, nil, false)
			}
			checkShrink(t, l.n, l.trains, k, nil, false)
		}
	}
	for _, l := range rightLines() {
		for _, k := range wrongPlaces(len(l.trains)) {
			for _, beyond := range append(wrongAspects(), 0, 1, 2, 3) {
				checkForward(t, l.n, l.trains, k, beyond, nil, false)
			}
			checkShrink(t, l.n, l.trains, k, nil, false)
		}
		for k := range l.trains {
			for _, beyond := range wrongAspects() {
				checkForward(t, l.n, l.trains, k, beyond, nil, false)
			}
		}
	}
	for _, beyond := range wrongAspects() {
		checkForward(t, 5, []impl.Span{span(0, 0)}, 0, beyond, nil, false)
		checkForward(t, 5, []impl.Span{span(4, 4)}, 0, beyond, nil, false)
	}
}

// passedByWords looks at every number ahead of all else.
func passedByWords(aspects, speeds []int) int {
	if len(aspects) != len(speeds) || len(aspects) > impl.MaxBlocks {
		return -2
	}
	for _, x := range slices.Concat(aspects, speeds) {
		if x != 0 && x != 1 && x != 2 && x != 3 {
			return -2
		}
	}
	return slices.IndexFunc(numbers(0, len(speeds)-1), func(i int) bool { return speeds[i]-aspects[i] > 0 })
}

func checkPassed(t *testing.T, aspects, speeds []int, want int) {
	t.Helper()
	if got := impl.Passed(aspects, speeds); got != want {
		t.Errorf("Passed(%v, %v) is %d, not %d", aspects, speeds, got, want)
	}
}

func TestPassed(t *testing.T) {
	for a := -1; a <= 4; a++ {
		for s := -1; s <= 4; s++ {
			checkPassed(t, []int{a}, []int{s}, passedByWords([]int{a}, []int{s}))
			for b := -1; b <= 4; b++ {
				for u := -1; u <= 4; u++ {
					checkPassed(t, []int{a, b}, []int{s, u}, passedByWords([]int{a, b}, []int{s, u}))
				}
			}
		}
	}
	checkPassed(t, nil, nil, -1)
	checkPassed(t, []int{}, nil, -1)
	checkPassed(t, []int{0, 1, 2, 3}, []int{0, 1, 2, 3}, -1)
	checkPassed(t, []int{0, 1, 2, 3}, []int{0, 1, 3, 3}, 2)
	checkPassed(t, []int{0, 1, 2, 0}, []int{1, 2, 3, 3}, 0)
	checkPassed(t, []int{3, 3, 3, 0}, []int{0, 0, 0, 1}, 3)
	low, high := make([]int, impl.MaxBlocks), slices.Repeat([]int{3}, impl.MaxBlocks)
	checkPassed(t, low, low, -1)
	checkPassed(t, high, high, -1)
	checkPassed(t, high, low, -1)
	checkPassed(t, low, high, 0)
	last := slices.Clone(low)
	last[impl.MaxBlocks-1] = 1
	checkPassed(t, low, last, impl.MaxBlocks-1)
}

func TestPassedOfWrongInputs(t *testing.T) {
	one, many := make([]int, impl.MaxBlocks+1), make([]int, 4*impl.MaxBlocks)
	checkPassed(t, one, one, -2)
	checkPassed(t, many, many, -2)
	checkPassed(t, one, one[1:], -2)
	checkPassed(t, one[1:], one, -2)
	checkPassed(t, nil, []int{0}, -2)
	checkPassed(t, []int{0}, nil, -2)
	checkPassed(t, []int{3, 3}, []int{1}, -2)
	checkPassed(t, []int{0}, []int{1, 1}, -2)
	for _, x := range wrongAspects() {
		// A place that is passed stands ahead of the wrong number, and does not count.
		checkPassed(t, []int{x}, []int{1}, -2)
		checkPassed(t, []int{1}, []int{x}, -2)
		checkPassed(t, []int{0, x}, []int{1, 0}, -2)
		checkPassed(t, []int{0, 0}, []int{1, x}, -2)
		checkPassed(t, []int{x, 0}, []int{0, 1}, -2)
		checkPassed(t, []int{x, x}, []int{x, x}, -2)
	}
}

// driveByWords does move after move by the two functions that stand for them.
func driveByWords(n int, trains []impl.Span, moves []int, beyond int) ([]impl.Span, int) {
	refused := 0
	for _, m := range moves {
		end, ok := []impl.Span(nil), false
		if m >= 0 && m/2 < len(trains) {
			if m%2 == 0 {
				end, ok = forwardByWords(n, trains, m/2, beyond)
			} else {
				end, ok = shrinkByWords(trains, m/2)
			}
		}
		if ok {
			trains = end
		} else {
			refused++
		}
	}
	return trains, refused
}

func checkDrive(t *testing.T, n int, trains []impl.Span, moves []int, beyond int, want []impl.Span, wanted int) {
	t.Helper()
	if got, refused := impl.Drive(n, trains, moves, beyond); refused != wanted || !slices.Equal(got, want) {
		t.Errorf("Drive(%d, %v, %v, %d): %v %d, not %v %d", n, trains, moves, beyond, got, refused, want, wanted)
	}
}

func TestDrive(t *testing.T) {
	two := []impl.Span{span(0, 1), span(3, 3)}
	checkDrive(t, 5, two, nil, 0, two, 0)
	checkDrive(t, 5, two, []int{}, 3, two, 0)
	checkDrive(t, 5, nil, nil, 3, nil, 0)
	checkDrive(t, 5, nil, []int{0, 1}, 3, nil, 2)
	checkDrive(t, 5, two, []int{0}, 0, []impl.Span{span(0, 2), span(3, 3)}, 0)
	checkDrive(t, 5, two, []int{1}, 0, []impl.Span{span(1, 1), span(3, 3)}, 0)
	checkDrive(t, 5, two, []int{2}, 0, []impl.Span{span(0, 1), span(3, 4)}, 0)
	checkDrive(t, 5, two, []int{3}, 0, two, 1)
	checkDrive(t, 5, two, []int{0, 0}, 3, []impl.Span{span(0, 2), span(3, 3)}, 1)
	checkDrive(t, 5, two, []int{2, 3, 0, 0, 1}, 0, []impl.Span{span(1, 3), span(4, 4)}, 0)
	// Half of -1 is 0 by division: the train at place 0 does not move.
	checkDrive(t, 5, two, []int{-1, -2, -3, -4, math.MinInt, math.MinInt + 1}, 3, two, 6)
	checkDrive(t, 5, two, []int{4, 5, math.MaxInt, math.MaxInt - 1}, 3, two, 4)
}

func TestDrivePastTheEnd(t *testing.T) {
	two := []impl.Span{span(0, 1), span(3, 3)}
	// At a red signal beyond it stays; at any other it is gone, and its further moves are refused.
	checkDrive(t, 5, two, []int{2, 2, 2}, 0, []impl.Span{span(0, 1), span(3, 4)}, 2)
	for beyond := 1; beyond <= 3; beyond++ {
		checkDrive(t, 5, two, []int{2, 2}, beyond, []impl.Span{span(0, 1)}, 0)
		checkDrive(t, 5, two, []int{2, 2, 2, 3, 2}, beyond, []impl.Span{span(0, 1)}, 3)
		checkDrive(t, 5, two, []int{2, 2, 0, 0, 0}, beyond, []impl.Span{span(0, 4)}, 0)
		checkDrive(t, 5, two, []int{2, 2, 0, 0, 0, 0, 0, 1}, beyond, nil, 2)
		checkDrive(t, 3, spansOnBlocks(3), []int{0, 2, 4, 2, 2, 0}, beyond, []impl.Span{span(0, 1)}, 2)
	}
}

func TestDriveManyMoves(t *testing.T) {
	single := []impl.Span{span(0, 0)}
	ahead := slices.Repeat([]int{0}, impl.MaxMoves)
	checkDrive(t, impl.MaxBlocks, single, ahead, 0, []impl.Span{span(0, impl.MaxBlocks-1)}, impl.MaxMoves-impl.MaxBlocks+1)
	checkDrive(t, impl.MaxBlocks, single, ahead, 1, nil, impl.MaxMoves-impl.MaxBlocks)
	checkDrive(t, impl.MaxBlocks, single, slices.Repeat([]int{-1}, impl.MaxMoves), 1, single, impl.MaxMoves)
	caterpillar := slices.Repeat([]int{0, 1}, impl.MaxMoves/2)
	checkDrive(t, impl.MaxBlocks, single, caterpillar[:2*(impl.MaxBlocks-1)], 3, []impl.Span{span(impl.MaxBlocks-1, impl.MaxBlocks-1)}, 0)
	checkDrive(t, impl.MaxBlocks, single, caterpillar, 3, nil, impl.MaxMoves-2*impl.MaxBlocks+1)
	for beyond := range 4 {
		checkDrive(t, impl.MaxBlocks, single, append(ahead, 0), beyond, nil, -1)
		checkDrive(t, impl.MaxBlocks, nil, append(ahead, -1), beyond, nil, -1)
		checkDrive(t, impl.MaxBlocks, single, slices.Repeat([]int{0}, 3*impl.MaxMoves), beyond, nil, -1)
	}
	// The last one in the list leaves first, so that the next one finds its signals free.
	var leave []int
	for k := impl.MaxTrains - 1; k >= 0; k-- {
		leave = append(leave, slices.Repeat([]int{2 * k}, impl.MaxTrains-k)...)
	}
	checkDrive(t, impl.MaxTrains, spansOnBlocks(impl.MaxTrains), leave, 2, nil, 0)
	checkDrive(t, impl.MaxTrains, spansOnBlocks(impl.MaxTrains), leave, 0, spansOnBlocks(impl.MaxTrains), len(leave))
}

func TestDriveOfWrongInputs(t *testing.T) {
	for _, l := range wrongLines() {
		for _, moves := range [][]int{nil, {}, {0}, {-1}, {1, 0}, make([]int, impl.MaxMoves+1)} {
			for _, beyond := range append(wrongAspects(), 0, 3) {
				checkDrive(t, l.n, l.trains, moves, beyond, nil, -1)
			}
		}
	}
	for _, l := range rightLines() {
		for _, beyond := range wrongAspects() {
			checkDrive(t, l.n, l.trains, nil, beyond, nil, -1)
			checkDrive(t, l.n, l.trains, []int{0, 1, -1}, beyond, nil, -1)
		}
	}
}

// someSpans are right trains on n blocks, the more of them the longer the line.
func someSpans(d *dice, n int) []impl.Span {
	var trains []impl.Span
	for free := d.below(3); free < n && len(trains) < impl.MaxTrains; {
		front := min(free+d.below(3), n-1)
		trains = append(trains, span(free, front))
		free = front + 1 + d.below(4)
	}
	return trains
}

func someMoves(d *dice, trains int) []int {
	moves := make([]int, d.below(impl.MaxMoves+1))
	for i := range moves {
		moves[i] = d.below(2*trains+3) - 1
	}
	return moves
}

// manyDrives gives thrown trains and moves, and each aspect beyond, to f.
func manyDrives(state uint64, count int, f func(n int, trains []impl.Span, moves []int, beyond int)) {
	d := &dice{state: state}
	for i := range count {
		n := 1 + d.below([]int{4, 12, 40, impl.MaxBlocks}[i%4])
		trains := someSpans(d, n)
		f(n, trains, someMoves(d, len(trains)), d.below(4))
	}
}

func TestDriveMoveByMove(t *testing.T) {
	manyDrives(52, 3000, func(n int, trains []impl.Span, moves []int, beyond int) {
		want, wanted := driveByWords(n, trains, moves, beyond)
		checkDrive(t, n, trains, moves, beyond, want, wanted)
	})
	// On a short line every list of moves.
	for set := range 6 * 6 * 6 * 6 {
		moves := []int{set%6 - 1, set/6%6 - 1, set/36%6 - 1, set/216%6 - 1}
		for beyond := range 4 {
			trains := []impl.Span{span(0, 0), span(2, 2)}
			want, wanted := driveByWords(4, trains, moves, beyond)
			checkDrive(t, 4, trains, moves, beyond, want, wanted)
		}
	}
}

// checkMove holds one move against promise 7: trains is what stood there, end what stands there behind it.
func checkMove(t *testing.T, n int, trains, end []impl.Span, beyond int) {
	t.Helper()
	owners := make([]int, n)
	for _, s := range end {
		if s.Rear < 0 || s.Front >= n || s.Rear > s.Front {
			t.Fatalf("%v is no train on %d blocks", s, n)
		}
		for block := s.Rear; block <= s.Front; block++ {
			owners[block]++
		}
	}
	if slices.ContainsFunc(owners, func(count int) bool { return count > 1 }) {
		t.Fatalf("two trains on one block: %v", end)
	}
	if len(end) < len(trains) {
		if beyond == impl.AspectRed || len(end) != len(trains)-1 || trains[len(end)].Front != n-1 {
			t.Fatalf("%v to %v, beyond %d: a train is gone", trains, end, beyond)
		}
		checkSpans(t, "the others stay", end, trains[:len(end)])
		return
	}
	signals := impl.Aspects(impl.TakenBy(n, trains), beyond)
	for k, s := range end {
		by := s.Front - trains[k].Front
		if by < 0 || by > 1 || s.Rear-trains[k].Rear < 0 || s.Rear-trains[k].Rear+by > 1 {
			t.Fatalf("%v to %v is more than one move", trains, end)
		}
		if by == 1 && signals[s.Front] == impl.AspectRed {
			t.Fatalf("%v to %v: train %d has passed a red signal", trains, end, k)
		}
	}
}

// TestPromise7 drives on by one move more each time: no two trains are on one block, nobody passes a red signal.
func TestPromise7(t *testing.T) {
	manyDrives(53, 150, func(n int, trains []impl.Span, moves []int, beyond int) {
		before, refusedBefore := trains, 0
		for i := range moves {
			end, refused := impl.Drive(n, trains, moves[:i+1], beyond)
			if !impl.TrainsOk(n, end) {
				t.Fatalf("Drive(%d, %v, %v, %d) leaves %v", n, trains, moves[:i+1], beyond, end)
			}
			checkMove(t, n, before, end, beyond)
			if same := slices.Equal(before, end); refused-refusedBefore > 1 || same != (refused == refusedBefore+1) {
				t.Fatalf("move %d of %v: %v to %v, %d refused and then %d", i, moves, before, end, refusedBefore, refused)
			}
			before, refusedBefore = end, refused
		}
	})
}

func TestDriveGoesOnFromItsFirstPart(t *testing.T) {
	d := &dice{state: 54}
	manyDrives(55, 500, func(n int, trains []impl.Span, moves []int, beyond int) {
		cut := d.below(len(moves) + 1)
		whole, refused := impl.Drive(n, trains, moves, beyond)
		part, first := impl.Drive(n, trains, moves[:cut], beyond)
		rest, second := impl.Drive(n, part, moves[cut:], beyond)
		checkSpans(t, "in two parts", rest, whole)
		if refused != first+second {
			t.Errorf("refused: %d, in two parts %d and %d", refused, first, second)
		}
	})
}

func TestSignalsLeaveTheirArguments(t *testing.T) {
	taken, takenWas := []bool{false, true, false}, []bool{false, true, false}
	impl.Aspects(taken, 3)
	impl.FreeFrom(taken, 0)
	if !slices.Equal(taken, takenWas) {
		t.Error("the blocks were changed")
	}
	// Room behind the list: what is removed or put there would be seen.
	room := []impl.Span{span(0, 1), span(3, 4), span(7, 7)}
	trains, was := room[:2], slices.Clone(room)
	moves, movesWas := []int{2, 1, 0, 2, 3}, []int{2, 1, 0, 2, 3}
	var answers [][]impl.Span
	for beyond := range 4 {
		for k := range trains {
			end, _ := impl.Forward(5, trains, k, beyond)
			drawn, _ := impl.Shrink(5, trains, k)
			answers = append(answers, end, drawn)
		}
		end, _ := impl.Drive(5, trains, moves, beyond)
		still, _ := impl.Drive(5, trains, nil, beyond)
		refused, _ := impl.Drive(5, trains, []int{-1}, beyond)
		answers = append(answers, end, still, refused)
	}
	impl.TakenBy(5, trains)
	for _, answer := range answers {
		for i := range answer {
			answer[i] = span(-9, -9)
		}
		_ = append(answer, span(-9, -9))
	}
	checkSpans(t, "the trains were changed", room, was)
	checkInts(t, "the moves were changed", moves, movesWas)
	aspects, speeds := []int{3, 2, 1}, []int{0, 2, 2}
	impl.Passed(aspects, speeds)
	checkInts(t, "the aspects were changed", aspects, []int{3, 2, 1})
	checkInts(t, "the speeds were changed", speeds, []int{0, 2, 2})
}

func TestSignalsNeverPanic(t *testing.T) {
	extremes := []int{math.MinInt, -1, 0, 1, 2, impl.MaxBlocks, impl.MaxBlocks + 1, math.MaxInt - 1, math.MaxInt}
	bad := panicsIn(func() {
		for _, x := range extremes {
			impl.Aspects(nil, x)
			impl.Aspects(make([]bool, 2), x)
			impl.FreeFrom(nil, x)
			impl.Passed([]int{x}, []int{x})
			for _, y := range extremes {
				for _, trains := range [][]impl.Span{nil, {span(0, 0)}, {span(x, y)}, {span(0, x), span(y, 3)}, make([]impl.Span, impl.MaxTrains+1)} {
					impl.TrainsOk(y, trains)
					impl.TakenBy(y, trains)
					impl.Shrink(y, trains, x)
					for _, z := range extremes {
						impl.Forward(y, trains, x, z)
						impl.Drive(y, trains, []int{x, y, z}, z)
					}
				}
			}
		}
	})
	if bad {
		t.Error("a panic")
	}
}
