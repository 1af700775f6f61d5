package tests

import (
	"math"
	"math/big"
	"slices"
	"testing"

	"loop.example/g00075/impl"
)

func rightMotors() []impl.Motor {
	return []impl.Motor{
		{Up: 1, Down: 1, Top: 1},
		{Up: 1, Down: 1, Top: 90},
		{Up: 1, Down: 400, Top: 90},
		{Up: 200, Down: 1, Top: 90},
		{Up: 200, Down: 400, Top: 1},
		{Up: 200, Down: 400, Top: 90},
		{Up: 7, Down: 3, Top: 20},
	}
}

func wrongMotors() []impl.Motor {
	list := []impl.Motor{{}}
	for _, x := range []int{math.MinInt, -1, 0, math.MaxInt} {
		list = append(list, impl.Motor{Up: x, Down: 1, Top: 1}, impl.Motor{Up: 1, Down: x, Top: 1}, impl.Motor{Up: 1, Down: 1, Top: x})
	}
	return append(list, impl.Motor{Up: 201, Down: 1, Top: 1}, impl.Motor{Up: 1, Down: 401, Top: 1}, impl.Motor{Up: 1, Down: 1, Top: 91})
}

func rightCourses() [][]int {
	return [][]int{
		{1}, {90}, {1, 1}, {90, 90}, {1, 90}, {90, 1},
		{90, 90, 1, 90, 90}, {1, 90, 90, 90, 90}, {90, 90, 90, 90, 1},
		slices.Repeat([]int{90}, impl.MaxCells),
		slices.Repeat([]int{1}, impl.MaxCells),
		slices.Concat(slices.Repeat([]int{90}, impl.MaxCells/2), []int{1}, slices.Repeat([]int{90}, impl.MaxCells/2-1)),
	}
}

func wrongCourses() [][]int {
	return [][]int{
		nil, {}, {0}, {91}, {-1}, {math.MinInt}, {math.MaxInt},
		{5, 5, 0}, {0, 5, 5}, {5, 91, 5}, {5, -5, 5}, {91, 90}, {90, 91},
		slices.Repeat([]int{90}, impl.MaxCells+1),
		slices.Repeat([]int{1}, 3*impl.MaxCells),
	}
}

func someMotor(d *dice) impl.Motor {
	if d.below(3) == 0 {
		return impl.Motor{Up: 1 + d.below(9), Down: 1 + d.below(9), Top: 1 + d.below(9)}
	}
	return impl.Motor{Up: 1 + d.below(200), Down: 1 + d.below(400), Top: 1 + d.below(90)}
}

func someCourse(d *dice, cells, highest int) []int {
	var course []int
	for range cells {
		course = append(course, 1+d.below(highest))
	}
	return course
}

// manyRides gives each right motor on each right course, and thrown ones, to f.
func manyRides(state uint64, f func(m impl.Motor, course []int)) {
	for _, m := range rightMotors() {
		for _, course := range rightCourses() {
			f(m, course)
		}
	}
	d := &dice{state: state}
	for i := range 400 {
		f(someMotor(d), someCourse(d, 1+d.below([]int{4, 12, 60}[i%3]), []int{90, 20, 4}[d.below(3)]))
	}
	for range 10 {
		f(someMotor(d), someCourse(d, impl.MaxCells-d.below(2), 90))
	}
}

// capOf is the square that a border may have without regard to its neighbours.
func capOf(m impl.Motor, course []int, border int) int {
	if border == 0 || border == len(course) {
		return 0
	}
	limit := min(m.Top, course[border-1], course[border])
	return limit * limit
}

// squaresByWords holds every border against the caps of all the borders: from each of them the square
// may have grown by Up a cell, and must yet fall to it by Down a cell.
func squaresByWords(m impl.Motor, course []int) []int {
	var list []int
	for b := range len(course) + 1 {
		best := math.MaxInt
		for other := range len(course) + 1 {
			far := (b - other) * m.Up
			if other > b {
				far = (other - b) * m.Down
			}
			best = min(best, capOf(m, course, other)+far)
		}
		list = append(list, best)
	}
	return list
}

// breaksARule says whether squares are not such as a motor may drive on a course.
func breaksARule(m impl.Motor, course, squares []int) bool {
	if len(squares) != len(course)+1 || squares[0] != 0 || squares[len(course)] != 0 {
		return true
	}
	for b, s := range squares {
		if s < 0 || s > capOf(m, course, b) {
			return true
		}
		if b > 0 && s > squares[b-1]+m.Up {
			return true
		}
		if b < len(course) && s > squares[b+1]+m.Down {
			return true
		}
	}
	return false
}

// cellByWords finds the roots by trying: for squares in 0 .. 8100 only.
func cellByWords(a, b int) int {
	u := 0
	for _, square := range []int{a, b} {
		root := 0
		for (root+1)*(root+1) <= 100*square {
			root++
		}
		u += root
	}
	u = max(u, 20)
	whole := 10000 / u
	if whole*u < 10000 {
		whole++
	}
	return whole
}

func timesByWords(m impl.Motor, course []int) []int {
	squares := squaresByWords(m, course)
	times := []int{0}
	for cell := range course {
		times = append(times, times[cell]+cellByWords(squares[cell], squares[cell+1]))
	}
	return times
}

func TestMotorOk(t *testing.T) {
	for _, m := range rightMotors() {
		if !impl.MotorOk(m) {
			t.Errorf("%v is right", m)
		}
	}
	for _, m := range wrongMotors() {
		if impl.MotorOk(m) {
			t.Errorf("%v is wrong", m)
		}
	}
}

func checkNoRun(t *testing.T, m impl.Motor, course []int) {
	t.Helper()
	bad := panicsIn(func() {
		if s, p := impl.Squares(m, course), impl.Passing(m, course); len(s) != 0 || len(p) != 0 {
			t.Errorf("%v, %v: Squares and Passing are %v and %v", m, course, s, p)
		}
		if r := impl.RunTime(m, course); r != -1 {
			t.Errorf("%v, %v: RunTime is %d", m, course, r)
		}
		for _, x := range []int{math.MinInt, -1, 0, 1, 2, len(course) - 1, len(course), 1000, impl.MaxTenths, math.MaxInt} {
			if w, e := impl.WithStop(m, course, x), impl.Ease(m, course, x); w != -1 || e != 0 {
				t.Errorf("%v, %v, %d: WithStop and Ease are %d and %d", m, course, x, w, e)
			}
		}
	})
	if bad {
		t.Errorf("%v, %v: panics", m, course)
	}
}

func TestWrongMotorsAndCoursesGetTheFixedAnswers(t *testing.T) {
	for _, m := range wrongMotors() {
		for _, course := range slices.Concat(rightCourses(), wrongCourses()) {
			checkNoRun(t, m, course)
		}
	}
	for _, m := range rightMotors() {
		for _, course := range wrongCourses() {
			checkNoRun(t, m, course)
		}
	}
}

func TestSquaresByHand(t *testing.T) {
	m := impl.Motor{Up: 100, Down: 200, Top: 30}
	for name, c := range map[string]struct {
		m      impl.Motor
		course []int
		want   []int
	}{
		"one cell":                   {m, []int{90}, []int{0, 0}},
		"two cells, by Up":           {m, []int{90, 90}, []int{0, 100, 0}},
		"two cells, by Down":         {impl.Motor{Up: 100, Down: 30, Top: 30}, []int{90, 90}, []int{0, 30, 0}},
		"two cells, by Top":          {impl.Motor{Up: 100, Down: 200, Top: 9}, []int{90, 90}, []int{0, 81, 0}},
		"two cells, by the first":    {m, []int{3, 90}, []int{0, 9, 0}},
		"two cells, by the last":     {m, []int{90, 3}, []int{0, 9, 0}},
		"grows and falls":            {m, []int{90, 90, 90, 90}, []int{0, 100, 200, 200, 0}},
		"low between high":           {m, []int{90, 90, 5, 90, 90}, []int{0, 100, 25, 25, 125, 0}},
		"low, and fallen to":         {m, []int{90, 90, 90, 1, 90, 90}, []int{0, 100, 200, 1, 1, 101, 0}},
		"fallen to ahead of time":    {impl.Motor{Up: 200, Down: 10, Top: 90}, []int{90, 90, 90, 2, 90}, []int{0, 24, 14, 4, 4, 0}},
		"low at the first":           {m, []int{2, 90, 90, 90}, []int{0, 4, 104, 200, 0}},
		"low at the last":            {m, []int{90, 90, 90, 2}, []int{0, 100, 200, 4, 0}},
		"low at both ends":           {m, []int{2, 90, 90, 3}, []int{0, 4, 104, 9, 0}},
		"two low cells, not alike":   {m, []int{90, 6, 5, 90}, []int{0, 36, 25, 25, 0}},
		"as slow as can be":          {impl.Motor{Up: 1, Down: 1, Top: 1}, []int{1, 1, 1, 1}, []int{0, 1, 1, 1, 0}},
		"a triangle":                 {impl.Motor{Up: 1, Down: 1, Top: 90}, []int{90, 90, 90, 90, 90}, []int{0, 1, 2, 2, 1, 0}},
		"the strongest, five cells":  {impl.Motor{Up: 200, Down: 400, Top: 90}, []int{90, 90, 90, 90, 90}, []int{0, 200, 400, 600, 400, 0}},
		"just what Up and Down give": {impl.Motor{Up: 16, Down: 16, Top: 4}, []int{4, 4, 90}, []int{0, 16, 16, 0}},
	} {
		if got := impl.Squares(c.m, c.course); !slices.Equal(got, c.want) {
			t.Errorf("%s: %v, wanted %v", name, got, c.want)
		}
	}
	long := impl.Squares(impl.Motor{Up: 200, Down: 400, Top: 90}, slices.Repeat([]int{90}, impl.MaxCells))
	if len(long) != impl.MaxCells+1 || long[40] != 8000 || long[41] != 8100 || long[179] != 8100 || long[180] != 8000 || long[199] != 400 {
		t.Error("the longest course", long)
	}
}

func TestTheSquaresBreakNoRuleAndAreTheGreatest(t *testing.T) {
	manyRides(30, func(m impl.Motor, course []int) {
		course0 := slices.Clone(course)
		got := impl.Squares(m, course)
		if breaksARule(m, course, got) {
			t.Fatalf("Squares(%v, %v) breaks a rule: %v", m, course, got)
		}
		if want := squaresByWords(m, course); !slices.Equal(got, want) {
			t.Fatalf("Squares(%v, %v) is %v, wanted %v", m, course, got, want)
		}
		// Greater at one border alone is against a rule, at every border.
		for b := range got {
			more := slices.Clone(got)
			more[b]++
			if !breaksARule(m, course, more) {
				t.Fatalf("Squares(%v, %v) could be greater at %d: %v", m, course, b, got)
			}
		}
		if !slices.Equal(course, course0) {
			t.Fatal("Squares wrote into the course")
		}
	})
}

// eachList calls f with every list of so many numbers in 0 .. most.
func eachList(length, most int, f func(list []int)) {
	list := make([]int, length)
	for {
		f(list)
		i := 0
		for i < length && list[i] == most {
			list[i] = 0
			i++
		}
		if i == length {
			return
		}
		list[i]++
	}
}

func TestSquaresAmongAllThatBreakNoRule(t *testing.T) {
	d := &dice{state: 31}
	for range 60 {
		m := impl.Motor{Up: 1 + d.below(4), Down: 1 + d.below(4), Top: 1 + d.below(3)}
		course := someCourse(d, 1+d.below(5), 3)
		best := make([]int, len(course)+1)
		eachList(len(course)-1, 9, func(inner []int) {
			squares := slices.Concat([]int{0}, inner, []int{0})
			if !breaksARule(m, course, squares) {
				for b := range best {
					best[b] = max(best[b], squares[b])
				}
			}
		})
		if got := impl.Squares(m, course); !slices.Equal(got, best) {
			t.Fatalf("Squares(%v, %v) is %v, wanted %v", m, course, got, best)
		}
	}
}

// isRoot holds r against x in numbers of any size.
func isRoot(r, x int) bool {
	square := func(y int) *big.Int { return new(big.Int).Mul(big.NewInt(int64(y)), big.NewInt(int64(y))) }
	return r >= 0 && square(r).Cmp(big.NewInt(int64(x))) <= 0 && square(r+1).Cmp(big.NewInt(int64(x))) > 0
}

func TestRoot(t *testing.T) {
	const greatest = 3037000499
	for x, want := range map[int]int{
		0: 0, 1: 1, 2: 1, 3: 1, 4: 2, 8: 2, 9: 3, 10: 3, 99: 9, 100: 10, 101: 10, 810000: 900, 809999: 899, 810001: 900,
		math.MaxInt: greatest, math.MaxInt - 1: greatest, greatest * greatest: greatest, greatest*greatest - 1: greatest - 1, greatest*greatest + 1: greatest,
		1 << 62: 1 << 31, 1<<62 - 1: 1<<31 - 1, 1<<62 + 1: 1 << 31,
		-1: 0, -4: 0, -100: 0, math.MinInt: 0, math.MinInt + 1: 0,
	} {
		if got := impl.Root(x); got != want {
			t.Errorf("Root(%d) is %d, wanted %d", x, got, want)
		}
	}
	for x := range 20000 {
		if r := impl.Root(x); !isRoot(r, x) {
			t.Fatalf("Root(%d) is %d", x, r)
		}
		if r := impl.Root(-x - 1); r != 0 {
			t.Fatalf("Root(%d) is %d", -x-1, r)
		}
	}
}

func TestRootsOfSquaresAndTheirNeighbours(t *testing.T) {
	d := &dice{state: 32}
	for i := range 20000 {
		r := 3037000499 - i
		if i%2 == 0 {
			r = 1 + (d.below(1<<31)+d.below(1<<31))>>(i%31)
			r = min(r, 3037000499)
		}
		if got := impl.Root(r * r); got != r {
			t.Fatalf("Root(%d) is %d", r*r, got)
		}
		if got := impl.Root(r*r - 1); got != r-1 {
			t.Fatalf("Root(%d) is %d", r*r-1, got)
		}
		if got := impl.Root(r*r + 1); got != r {
			t.Fatalf("Root(%d) is %d", r*r+1, got)
		}
		x := (d.below(1<<31)<<32 | d.below(1<<31)) >> (i % 62)
		if got := impl.Root(x); !isRoot(got, x) {
			t.Fatalf("Root(%d) is %d", x, got)
		}
	}
}

func TestCellTimeByHand(t *testing.T) {
	for ab, want := range map[[2]int]int{
		{0, 0}:       500, // u is 0
		{0, 1}:       500, // u is 10
		{1, 0}:       500,
		{1, 1}:       500, // u is 20
		{0, 3}:       500, // u is 17
		{0, 4}:       500, // u is 20
		{0, 5}:       455, // u is 22: 454.5
		{2, 1}:       417, // u is 14 and 10: 416.6
		{0, 100}:     100,
		{100, 100}:   50,
		{0, 8100}:    12, // u is 900: 11.1
		{8100, 0}:    12,
		{8100, 8100}: 6, // u is 1800: 5.5
		{2500, 2500}: 10,
		{2500, 2499}: 11, // u is 999: 10.01
		{2500, 2501}: 10, // u is 1000 still
	} {
		if got := impl.CellTime(ab[0], ab[1]); got != want {
			t.Errorf("CellTime%v is %d, wanted %d", ab, got, want)
		}
	}
}

func TestCellTimeOfSquaresThatAreNone(t *testing.T) {
	for _, x := range []int{math.MinInt, -8100, -1, 8101, 100000, math.MaxInt} {
		for _, y := range []int{x, 0, 100, 8100} {
			if a, b := impl.CellTime(x, y), impl.CellTime(y, x); a != -1 || b != -1 {
				t.Errorf("CellTime of %d and %d is %d and %d", x, y, a, b)
			}
		}
	}
}

func TestCellTimeByWords(t *testing.T) {
	for a := 0; a <= 8100; a += 1 + a/40 {
		for b := 0; b <= 8100; b += 1 + b/30 {
			if got, want := impl.CellTime(a, b), cellByWords(a, b); got != want {
				t.Fatalf("CellTime(%d, %d) is %d, wanted %d", a, b, got, want)
			}
		}
	}
	for a := range 8101 {
		if got, want := impl.CellTime(a, 8100-a), cellByWords(a, 8100-a); got != want {
			t.Fatalf("CellTime(%d, %d) is %d, wanted %d", a, 8100-a, got, want)
		}
	}
}

func TestTimesByWords(t *testing.T) {
	manyRides(33, func(m impl.Motor, course []int) {
		course0 := slices.Clone(course)
		want := timesByWords(m, course)
		if got := impl.Passing(m, course); !slices.Equal(got, want) {
			t.Fatalf("Passing(%v, %v) is %v, wanted %v", m, course, got, want)
		}
		if got := impl.RunTime(m, course); got != want[len(course)] {
			t.Fatalf("RunTime(%v, %v) is %d, wanted %d", m, course, got, want[len(course)])
		}
		for _, at := range slices.Concat(numbers(0, 30), numbers(len(course)-2, len(course)+1)) {
			stop := -1
			if at >= 1 && at < len(course) {
				first, last := timesByWords(m, course[:at]), timesByWords(m, course[at:])
				stop = first[at] + last[len(course)-at]
			}
			if got := impl.WithStop(m, course, at); got != stop {
				t.Fatalf("WithStop(%v, %v, %d) is %d, wanted %d", m, course, at, got, stop)
			}
		}
		if !slices.Equal(course, course0) {
			t.Fatal("the course was written into")
		}
	})
}

func TestTimesByHand(t *testing.T) {
	m := impl.Motor{Up: 100, Down: 200, Top: 20}
	if got := impl.Passing(m, []int{7}); !slices.Equal(got, []int{0, 500}) || impl.RunTime(m, []int{7}) != 500 {
		t.Error("one cell", got)
	}
	// Squares 0, 100, 200, 200, 0; roots 0, 100, 141, 141, 0.
	course := []int{30, 30, 15, 30}
	if got := impl.Passing(m, course); !slices.Equal(got, []int{0, 100, 142, 178, 249}) || impl.RunTime(m, course) != 249 {
		t.Error("four cells", got)
	}
	for at, want := range map[int]int{
		1: 500 + 100 + 42 + 71, // 0 0 | 0 100 200 0
		2: 200 + 200,           // 0 100 0 | 0 100 0
		3: 100 + 42 + 71 + 500, // 0 100 200 0 | 0 0
	} {
		if got := impl.WithStop(m, course, at); got != want {
			t.Errorf("a stop at %d: %d, wanted %d", at, got, want)
		}
	}
	if slow := slices.Repeat([]int{1}, impl.MaxCells); impl.RunTime(m, slow) != impl.MaxCells*500 {
		t.Error("the slowest", impl.RunTime(m, slow))
	}
}

func TestStopsAtBordersThatAreNone(t *testing.T) {
	m := impl.Motor{Up: 100, Down: 200, Top: 20}
	for _, course := range rightCourses() {
		for _, at := range []int{math.MinInt, -len(course), -1, 0, len(course), len(course) + 1, math.MaxInt} {
			if got := impl.WithStop(m, course, at); got != -1 {
				t.Errorf("WithStop(%v, %d) is %d", course, at, got)
			}
		}
		if len(course) > 1 && (impl.WithStop(m, course, 1) < 0 || impl.WithStop(m, course, len(course)-1) < 0) {
			t.Error("a stop at the first and at the last border that may be one", course)
		}
	}
}

// checkNotLater says that every border is passed by p no later than by q.
func checkNotLater(t *testing.T, p, q []int, why string, m impl.Motor, course []int) {
	t.Helper()
	for b := range q {
		if p[b] > q[b] {
			t.Fatalf("%s makes a train later: %v, %v: %v, not %v", why, m, course, p, q)
		}
	}
}

func TestStrongerIsNeverLaterAndAStopNeverEarlier(t *testing.T) {
	d := &dice{state: 34}
	earlier := 0
	manyRides(34, func(m impl.Motor, course []int) {
		plain := impl.Passing(m, course)
		for _, strong := range []impl.Motor{{Up: min(m.Up+1+d.below(30), 200), Down: m.Down, Top: m.Top}, {Up: m.Up, Down: min(m.Down+1+d.below(30), 400), Top: m.Top}, {Up: m.Up, Down: m.Down, Top: min(m.Top+1+d.below(9), 90)}} {
			p := impl.Passing(strong, course)
			checkNotLater(t, p, plain, "a stronger motor", m, course)
			if p[len(course)] < plain[len(course)] {
				earlier++
			}
		}
		for range 5 {
			high := slices.Clone(course)
			cell := d.below(len(high))
			high[cell] = min(high[cell]+1+d.below(20), 90)
			checkNotLater(t, impl.Passing(m, high), plain, "a higher limit", m, course)
		}
		for at := 1; at < len(course); at += 1 + at/20 {
			if impl.WithStop(m, course, at) < plain[len(course)] {
				t.Fatalf("a stop at %d makes a train earlier: %v, %v", at, m, course)
			}
		}
	})
	if earlier == 0 {
		t.Error("the throws must show stronger motors that are earlier")
	}
}

// easeByWords tries every top speed.
func easeByWords(m impl.Motor, course []int, tenths int) int {
	for top := 1; top <= m.Top; top++ {
		if timesByWords(impl.Motor{Up: m.Up, Down: m.Down, Top: top}, course)[len(course)] <= tenths {
			return top
		}
	}
	return 0
}

func TestEaseByWords(t *testing.T) {
	d := &dice{state: 35}
	for range 60 {
		m, course := someMotor(d), someCourse(d, 1+d.below(25), 90)
		shortest := impl.RunTime(m, course)
		slowest := impl.RunTime(impl.Motor{Up: m.Up, Down: m.Down, Top: 1}, course)
		for _, tenths := range []int{shortest, shortest + 1, slowest, slowest - 1, shortest + d.below(slowest-shortest+1), shortest + d.below(slowest-shortest+1)} {
			if got, want := impl.Ease(m, course, tenths), easeByWords(m, course, tenths); got != want {
				t.Fatalf("Ease(%v, %v, %d) is %d, wanted %d", m, course, tenths, got, want)
			}
		}
	}
}

func TestEaseAtItsEdges(t *testing.T) {
	manyRides(36, func(m impl.Motor, course []int) {
		shortest := impl.RunTime(m, course)
		top := impl.Ease(m, course, shortest)
		if top < 1 || top > m.Top || impl.RunTime(impl.Motor{Up: m.Up, Down: m.Down, Top: top}, course) != shortest {
			t.Fatalf("Ease(%v, %v) at the shortest time is %d", m, course, top)
		}
		if top > 1 && impl.RunTime(impl.Motor{Up: m.Up, Down: m.Down, Top: top - 1}, course) <= shortest {
			t.Fatalf("Ease(%v, %v) at the shortest time is %d, but less is enough", m, course, top)
		}
		for _, tenths := range []int{shortest - 1, 0, -1, math.MinInt, impl.MaxTenths + 1, math.MaxInt} {
			if got := impl.Ease(m, course, tenths); got != 0 {
				t.Fatalf("Ease(%v, %v, %d) is %d", m, course, tenths, got)
			}
		}
		if got := impl.Ease(m, course, impl.MaxTenths); got != 1 {
			t.Fatalf("Ease(%v, %v) at MaxTenths is %d", m, course, got)
		}
	})
}

func TestEaseByHand(t *testing.T) {
	m := impl.Motor{Up: 100, Down: 200, Top: 20}
	// Two cells with Top v in 2 .. 10: the border is v v, u is 10 v, and each cell takes 1000 by v, up. With Top 1
	// u is 10, taken as 20: as long as with Top 2.
	for tenths, want := range map[int]int{1000: 1, 999: 3, 1001: 1, 668: 3, 667: 4, 500: 4, 499: 5, 400: 5, 399: 6, 200: 10, 199: 0, 223: 10, 224: 9} {
		if got := impl.Ease(m, []int{30, 30}, tenths); got != want {
			t.Errorf("%d: %d, wanted %d", tenths, got, want)
		}
	}
	// The limits bind, so that a greater top speed is of no use.
	if got := impl.Ease(m, []int{5, 30}, 400); got != 5 {
		t.Error("by the limit", got)
	}
	if got := impl.Ease(m, []int{4, 30}, 499); got != 0 {
		t.Error("not with this limit", got)
	}
	// A motor of Top 4 may not be faster.
	if got := impl.Ease(impl.Motor{Up: 100, Down: 200, Top: 4}, []int{30, 30}, 499); got != 0 {
		t.Error("not with this motor", got)
	}
	if got := impl.Ease(impl.Motor{Up: 100, Down: 200, Top: 4}, []int{30, 30}, 500); got != 4 {
		t.Error("just with this motor", got)
	}
}

func TestSquaresAndTimesAreNewMemory(t *testing.T) {
	m := impl.Motor{Up: 100, Down: 200, Top: 20}
	course := slices.Grow([]int{30, 30, 15, 30}, 10)
	for _, f := range []func(impl.Motor, []int) []int{impl.Squares, impl.Passing} {
		want := slices.Clone(f(m, course))
		for got, i := f(m, course), 0; i < len(got); i++ {
			got[i] = -7
		}
		if !slices.Equal(course, []int{30, 30, 15, 30}) || !slices.Equal(f(m, course), want) {
			t.Error("an answer shares memory", course)
		}
	}
}
