package tests

import (
	"math"
	"slices"
	"testing"

	"loop.example/g00075/impl"
)

// The kinds of a LockOp.
const (
	kindRequest = iota
	kindOccupy
	kindVacate
	kindWithdraw
)

func lockCopy(l impl.Locking) impl.Locking {
	return impl.Locking{Pos: slices.Clone(l.Pos), Set: slices.Clone(l.Set), Taken: slices.Clone(l.Taken)}
}

func sameLocking(a, b impl.Locking) bool {
	return slices.Equal(a.Pos, b.Pos) && slices.Equal(a.Set, b.Set) && slices.Equal(a.Taken, b.Taken)
}

func plantCopy(p impl.Plant) impl.Plant {
	end := impl.Plant{Under: slices.Clone(p.Under), Blocks: p.Blocks}
	for _, r := range p.Routes {
		end.Routes = append(end.Routes, impl.Route{Needs: slices.Clone(r.Needs), Blocks: slices.Clone(r.Blocks)})
	}
	return end
}

func samePlant(a, b impl.Plant) bool {
	return a.Blocks == b.Blocks && slices.Equal(a.Under, b.Under) && slices.EqualFunc(a.Routes, b.Routes, func(x, y impl.Route) bool {
		return slices.Equal(x.Needs, y.Needs) && slices.Equal(x.Blocks, y.Blocks)
	})
}

func over(blocks ...int) impl.Route {
	return impl.Route{Blocks: blocks}
}

func need(point, pos int) impl.Need {
	return impl.Need{Point: point, Pos: pos}
}

// routeByWords holds a route against its sentence: what it has of each point and block is counted.
func routeByWords(p impl.Plant, r impl.Route) bool {
	points, blocks := map[int]int{}, map[int]int{}
	for i, n := range r.Needs {
		points[n.Point]++
		there := n.Point >= 0 && n.Point < len(p.Under)
		if !there || n.Pos != 0 && n.Pos != 1 || points[n.Point] > 1 || i > 0 && r.Needs[i-1].Point > n.Point {
			return false
		}
	}
	for _, b := range r.Blocks {
		blocks[b]++
		if b < 0 || b >= p.Blocks || blocks[b] > 1 {
			return false
		}
	}
	return len(r.Blocks) >= 1
}

func plantByWords(p impl.Plant) bool {
	if p.Blocks < 1 || p.Blocks > 24 || len(p.Under) > 16 || len(p.Routes) > 12 {
		return false
	}
	if slices.ContainsFunc(p.Under, func(b int) bool { return b < 0 || b >= p.Blocks }) {
		return false
	}
	return !slices.ContainsFunc(p.Routes, func(r impl.Route) bool { return !routeByWords(p, r) })
}

// clashByWords asks block by block and point by point of the whole plant.
func clashByWords(p impl.Plant, a, b int) bool {
	if !plantByWords(p) || a < 0 || b < 0 || a >= len(p.Routes) || b >= len(p.Routes) || a == b {
		return false
	}
	one, two := p.Routes[a], p.Routes[b]
	for block := range p.Blocks {
		if slices.Contains(one.Blocks, block) && slices.Contains(two.Blocks, block) {
			return true
		}
	}
	for point := range p.Under {
		for pos := range 2 {
			if slices.Contains(one.Needs, need(point, pos)) && slices.Contains(two.Needs, need(point, 1-pos)) {
				return true
			}
		}
	}
	return false
}

func lockingByWords(p impl.Plant, l impl.Locking) bool {
	if !plantByWords(p) || len(l.Pos) != len(p.Under) || len(l.Set) != len(p.Routes) || len(l.Taken) != p.Blocks {
		return false
	}
	for _, pos := range l.Pos {
		if pos != 0 && pos != 1 {
			return false
		}
	}
	for a := range p.Routes {
		for b := range p.Routes {
			if l.Set[a] && l.Set[b] && clashByWords(p, a, b) {
				return false
			}
		}
		for _, n := range p.Routes[a].Needs {
			if l.Set[a] && l.Pos[n.Point] != n.Pos {
				return false
			}
		}
	}
	return true
}

// reasonsByWords are the codes against an op, each by itself, in the order of the chapter; the locking is right.
func reasonsByWords(p impl.Plant, l impl.Locking, kind, what int) []int {
	var codes []int
	say := func(applies bool, code int) {
		if applies && !slices.Contains(codes, code) {
			codes = append(codes, code)
		}
	}
	heldBlock := func(b int) bool { return l.Taken[b] }
	switch kind {
	case kindRequest:
		say(l.Set[what], impl.LockSet)
		for other := range p.Routes {
			say(l.Set[other] && clashByWords(p, what, other), impl.LockClash)
		}
		say(slices.ContainsFunc(p.Routes[what].Blocks, heldBlock), impl.LockTaken)
		for _, n := range p.Routes[what].Needs {
			say(l.Pos[n.Point] == 1-n.Pos && l.Taken[p.Under[n.Point]], impl.LockStuck)
		}
	case kindOccupy:
		say(l.Taken[what], impl.LockTaken)
		ways := 0
		for r, set := range l.Set {
			if set && slices.Contains(p.Routes[r].Blocks, what) {
				ways++
			}
		}
		say(ways == 0, impl.LockNone)
	case kindVacate:
		say(!l.Taken[what], impl.LockNone)
	case kindWithdraw:
		say(!l.Set[what], impl.LockNone)
		say(slices.ContainsFunc(p.Routes[what].Blocks, heldBlock), impl.LockTaken)
	}
	return codes
}

func opByWords(p impl.Plant, l impl.Locking, kind, what int) (impl.Locking, int) {
	end := lockCopy(l)
	if !lockingByWords(p, l) || kind < kindRequest || kind > kindWithdraw || what < 0 {
		return end, impl.LockBad
	}
	count := len(p.Routes)
	if kind == kindOccupy || kind == kindVacate {
		count = p.Blocks
	}
	if what >= count {
		return end, impl.LockBad
	}
	if codes := reasonsByWords(p, l, kind, what); len(codes) > 0 {
		return end, codes[0]
	}
	switch kind {
	case kindRequest:
		end.Set[what] = true
		for _, n := range p.Routes[what].Needs {
			end.Pos[n.Point] = n.Pos
		}
	case kindWithdraw:
		end.Set[what] = false
	default:
		end.Taken[what] = kind == kindOccupy
	}
	return end, impl.LockDone
}

// doLock calls the function that the kind stands for.
func doLock(p impl.Plant, l impl.Locking, kind, what int) (impl.Locking, int) {
	return []func(impl.Plant, impl.Locking, int) (impl.Locking, int){impl.Request, impl.Occupy, impl.Vacate, impl.Withdraw}[kind](p, l, what)
}

// checkOp holds one op against the words, and the plant and the locking that come in against what they were.
func checkOp(t *testing.T, p impl.Plant, l impl.Locking, kind, what int) (impl.Locking, int) {
	t.Helper()
	want, wanted := opByWords(p, l, kind, what)
	was, plantWas := lockCopy(l), plantCopy(p)
	got, code := doLock(p, l, kind, what)
	if code != wanted || !sameLocking(got, want) {
		t.Errorf("%v at %v, kind %d of %d: %v %d, not %v %d", p, l, kind, what, got, code, want, wanted)
	}
	if !sameLocking(l, was) || !samePlant(p, plantWas) {
		t.Errorf("kind %d of %d has changed what came in: %v %v, it was %v %v", kind, what, p, l, plantWas, was)
	}
	return got, code
}

func checkCode(t *testing.T, what string, p impl.Plant, l impl.Locking, kind, of, want int) impl.Locking {
	t.Helper()
	end, code := checkOp(t, p, l, kind, of)
	if code != want {
		t.Errorf("%s: %d, not %d", what, code, want)
	}
	if code != impl.LockDone && !sameLocking(end, l) {
		t.Errorf("%s: refused, and yet %v has become %v", what, l, end)
	}
	return end
}

func TestLockConstants(t *testing.T) {
	if impl.MaxPoints != 16 || impl.MaxPlantBlocks != 24 || impl.MaxRoutes != 12 || impl.MaxOps != 300 {
		t.Error("the limits")
	}
	codes := []int{impl.LockDone, impl.LockBad, impl.LockSet, impl.LockClash, impl.LockTaken, impl.LockStuck, impl.LockNone}
	checkInts(t, "the codes", codes, []int{0, 1, 2, 3, 4, 5, 6})
}

// rightPlants meet every limit, some of them exactly.
func rightPlants() []impl.Plant {
	var every []impl.Need
	for point := range impl.MaxPoints {
		every = append(every, need(point, point%2))
	}
	full := impl.Route{Needs: every, Blocks: numbers(0, impl.MaxPlantBlocks-1)}
	back := over(slices.Sorted(slices.Values(full.Blocks))...)
	slices.Reverse(back.Blocks)
	return []impl.Plant{
		{Blocks: 1}, {Under: []int{}, Blocks: 1, Routes: []impl.Route{}}, {Blocks: impl.MaxPlantBlocks}, {Blocks: 1, Routes: []impl.Route{over(0)}},
		{Under: []int{0}, Blocks: 1, Routes: []impl.Route{over(0), over(0)}},
		{Under: make([]int, impl.MaxPoints), Blocks: 1}, {Blocks: 1, Routes: slices.Repeat([]impl.Route{over(0)}, impl.MaxRoutes)},
		{Under: slices.Repeat([]int{impl.MaxPlantBlocks - 1}, impl.MaxPoints), Blocks: impl.MaxPlantBlocks, Routes: slices.Repeat([]impl.Route{full}, impl.MaxRoutes)},
		{Under: numbers(4, impl.MaxPoints+3), Blocks: impl.MaxPlantBlocks, Routes: []impl.Route{back, full, over(23), over(0)}},
		{Under: []int{1, 1}, Blocks: 2, Routes: []impl.Route{{Needs: []impl.Need{need(0, 0), need(1, 1)}, Blocks: []int{1, 0}}, {Needs: []impl.Need{need(1, 0)}, Blocks: []int{0}}}},
		crossing(), sidings(),
	}
}

func wrongPlants() []impl.Plant {
	routed := func(routes ...impl.Route) impl.Plant {
		return impl.Plant{Under: []int{0, 1, 2}, Blocks: 3, Routes: routes}
	}
	needing := func(needs ...impl.Need) impl.Plant {
		return routed(over(0), impl.Route{Needs: needs, Blocks: []int{1}})
	}
	list := []impl.Plant{
		{}, routed(over()), routed(impl.Route{Blocks: []int{}}), routed(over(0), over(), over(1)), routed(impl.Route{Needs: []impl.Need{need(0, 0)}}),
		routed(over(1, 1)), routed(over(0, 1, 2, 0)), routed(over(2, 1, 2)), routed(over(3)), routed(over(-1)), routed(over(0, 3)), routed(over(0, 1), over(-1, 0)),
		routed(over(math.MaxInt)), routed(over(math.MinInt)), routed(over(slices.Repeat([]int{1}, 1000)...)), routed(over(numbers(0, 3)...)),
		needing(need(0, 0), need(0, 0)), needing(need(0, 0), need(0, 1)), needing(need(1, 1), need(0, 0)), needing(need(0, 0), need(2, 0), need(1, 0)),
		needing(need(0, 0), need(1, 0), need(0, 0)), needing(need(3, 0)), needing(need(-1, 0)), needing(need(0, 0), need(3, 1)), needing(need(-1, 0), need(0, 0)),
		needing(need(math.MaxInt, 0)), needing(need(math.MinInt, 0)), needing(slices.Repeat([]impl.Need{need(1, 0)}, 1000)...),
		{Under: make([]int, impl.MaxPoints+1), Blocks: 1}, {Under: make([]int, 9*impl.MaxPoints), Blocks: 1},
		{Blocks: 1, Routes: slices.Repeat([]impl.Route{over(0)}, impl.MaxRoutes+1)}, {Blocks: 1, Routes: slices.Repeat([]impl.Route{over(0)}, 9*impl.MaxRoutes)},
		{Blocks: impl.MaxPlantBlocks + 1, Routes: []impl.Route{over(0)}}, {Blocks: impl.MaxPlantBlocks + 1, Routes: []impl.Route{over(impl.MaxPlantBlocks)}},
		{Blocks: 1, Routes: []impl.Route{{Needs: []impl.Need{need(0, 0)}, Blocks: []int{0}}}},
	}
	for _, blocks := range []int{math.MinInt, -1, 0, impl.MaxPlantBlocks + 1, math.MaxInt} {
		list = append(list, impl.Plant{Blocks: blocks}, impl.Plant{Under: []int{0}, Blocks: blocks}, impl.Plant{Blocks: blocks, Routes: []impl.Route{over(0)}})
	}
	for _, pos := range []int{math.MinInt, -1, 2, 3, math.MaxInt} {
		list = append(list, needing(need(0, pos)), needing(need(0, 0), need(1, 1), need(2, pos)))
	}
	for _, under := range []int{math.MinInt, -1, 3, 4, math.MaxInt} {
		list = append(list, impl.Plant{Under: []int{under}, Blocks: 3}, impl.Plant{Under: []int{0, 2, under}, Blocks: 3, Routes: []impl.Route{over(0)}})
	}
	return list
}

// crossing has a point in block 1 and routes that clash by a block, by the point, and not at all.
func crossing() impl.Plant {
	return impl.Plant{Under: []int{1, 3}, Blocks: 6, Routes: []impl.Route{
		{Needs: []impl.Need{need(0, 0)}, Blocks: []int{1, 2}},
		{Needs: []impl.Need{need(0, 1)}, Blocks: []int{3}},
		{Needs: []impl.Need{need(0, 1), need(1, 1)}, Blocks: []int{4}},
		{Blocks: []int{5, 1}},
		{Blocks: []int{0}},
	}}
}

// sidings has two points, of which the first lies in a block that only a route without needs leads over.
func sidings() impl.Plant {
	return impl.Plant{Under: []int{0, 2}, Blocks: 4, Routes: []impl.Route{
		{Blocks: []int{0}},
		{Needs: []impl.Need{need(0, 1)}, Blocks: []int{1}},
		{Needs: []impl.Need{need(0, 0), need(1, 1)}, Blocks: []int{2, 3}},
		{Needs: []impl.Need{need(0, 1), need(1, 1)}, Blocks: []int{3, 1}},
	}}
}

func TestPlantOk(t *testing.T) {
	for _, p := range rightPlants() {
		if !impl.PlantOk(p) || !plantByWords(p) {
			t.Errorf("%v is right", p)
		}
	}
	for _, p := range wrongPlants() {
		if impl.PlantOk(p) || plantByWords(p) {
			t.Errorf("%v is wrong", p)
		}
	}
	for count := range 40 {
		for _, p := range []impl.Plant{
			{Blocks: count}, {Under: make([]int, count), Blocks: 1}, {Blocks: 1, Routes: slices.Repeat([]impl.Route{over(0)}, count)},
			{Blocks: count, Routes: []impl.Route{over(numbers(0, count-1)...)}}, {Under: numbers(0, count-1), Blocks: impl.MaxPlantBlocks},
		} {
			if impl.PlantOk(p) != plantByWords(p) {
				t.Errorf("%d of them: %v", count, impl.PlantOk(p))
			}
		}
	}
}

// manyLists gives every list of at most most elements out of the choices to f.
func manyLists[T any](most int, choices []T, f func(list []T)) {
	f(nil)
	if most == 0 {
		return
	}
	for _, x := range choices {
		manyLists(most-1, choices, func(list []T) { f(append([]T{x}, list...)) })
	}
}

func TestPlantOkOfEverySmallPlant(t *testing.T) {
	var needs []impl.Need
	for point := -1; point <= 2; point++ {
		for pos := -1; pos <= 2; pos++ {
			needs = append(needs, need(point, pos))
		}
	}
	check := func(p impl.Plant) {
		if got := impl.PlantOk(p); got != plantByWords(p) {
			t.Errorf("%v: %v", p, got)
		}
	}
	for blocks := -1; blocks <= 2; blocks++ {
		manyLists(2, numbers(-1, 2), func(under []int) {
			manyLists(2, needs, func(list []impl.Need) {
				manyLists(1, numbers(-1, 2), func(path []int) {
					check(impl.Plant{Under: under, Blocks: blocks, Routes: []impl.Route{{Needs: list, Blocks: path}}})
				})
			})
			manyLists(3, numbers(-1, 2), func(path []int) {
				check(impl.Plant{Under: under, Blocks: blocks, Routes: []impl.Route{over(0), {Blocks: path}}})
			})
		})
	}
}

func checkClash(t *testing.T, p impl.Plant, a, b int, want bool) {
	t.Helper()
	if got := impl.Clashing(p, a, b); got != want {
		t.Errorf("Clashing(%v, %d, %d) is %v", p, a, b, got)
	}
}

func TestClashing(t *testing.T) {
	p := crossing()
	for _, row := range []struct {
		a, b int
		want bool
	}{
		{0, 1, true}, {0, 2, true}, {1, 2, false}, {0, 3, true}, {0, 4, false}, {1, 3, false}, {1, 4, false}, {2, 3, false}, {2, 4, false}, {3, 4, false},
	} {
		checkClash(t, p, row.a, row.b, row.want)
		checkClash(t, p, row.b, row.a, row.want)
	}
	same := impl.Plant{Blocks: 2, Routes: []impl.Route{over(1), over(1), over(0)}}
	checkClash(t, same, 0, 1, true)
	checkClash(t, same, 0, 2, false)
	for _, p := range rightPlants() {
		for a := range p.Routes {
			checkClash(t, p, a, a, false)
			for _, none := range wrongPlaces(len(p.Routes)) {
				checkClash(t, p, a, none, false)
				checkClash(t, p, none, a, false)
				checkClash(t, p, none, none, false)
			}
			for b := range p.Routes {
				checkClash(t, p, a, b, clashByWords(p, a, b))
			}
		}
	}
	for _, p := range wrongPlants() {
		for a := -1; a <= len(p.Routes); a++ {
			for b := -1; b <= min(len(p.Routes), 20); b++ {
				checkClash(t, p, a, b, false)
			}
		}
	}
	// A third route that is none spoils the plant, and with it the clash of the others.
	checkClash(t, impl.Plant{Blocks: 2, Routes: []impl.Route{over(1), over(1), over()}}, 0, 1, false)
}

func TestClashingOfEveryTwoRoutes(t *testing.T) {
	var routes []impl.Route
	needs := []impl.Need{need(0, 0), need(0, 1), need(1, 0), need(1, 1)}
	plant := func(routes ...impl.Route) impl.Plant {
		return impl.Plant{Under: []int{2, 0}, Blocks: 3, Routes: routes}
	}
	manyLists(2, needs, func(list []impl.Need) {
		manyLists(3, numbers(0, 2), func(path []int) {
			if r := (impl.Route{Needs: list, Blocks: path}); routeByWords(plant(), r) {
				routes = append(routes, r)
			}
		})
	})
	if len(routes) != 9*15 {
		t.Fatal("routes", len(routes))
	}
	for _, a := range routes {
		for _, b := range routes {
			p := plant(a, b)
			checkClash(t, p, 0, 1, clashByWords(p, 0, 1))
			if impl.Clashing(p, 0, 1) != impl.Clashing(p, 1, 0) {
				t.Errorf("%v clash one way only", p)
			}
		}
	}
}

func TestBare(t *testing.T) {
	for _, p := range rightPlants() {
		want := impl.Locking{Pos: make([]int, len(p.Under)), Set: make([]bool, len(p.Routes)), Taken: make([]bool, p.Blocks)}
		if l := impl.Bare(p); !sameLocking(l, want) || !impl.LockingOk(p, l) {
			t.Errorf("Bare(%v) is %v", p, l)
		}
	}
	for _, p := range wrongPlants() {
		if l := impl.Bare(p); !sameLocking(l, impl.Locking{}) || impl.LockingOk(p, l) {
			t.Errorf("Bare(%v), no plant, is %v", p, l)
		}
	}
}

// wrongLockings spoil one thing each of a right locking of p.
func wrongLockings(p impl.Plant, l impl.Locking) []impl.Locking {
	list := []impl.Locking{{Set: l.Set, Pos: l.Pos}}
	add := func(spoil func(l *impl.Locking)) {
		spoilt := lockCopy(l)
		spoil(&spoilt)
		list = append(list, spoilt)
	}
	add(func(l *impl.Locking) { l.Pos = append(l.Pos, 0) })
	add(func(l *impl.Locking) { l.Set = append(l.Set, false) })
	add(func(l *impl.Locking) { l.Taken = append(l.Taken, false) })
	add(func(l *impl.Locking) { l.Taken = l.Taken[1:] })
	add(func(l *impl.Locking) { l.Taken = make([]bool, 1000) })
	if len(l.Set) > 0 {
		add(func(l *impl.Locking) { l.Set = l.Set[1:] })
		add(func(l *impl.Locking) { l.Set = nil })
	}
	for point := range l.Pos {
		for _, pos := range []int{math.MinInt, -1, 2, math.MaxInt} {
			add(func(l *impl.Locking) { l.Pos[point] = pos })
		}
	}
	if len(l.Pos) > 0 {
		add(func(l *impl.Locking) { l.Pos = l.Pos[1:] })
		add(func(l *impl.Locking) { l.Pos = nil })
		list = append(list, impl.Locking{})
	}
	for a, r := range p.Routes {
		for b := range p.Routes {
			if clashByWords(p, a, b) {
				add(func(l *impl.Locking) { l.Set[a], l.Set[b] = true, true })
			}
		}
		for _, n := range r.Needs {
			add(func(l *impl.Locking) { l.Set[a], l.Pos[n.Point] = true, 1-n.Pos })
		}
	}
	return list
}

func TestLockingOk(t *testing.T) {
	p := crossing()
	for _, row := range []struct {
		pos  []int
		set  []int
		want bool
	}{
		{[]int{0, 0}, nil, true}, {[]int{1, 1}, nil, true}, {[]int{0, 1}, []int{0}, true}, {[]int{1, 0}, []int{0}, false},
		{[]int{1, 0}, []int{1}, true}, {[]int{0, 1}, []int{1}, false}, {[]int{1, 1}, []int{1, 2}, true}, {[]int{1, 0}, []int{1, 2}, false},
		{[]int{0, 0}, []int{0, 3}, false}, {[]int{0, 0}, []int{0, 4}, true}, {[]int{1, 1}, []int{1, 2, 3, 4}, true}, {[]int{1, 1}, []int{0, 1}, false},
	} {
		for taken := range 1 << p.Blocks {
			l := impl.Locking{Pos: row.pos, Set: make([]bool, 5), Taken: make([]bool, p.Blocks)}
			for _, r := range row.set {
				l.Set[r] = true
			}
			for block := range l.Taken {
				l.Taken[block] = taken>>block&1 == 1
			}
			if impl.LockingOk(p, l) != row.want || lockingByWords(p, l) != row.want {
				t.Errorf("%v: not %v", l, row.want)
			}
		}
	}
	for _, p := range rightPlants() {
		for _, l := range wrongLockings(p, impl.Bare(p)) {
			if impl.LockingOk(p, l) || lockingByWords(p, l) {
				t.Errorf("%v is no locking of %v", l, p)
			}
		}
	}
	for _, p := range wrongPlants() {
		blocks := max(0, min(p.Blocks, 30))
		fitting := impl.Locking{Pos: make([]int, len(p.Under)), Set: make([]bool, len(p.Routes)), Taken: make([]bool, blocks)}
		if impl.LockingOk(p, fitting) || impl.LockingOk(p, impl.Locking{}) {
			t.Errorf("%v is no plant", p)
		}
	}
}

func TestRequest(t *testing.T) {
	p := crossing()
	bare := impl.Bare(p)
	l := checkCode(t, "a free route", p, bare, kindRequest, 0, impl.LockDone)
	checkCode(t, "it is set", p, l, kindRequest, 0, impl.LockSet)
	checkCode(t, "the point is needed", p, l, kindRequest, 1, impl.LockClash)
	checkCode(t, "a block is shared", p, l, kindRequest, 3, impl.LockClash)
	l = checkCode(t, "nothing in common", p, l, kindRequest, 4, impl.LockDone)
	if !slices.Equal(l.Set, []bool{true, false, false, false, true}) {
		t.Error("set", l.Set)
	}
	l = checkCode(t, "its point moves", p, bare, kindRequest, 1, impl.LockDone)
	checkInts(t, "the positions", l.Pos, []int{1, 0})
	l = checkCode(t, "the same point in the same position", p, l, kindRequest, 2, impl.LockDone)
	checkInts(t, "the positions", l.Pos, []int{1, 1})
	l = checkCode(t, "without needs", p, bare, kindRequest, 3, impl.LockDone)
	checkInts(t, "the positions", l.Pos, []int{0, 0})
	// Points that no longer hold a route stay as they are.
	l = checkCode(t, "set", p, bare, kindRequest, 2, impl.LockDone)
	l = checkCode(t, "withdrawn", p, l, kindWithdraw, 2, impl.LockDone)
	checkInts(t, "the positions", l.Pos, []int{1, 1})
	l = checkCode(t, "and the other way", p, l, kindRequest, 0, impl.LockDone)
	checkInts(t, "the positions", l.Pos, []int{0, 1})
}

func taking(p impl.Plant, l impl.Locking, blocks ...int) impl.Locking {
	end := lockCopy(l)
	for _, b := range blocks {
		end.Taken[b] = true
	}
	return end
}

func TestRequestOfTakenAndStuck(t *testing.T) {
	p := crossing()
	bare := impl.Bare(p)
	checkCode(t, "its first block is taken", p, taking(p, bare, 1), kindRequest, 0, impl.LockTaken)
	checkCode(t, "its last block is taken", p, taking(p, bare, 2), kindRequest, 0, impl.LockTaken)
	checkCode(t, "another block is taken", p, taking(p, bare, 0, 3, 4, 5), kindRequest, 0, impl.LockDone)
	checkCode(t, "a train on the point", p, taking(p, bare, 1), kindRequest, 1, impl.LockStuck)
	checkCode(t, "a train on the second point", p, taking(p, bare, 3), kindRequest, 2, impl.LockStuck)
	turned := lockCopy(bare)
	turned.Pos[0] = 1
	checkCode(t, "a train on a point that lies right", p, taking(p, turned, 1), kindRequest, 1, impl.LockDone)
	checkCode(t, "one lies right, the other not", p, taking(p, turned, 1, 3), kindRequest, 2, impl.LockStuck)
	checkCode(t, "one lies right, the other is free", p, taking(p, turned, 1), kindRequest, 2, impl.LockDone)
	checkCode(t, "a train on a point that is not needed", p, taking(p, bare, 3), kindRequest, 0, impl.LockDone)
	// By ops alone: the train stands on the point by a route that does not need it.
	q := sidings()
	l := checkCode(t, "over the point", q, impl.Bare(q), kindRequest, 0, impl.LockDone)
	l = checkCode(t, "a train comes", q, l, kindOccupy, 0, impl.LockDone)
	checkCode(t, "it stands on the point", q, l, kindRequest, 1, impl.LockStuck)
	m := checkCode(t, "the point lies right, the other is free", q, l, kindRequest, 2, impl.LockDone)
	checkInts(t, "the positions", m.Pos, []int{0, 1})
	l = checkCode(t, "it leaves", q, l, kindVacate, 0, impl.LockDone)
	l = checkCode(t, "the point is free", q, l, kindRequest, 1, impl.LockDone)
	checkInts(t, "the positions", l.Pos, []int{1, 0})
}

func TestRequestToldInOrder(t *testing.T) {
	// The point of route 0 lies in block 3; route 1 needs it the other way and shares block 2; route 2 holds block 3.
	p := impl.Plant{Under: []int{3}, Blocks: 4, Routes: []impl.Route{
		{Needs: []impl.Need{need(0, 1)}, Blocks: []int{1, 2}},
		{Needs: []impl.Need{need(0, 0)}, Blocks: []int{2}},
		{Blocks: []int{3}},
	}}
	bare := impl.Bare(p)
	all := taking(p, bare, 2, 3)
	all.Set[1] = true
	checkCode(t, "clash, taken and stuck", p, all, kindRequest, 0, impl.LockClash)
	all.Set[1] = false
	checkCode(t, "taken and stuck", p, all, kindRequest, 0, impl.LockTaken)
	all.Taken[2] = false
	checkCode(t, "stuck", p, all, kindRequest, 0, impl.LockStuck)
	all.Taken[3] = false
	checkCode(t, "nothing", p, all, kindRequest, 0, impl.LockDone)
	clashing := taking(p, bare, 1)
	clashing.Set[1] = true
	checkCode(t, "clash and taken", p, clashing, kindRequest, 0, impl.LockClash)
	stuck := taking(p, bare, 3)
	stuck.Set[1] = true
	checkCode(t, "clash and stuck", p, stuck, kindRequest, 0, impl.LockClash)
	set := taking(p, bare, 2)
	set.Set[1] = true
	checkCode(t, "set and taken", p, set, kindRequest, 1, impl.LockSet)
	for _, r := range wrongPlaces(3) {
		checkCode(t, "bad and all else", p, all, kindRequest, r, impl.LockBad)
	}
	set.Pos[0] = 1
	checkCode(t, "bad, set and taken", p, set, kindRequest, 1, impl.LockBad)
	checkCode(t, "bad, clash and taken", p, set, kindRequest, 0, impl.LockBad)
}

func TestOccupyAndVacate(t *testing.T) {
	p := crossing()
	bare := impl.Bare(p)
	checkCode(t, "no route is set", p, bare, kindOccupy, 1, impl.LockNone)
	checkCode(t, "taken, and no route is set", p, taking(p, bare, 1), kindOccupy, 1, impl.LockTaken)
	l := checkCode(t, "set", p, bare, kindRequest, 0, impl.LockDone)
	checkCode(t, "a block of another route", p, l, kindOccupy, 3, impl.LockNone)
	checkCode(t, "taken, of another route", p, taking(p, l, 3), kindOccupy, 3, impl.LockTaken)
	l = checkCode(t, "the last block ahead of the first", p, l, kindOccupy, 2, impl.LockDone)
	checkCode(t, "taken, and the route is set", p, l, kindOccupy, 2, impl.LockTaken)
	l = checkCode(t, "the first block too", p, l, kindOccupy, 1, impl.LockDone)
	if !slices.Equal(l.Taken, []bool{false, true, true, false, false, false}) || !l.Set[0] {
		t.Error("taken", l)
	}
	checkCode(t, "not taken", p, l, kindVacate, 3, impl.LockNone)
	checkCode(t, "not taken at all", p, bare, kindVacate, 1, impl.LockNone)
	l = checkCode(t, "it leaves", p, l, kindVacate, 1, impl.LockDone)
	checkCode(t, "it has left", p, l, kindVacate, 1, impl.LockNone)
	if !l.Set[0] || !l.Taken[2] {
		t.Error("the route stays set, the other block taken", l)
	}
	checkCode(t, "a block of no set route is left", p, taking(p, bare, 5), kindVacate, 5, impl.LockDone)
	for _, b := range wrongPlaces(p.Blocks) {
		checkCode(t, "no block", p, l, kindOccupy, b, impl.LockBad)
		checkCode(t, "no block", p, l, kindVacate, b, impl.LockBad)
	}
	// There are more blocks than routes: a block is asked by the blocks.
	single := impl.Plant{Blocks: 3, Routes: []impl.Route{over(2)}}
	s := checkCode(t, "set", single, impl.Bare(single), kindRequest, 0, impl.LockDone)
	s = checkCode(t, "the last block", single, s, kindOccupy, 2, impl.LockDone)
	checkCode(t, "the last block", single, s, kindVacate, 2, impl.LockDone)
	checkCode(t, "a block, but no route", single, s, kindRequest, 2, impl.LockBad)
	checkCode(t, "a block, but no route", single, s, kindWithdraw, 1, impl.LockBad)
	short := impl.Plant{Blocks: 1, Routes: []impl.Route{over(0), over(0)}}
	checkCode(t, "a route, but no block", short, impl.Bare(short), kindOccupy, 1, impl.LockBad)
	checkCode(t, "a route, but no block", short, impl.Bare(short), kindVacate, 1, impl.LockBad)
}

func TestWithdraw(t *testing.T) {
	p := crossing()
	bare := impl.Bare(p)
	checkCode(t, "not set", p, bare, kindWithdraw, 0, impl.LockNone)
	checkCode(t, "not set, and taken", p, taking(p, bare, 1), kindWithdraw, 0, impl.LockNone)
	l := checkCode(t, "set", p, bare, kindRequest, 1, impl.LockDone)
	held := checkCode(t, "a train comes", p, l, kindOccupy, 3, impl.LockDone)
	checkCode(t, "held", p, held, kindWithdraw, 1, impl.LockTaken)
	checkCode(t, "another block is taken", p, taking(p, l, 0, 1, 2, 4, 5), kindWithdraw, 1, impl.LockDone)
	end := checkCode(t, "withdrawn", p, l, kindWithdraw, 1, impl.LockDone)
	checkInts(t, "the points stay", end.Pos, []int{1, 0})
	checkCode(t, "withdrawn twice", p, end, kindWithdraw, 1, impl.LockNone)
	again := checkCode(t, "set again", p, end, kindRequest, 1, impl.LockDone)
	if !sameLocking(again, l) {
		t.Error("set again", again, l)
	}
	other := checkCode(t, "the other, that clashed", p, end, kindRequest, 0, impl.LockDone)
	checkCode(t, "and now it clashes", p, other, kindRequest, 1, impl.LockClash)
	for _, r := range wrongPlaces(len(p.Routes)) {
		checkCode(t, "no route", p, l, kindWithdraw, r, impl.LockBad)
		checkCode(t, "no route", p, l, kindRequest, r, impl.LockBad)
	}
}

func TestOpsOfWrongLockings(t *testing.T) {
	for _, p := range rightPlants() {
		for _, l := range wrongLockings(p, impl.Bare(p)) {
			for kind := range 4 {
				for what := -1; what <= 6; what++ {
					checkCode(t, "a wrong locking", p, l, kind, what, impl.LockBad)
				}
			}
		}
	}
	for _, p := range wrongPlants() {
		blocks := max(0, min(p.Blocks, 30))
		for _, l := range []impl.Locking{{}, impl.Bare(p), impl.Bare(crossing()), {Pos: make([]int, len(p.Under)), Set: make([]bool, len(p.Routes)), Taken: make([]bool, blocks)}} {
			for kind := range 4 {
				for what := -1; what <= 2; what++ {
					checkCode(t, "a wrong plant", p, l, kind, what, impl.LockBad)
				}
			}
		}
	}
}

// somePlant has at most so many points, blocks and routes; its routes are short, so that some of them can be set at once.
func somePlant(d *dice, points, blocks, routes int) impl.Plant {
	p := impl.Plant{Blocks: 1 + d.below(blocks)}
	for range d.below(points + 1) {
		p.Under = append(p.Under, d.below(p.Blocks))
	}
	for range d.below(routes + 1) {
		var r impl.Route
		for point := range p.Under {
			if d.below(4) == 0 {
				r.Needs = append(r.Needs, need(point, d.below(2)))
			}
		}
		for len(r.Blocks) == 0 || d.below(2) == 0 {
			if b := d.below(p.Blocks); !slices.Contains(r.Blocks, b) {
				r.Blocks = append(r.Blocks, b)
			}
		}
		p.Routes = append(p.Routes, r)
	}
	return p
}

// manyLockings gives every locking of p with positions 0 and 1 to f, those that are not right too.
func manyLockings(p impl.Plant, f func(l impl.Locking)) {
	points, routes := len(p.Under), len(p.Routes)
	for bits := range 1 << (points + routes + p.Blocks) {
		l := impl.Locking{Pos: make([]int, points), Set: make([]bool, routes), Taken: make([]bool, p.Blocks)}
		for point := range l.Pos {
			l.Pos[point] = bits >> point & 1
		}
		for r := range l.Set {
			l.Set[r] = bits>>(points+r)&1 == 1
		}
		for b := range l.Taken {
			l.Taken[b] = bits>>(points+routes+b)&1 == 1
		}
		f(l)
	}
}

func TestOpsAtEveryLocking(t *testing.T) {
	d := &dice{state: 61}
	several := map[[2]int]int{}
	for range 150 {
		p := somePlant(d, 2, 3, 3)
		manyLockings(p, func(l impl.Locking) {
			right := lockingByWords(p, l)
			if impl.LockingOk(p, l) != right {
				t.Errorf("LockingOk(%v, %v) is not %v", p, l, right)
			}
			for kind := range 4 {
				for what := -1; what <= 3; what++ {
					checkOp(t, p, l, kind, what)
					if right && what >= 0 && what < min(len(p.Routes), p.Blocks) {
						codes := reasonsByWords(p, l, kind, what)
						several[[2]int{kind, len(codes)}]++
					}
				}
			}
		})
	}
	// What is thrown here has to show the order of the codes.
	if several[[2]int{kindRequest, 3}] == 0 || several[[2]int{kindOccupy, 2}] == 0 || several[[2]int{kindWithdraw, 2}] == 0 {
		t.Error("no op with several reasons against it", several)
	}
}

func playByWords(p impl.Plant, ops []impl.LockOp) (impl.Locking, []int) {
	l := impl.Locking{Pos: make([]int, len(p.Under)), Set: make([]bool, len(p.Routes)), Taken: make([]bool, p.Blocks)}
	var codes []int
	for _, op := range ops {
		end, code := opByWords(p, l, op.Kind, op.What)
		l, codes = end, append(codes, code)
	}
	return l, codes
}

func checkPlay(t *testing.T, p impl.Plant, ops []impl.LockOp, want impl.Locking, wanted []int) {
	t.Helper()
	got, codes := impl.PlayLock(p, ops)
	if !sameLocking(got, want) || !slices.Equal(codes, wanted) {
		t.Errorf("PlayLock(%v, %v): %v %v, not %v %v", p, ops, got, codes, want, wanted)
	}
}

func op(kind, what int) impl.LockOp {
	return impl.LockOp{Kind: kind, What: what}
}

func TestPlayLock(t *testing.T) {
	p := crossing()
	checkPlay(t, p, nil, impl.Bare(p), nil)
	checkPlay(t, p, []impl.LockOp{}, impl.Bare(p), nil)
	ops := []impl.LockOp{op(0, 0), op(0, 1), op(1, 1), op(3, 0), op(2, 1), op(3, 0), op(0, 1), op(1, 3), op(0, 4), op(0, 4), op(2, 0), op(9, 0)}
	want := impl.Locking{Pos: []int{1, 0}, Set: []bool{false, true, false, false, true}, Taken: []bool{false, false, false, true, false, false}}
	codes := []int{impl.LockDone, impl.LockClash, impl.LockDone, impl.LockTaken, impl.LockDone, impl.LockDone, impl.LockDone, impl.LockDone, impl.LockDone, impl.LockSet, impl.LockNone, impl.LockBad}
	checkPlay(t, p, ops, want, codes)
	q := sidings()
	ops = []impl.LockOp{op(0, 0), op(1, 0), op(0, 1), op(2, 0), op(0, 1), op(1, 0)}
	want = impl.Locking{Pos: []int{1, 0}, Set: []bool{true, true, false, false}, Taken: []bool{true, false, false, false}}
	checkPlay(t, q, ops, want, []int{0, 0, impl.LockStuck, 0, 0, 0})
}

func TestPlayLockOfOtherKinds(t *testing.T) {
	for _, p := range rightPlants() {
		for _, kind := range []int{math.MinInt, -1, 4, 5, 256, math.MaxInt} {
			for what := -1; what <= p.Blocks; what++ {
				checkPlay(t, p, []impl.LockOp{op(kind, what)}, impl.Bare(p), []int{impl.LockBad})
			}
		}
		for kind := range 4 {
			count := len(p.Routes)
			if kind == kindOccupy || kind == kindVacate {
				count = p.Blocks
			}
			for _, what := range wrongPlaces(count) {
				checkPlay(t, p, []impl.LockOp{op(kind, what)}, impl.Bare(p), []int{impl.LockBad})
			}
		}
	}
	p := crossing()
	checkPlay(t, p, []impl.LockOp{op(0, 0), op(4, 0), op(-1, 1), op(1, 1)}, taking(p, func() impl.Locking {
		l, _ := impl.Request(p, impl.Bare(p), 0)
		return l
	}(), 1), []int{0, impl.LockBad, impl.LockBad, 0})
}

func TestPlayLockOfManyOps(t *testing.T) {
	p := crossing()
	turns := slices.Repeat([]impl.LockOp{op(0, 1), op(3, 1)}, impl.MaxOps/2)
	end := impl.Bare(p)
	end.Pos[0] = 1
	checkPlay(t, p, turns, end, make([]int, impl.MaxOps))
	checkPlay(t, p, append(slices.Clone(turns), op(0, 1)), impl.Locking{}, nil)
	checkPlay(t, p, slices.Repeat(turns, 4), impl.Locking{}, nil)
	bad := slices.Repeat([]impl.LockOp{op(7, 7)}, impl.MaxOps)
	checkPlay(t, p, bad, impl.Bare(p), slices.Repeat([]int{impl.LockBad}, impl.MaxOps))
	checkPlay(t, p, append(bad, op(7, 7)), impl.Locking{}, nil)
	for _, p := range wrongPlants() {
		for _, ops := range [][]impl.LockOp{nil, {}, {op(0, 0)}, {op(9, 9)}, turns, append(slices.Clone(turns), op(0, 0))} {
			checkPlay(t, p, ops, impl.Locking{}, nil)
		}
	}
}

func someOps(d *dice, p impl.Plant, count int) []impl.LockOp {
	ops := make([]impl.LockOp, count)
	for i := range ops {
		kind := d.below(4)
		what := d.below(max(1, len(p.Routes)))
		if kind == kindOccupy || kind == kindVacate {
			what = d.below(p.Blocks)
		}
		if d.below(50) == 0 {
			kind, what = d.below(7)-1, d.below(30)-2
		}
		ops[i] = op(kind, what)
	}
	return ops
}

// manyPlays gives thrown plants, small ones and great ones, and ops to f.
func manyPlays(state uint64, count int, f func(p impl.Plant, ops []impl.LockOp)) {
	d := &dice{state: state}
	for i := range count {
		p := somePlant(d, []int{2, 6, impl.MaxPoints}[i%3], []int{5, 12, impl.MaxPlantBlocks}[i%3], []int{4, 8, impl.MaxRoutes}[i%3])
		f(p, someOps(d, p, d.below(impl.MaxOps+1)))
	}
}

func TestPlayLockOpByOp(t *testing.T) {
	met := make([]int, 7)
	manyPlays(62, 600, func(p impl.Plant, ops []impl.LockOp) {
		want, wanted := playByWords(p, ops)
		checkPlay(t, p, ops, want, wanted)
		for _, code := range wanted {
			met[code]++
		}
		l := impl.Bare(p)
		for i, o := range ops {
			if o.Kind < 0 || o.Kind > 3 {
				continue
			}
			end, code := checkOp(t, p, l, o.Kind, o.What)
			if code != wanted[i] {
				t.Fatalf("op %d of %v: %d alone, %d when played", i, ops, code, wanted[i])
			}
			l = end
		}
		if !sameLocking(l, want) {
			t.Errorf("one by one: %v, played: %v", l, want)
		}
	})
	if slices.Contains(met, 0) {
		t.Error("a code was never met", met)
	}
}

// checkStep holds one op against promise 8: before is what stood there, end what stands there behind it.
func checkStep(t *testing.T, p impl.Plant, before, end impl.Locking, code int) {
	t.Helper()
	if code != impl.LockDone && !sameLocking(before, end) {
		t.Fatalf("refused by %d: %v has become %v", code, before, end)
	}
	if code == impl.LockDone && sameLocking(before, end) {
		t.Fatalf("done, and nothing is other than it was: %v", before)
	}
	for a := range p.Routes {
		for b := range a {
			if end.Set[a] && end.Set[b] && impl.Clashing(p, a, b) {
				t.Fatalf("routes %d and %d of %v are set", a, b, p)
			}
		}
		for _, n := range p.Routes[a].Needs {
			if end.Set[a] && end.Pos[n.Point] != n.Pos {
				t.Fatalf("route %d of %v lacks point %d: %v", a, p, n.Point, end)
			}
			if before.Set[a] && before.Pos[n.Point] != end.Pos[n.Point] {
				t.Fatalf("point %d moves under route %d of %v: %v to %v", n.Point, a, p, before, end)
			}
		}
	}
	for point, under := range p.Under {
		if before.Pos[point] != end.Pos[point] && (before.Taken[under] || end.Taken[under]) {
			t.Fatalf("point %d of %v moves under a train: %v to %v", point, p, before, end)
		}
	}
}

// TestPromise8 plays on by one op more each time: no set routes clash, all have their points, none moves under a train, and what is refused changes nothing.
func TestPromise8(t *testing.T) {
	manyPlays(63, 120, func(p impl.Plant, ops []impl.LockOp) {
		before := impl.Bare(p)
		for i := range ops {
			end, codes := impl.PlayLock(p, ops[:i+1])
			if len(codes) != i+1 || !impl.LockingOk(p, end) {
				t.Fatalf("PlayLock(%v, %v): %v %v", p, ops[:i+1], end, codes)
			}
			checkStep(t, p, before, end, codes[i])
			before = end
		}
	})
}

// A route that was withdrawn is set again, as nothing else stands against it.
func TestWithdrawnRoutesAreSetAgain(t *testing.T) {
	count := 0
	manyPlays(64, 400, func(p impl.Plant, ops []impl.LockOp) {
		l, _ := impl.PlayLock(p, ops)
		for r, set := range l.Set {
			end, code := impl.Withdraw(p, l, r)
			if !set || code != impl.LockDone {
				continue
			}
			count++
			if again, code := impl.Request(p, end, r); code != impl.LockDone || !sameLocking(again, l) {
				t.Errorf("route %d of %v at %v: %v %d", r, p, l, again, code)
			}
		}
	})
	if count == 0 {
		t.Error("no route was withdrawn")
	}
}

// spoil writes into all lists of an answer, and behind them.
func spoil(l impl.Locking) {
	for i := range l.Pos {
		l.Pos[i] = -9
	}
	for _, list := range [][]bool{l.Set, l.Taken} {
		for i := range list {
			list[i] = !list[i]
		}
		_ = append(list, true)
	}
	_ = append(l.Pos, -9)
}

func TestLockAnswersAreNewMemory(t *testing.T) {
	p, was := crossing(), crossing()
	// Room behind the lists: what is put there would be seen.
	pos, set, taken := make([]int, 4), make([]bool, 12), make([]bool, 12)
	l := impl.Locking{Pos: pos[:2], Set: set[:5], Taken: taken[:6]}
	l.Set[4], l.Taken[0] = true, true
	for kind := range 4 {
		for what := -1; what <= 6; what++ {
			end, _ := doLock(p, l, kind, what)
			spoil(end)
		}
	}
	short := impl.Locking{Pos: pos[:1], Set: set[:5], Taken: taken[:6]}
	for kind := range 4 {
		end, _ := doLock(p, short, kind, 0)
		spoil(end)
	}
	ops, opsWas := []impl.LockOp{op(0, 0), op(1, 1), op(9, 9)}, []impl.LockOp{op(0, 0), op(1, 1), op(9, 9)}
	end, codes := impl.PlayLock(p, ops)
	spoil(end)
	codes[0] = -9
	spoil(impl.Bare(p))
	impl.LockingOk(p, l)
	impl.Clashing(p, 0, 1)
	checkInts(t, "the positions were changed", pos, make([]int, 4))
	wantSet, wantTaken := make([]bool, 12), make([]bool, 12)
	wantSet[4], wantTaken[0] = true, true
	if !slices.Equal(set, wantSet) || !slices.Equal(taken, wantTaken) || !samePlant(p, was) || !slices.Equal(ops, opsWas) {
		t.Error("what came in was changed", set, taken, p, ops)
	}
	// The lists of one answer share nothing: Set and Taken have one length here.
	q := impl.Plant{Blocks: 2, Routes: []impl.Route{over(0), over(1)}}
	b := impl.Bare(q)
	b.Set[0] = true
	if b.Taken[0] {
		t.Error("Set and Taken are one list")
	}
	// Nor does an answer share what came in where two of its lists were one.
	both := make([]bool, 2)
	shared := impl.Locking{Set: both, Taken: both}
	if end, code := impl.Request(q, shared, 0); code != impl.LockDone || end.Taken[0] || both[0] {
		t.Error("lists that were one", end, code)
	}
}

func TestLocksNeverPanic(t *testing.T) {
	extremes := []int{math.MinInt, -1, 0, 1, impl.MaxPlantBlocks, math.MaxInt}
	plants := append(rightPlants(), wrongPlants()...)
	for _, x := range extremes {
		for _, y := range extremes {
			plants = append(plants, impl.Plant{Under: []int{x}, Blocks: y, Routes: []impl.Route{{Needs: []impl.Need{need(x, y)}, Blocks: []int{y, x}}}})
		}
	}
	bad := panicsIn(func() {
		for _, p := range plants {
			impl.PlantOk(p)
			impl.Bare(p)
			for _, l := range []impl.Locking{{}, impl.Bare(p), impl.Bare(crossing()), {Pos: []int{math.MaxInt}, Set: []bool{true}, Taken: []bool{true}}} {
				impl.LockingOk(p, l)
				for _, x := range extremes {
					for kind := range 4 {
						doLock(p, l, kind, x)
					}
				}
			}
			for _, x := range extremes {
				for _, y := range extremes {
					impl.Clashing(p, x, y)
					impl.PlayLock(p, []impl.LockOp{op(x, y), op(0, x), op(1, y), op(2, x), op(3, y)})
				}
			}
		}
	})
	if bad {
		t.Error("a panic")
	}
}
