package tests

import (
	"math"
	"math/big"
	"slices"
	"testing"

	"loop.example/g00075/impl"
)

var noughtBelow = math.Copysign(0, -1)

// sameFloat holds the bits against each other; all that is no number is one.
func sameFloat(x, y float64) bool {
	return math.Float64bits(x) == math.Float64bits(y) || math.IsNaN(x) && math.IsNaN(y)
}

// noFloats are what no place that takes a float wants.
func noFloats() []float64 {
	return []float64{math.NaN(), math.Float64frombits(0xfff8000000000001), math.Inf(1), math.Inf(-1), math.MaxFloat64, -math.MaxFloat64}
}

// beyond gives what lies just outside of low .. high, and what is no number or endless.
func beyond(low, high float64) []float64 {
	return append(noFloats(), math.Nextafter(low, math.Inf(-1)), low-1, math.Nextafter(high, math.Inf(1)), high+1)
}

// edges gives low, high and what lies just inside of them; a low of 0 may be a nought below too.
func edges(low, high float64) []float64 {
	list := []float64{low, math.Nextafter(low, high), (low + high) / 2, math.Nextafter(high, low), high}
	if low == 0 {
		list = append(list, noughtBelow)
	}
	return list
}

func aCar() impl.Car   { return impl.Car{Mass: 10, A: 1, B: 0.5, C: 0.25} }
func aLoco() impl.Loco { return impl.Loco{Power: 100, Grip: 20} }

// carsWith gives a car for each x and each field that may be in the same range.
func carsWith(masses, as, bs, cs []float64) []impl.Car {
	var list []impl.Car
	for _, x := range masses {
		list = append(list, impl.Car{Mass: x, A: 1, B: 0.5, C: 0.25})
	}
	for _, x := range as {
		list = append(list, impl.Car{Mass: 10, A: x, B: 0.5, C: 0.25})
	}
	for _, x := range bs {
		list = append(list, impl.Car{Mass: 10, A: 1, B: x, C: 0.25})
	}
	for _, x := range cs {
		list = append(list, impl.Car{Mass: 10, A: 1, B: 0.5, C: x})
	}
	return list
}

func locosWith(powers, grips []float64) []impl.Loco {
	var list []impl.Loco
	for _, x := range powers {
		list = append(list, impl.Loco{Power: x, Grip: 20})
	}
	for _, x := range grips {
		list = append(list, impl.Loco{Power: 100, Grip: x})
	}
	return list
}

func rightCars() []impl.Car {
	list := carsWith(edges(1, 5000), edges(0, 1000), edges(0, 100), edges(0, 100))
	return append(list, impl.Car{Mass: 1}, impl.Car{Mass: 5000, A: 1000, B: 100, C: 100},
		impl.Car{Mass: 1, A: noughtBelow, B: noughtBelow, C: noughtBelow})
}

func wrongCars() []impl.Car {
	list := carsWith(beyond(1, 5000), beyond(0, 1000), beyond(0, 100), beyond(0, 100))
	return append(list, impl.Car{}, impl.Car{A: 1, B: 1, C: 1}, impl.Car{Mass: noughtBelow})
}

func rightLocos() []impl.Loco {
	return append(locosWith(edges(1, 100000), edges(1, 10000)), impl.Loco{Power: 1, Grip: 1}, impl.Loco{Power: 100000, Grip: 10000})
}

func wrongLocos() []impl.Loco {
	return append(locosWith(beyond(1, 100000), beyond(1, 10000)), impl.Loco{}, impl.Loco{Power: 1}, impl.Loco{Grip: 1})
}

func wrongTrains() [][]impl.Car {
	list := [][]impl.Car{nil, {}, slices.Repeat([]impl.Car{aCar()}, impl.MaxCars+1), slices.Repeat([]impl.Car{aCar()}, 3*impl.MaxCars)}
	for _, c := range wrongCars() {
		list = append(list, []impl.Car{c}, []impl.Car{aCar(), c}, []impl.Car{c, aCar()}, []impl.Car{aCar(), c, aCar()})
	}
	longest := slices.Repeat([]impl.Car{aCar()}, impl.MaxCars)
	longest[impl.MaxCars-1].Mass = 0
	return append(list, longest)
}

// thrown gives a float in low .. high, of all its bits, and now and then one of the ends.
func thrown(d *dice, low, high float64) float64 {
	switch d.below(12) {
	case 0:
		return low
	case 1:
		return high
	}
	part := (float64(d.below(1<<30)) + float64(d.below(1<<22))/(1<<22)) / (1 << 30)
	return math.Min(math.Max(low+(high-low)*part, low), high)
}

func someCar(d *dice) impl.Car {
	if d.below(2) == 0 {
		return impl.Car{Mass: thrown(d, 1, 60), A: thrown(d, 0, 2), B: thrown(d, 0, 0.01), C: thrown(d, 0, 0.001)}
	}
	return impl.Car{Mass: thrown(d, 1, 5000), A: thrown(d, 0, 1000), B: thrown(d, 0, 100), C: thrown(d, 0, 100)}
}

func someCars(d *dice) []impl.Car {
	cars := make([]impl.Car, 1+d.below([]int{2, 6, impl.MaxCars}[d.below(3)]))
	for i := range cars {
		cars[i] = someCar(d)
	}
	return cars
}

func someLoco(d *dice) impl.Loco {
	if d.below(2) == 0 {
		return impl.Loco{Power: thrown(d, 1, 5000), Grip: thrown(d, 1, 500)}
	}
	return impl.Loco{Power: thrown(d, 1, 100000), Grip: thrown(d, 1, 10000)}
}

func someSlopes(d *dice, n int) []float64 {
	most := []float64{1, 0.05}[d.below(2)]
	slopes := make([]float64, n)
	for i := range slopes {
		slopes[i] = thrown(d, -most, most)
	}
	return slopes
}

// told is a float of 53 bits that rounds after each operation and fuses none with another.
type told struct{ x *big.Float }

func tell(x float64) told         { return told{new(big.Float).SetPrec(53).SetFloat64(x)} }
func blank() *big.Float           { return new(big.Float).SetPrec(53) }
func (t told) plus(u told) told   { return told{blank().Add(t.x, u.x)} }
func (t told) less(u told) told   { return told{blank().Sub(t.x, u.x)} }
func (t told) times(u told) told  { return told{blank().Mul(t.x, u.x)} }
func (t told) by(u told) told     { return told{blank().Quo(t.x, u.x)} }
func (t told) above(u told) bool  { return t.x.Cmp(u.x) > 0 }
func (t told) float() (x float64) { x, _ = t.x.Float64(); return x }

func toldResist(c impl.Car, v float64) told {
	return tell(c.A).plus(tell(c.B).times(tell(v))).plus(tell(c.C).times(tell(v)).times(tell(v)))
}

func toldEffort(l impl.Loco, v float64) told {
	if v == 0 {
		return tell(l.Grip)
	}
	if power := tell(l.Power).by(tell(v)); !power.above(tell(l.Grip)) {
		return power
	}
	return tell(l.Grip)
}

func toldWeigh(cars []impl.Car) told {
	sum := tell(0)
	for _, c := range cars {
		sum = sum.plus(tell(c.Mass))
	}
	return sum
}

func toldDrag(cars []impl.Car, v, slope float64) told {
	sum := tell(0)
	for _, c := range cars {
		sum = sum.plus(toldResist(c, v)).plus(tell(c.Mass).times(tell(slope)))
	}
	return sum
}

func toldPull(l impl.Loco, cars []impl.Car, v, slope, span float64) float64 {
	end := tell(v).plus(toldEffort(l, v).less(toldDrag(cars, v, slope)).by(toldWeigh(cars)).times(tell(span)))
	if !end.above(tell(0)) {
		return 0
	}
	if end.above(tell(200)) {
		return 200
	}
	return end.float()
}

func toldJoules(l impl.Loco, speeds []float64, span float64) told {
	sum := tell(0)
	for _, v := range speeds {
		sum = sum.plus(toldEffort(l, v).times(tell(v)).times(tell(span)))
	}
	return sum
}

func checkFloat(t *testing.T, what string, got, want float64) {
	t.Helper()
	if !sameFloat(got, want) {
		t.Errorf("%s: %v (%x), not %v (%x)", what, got, math.Float64bits(got), want, math.Float64bits(want))
	}
}

func TestInRange(t *testing.T) {
	for _, row := range []struct {
		x, low, high float64
		want         bool
	}{
		{2, 2, 2, true}, {2, 1, 3, true}, {1, 1, 3, true}, {3, 1, 3, true}, {0.5, 1, 3, false}, {3.5, 1, 3, false},
		{2, 3, 1, false}, {3, 3, 1, false}, {1, 3, 1, false},
		{math.Nextafter(1, 0), 1, 3, false}, {math.Nextafter(3, 4), 1, 3, false},
		{noughtBelow, 0, 1, true}, {0, noughtBelow, 1, true}, {noughtBelow, 0, 0, true}, {0, -1, noughtBelow, true},
		{math.SmallestNonzeroFloat64, 0, 1, true}, {-math.SmallestNonzeroFloat64, 0, 1, false},
		{math.NaN(), 0, 1, false}, {0, math.NaN(), 1, false}, {0, 0, math.NaN(), false}, {math.NaN(), math.NaN(), math.NaN(), false},
		{math.Inf(1), 0, math.Inf(1), true}, {math.Inf(1), 0, math.MaxFloat64, false}, {math.Inf(-1), math.Inf(-1), 0, true},
		{5, math.Inf(-1), math.Inf(1), true}, {math.Inf(-1), -math.MaxFloat64, 0, false}, {math.NaN(), math.Inf(-1), math.Inf(1), false},
	} {
		if impl.InRange(row.x, row.low, row.high) != row.want {
			t.Errorf("InRange(%v, %v, %v) is not %v", row.x, row.low, row.high, row.want)
		}
	}
}

func TestCarsAndLocos(t *testing.T) {
	for _, c := range rightCars() {
		if !impl.CarOk(c) {
			t.Errorf("%v is a car", c)
		}
	}
	for _, c := range wrongCars() {
		if impl.CarOk(c) {
			t.Errorf("%v is no car", c)
		}
	}
	for _, l := range rightLocos() {
		if !impl.LocoOk(l) {
			t.Errorf("%v is a locomotive", l)
		}
	}
	for _, l := range wrongLocos() {
		if impl.LocoOk(l) {
			t.Errorf("%v is no locomotive", l)
		}
	}
}

func TestResist(t *testing.T) {
	checkFloat(t, "at 4", impl.Resist(aCar(), 4), 7)
	checkFloat(t, "at 0", impl.Resist(aCar(), 0), 1)
	checkFloat(t, "the most", impl.Resist(impl.Car{Mass: 5000, A: 1000, B: 100, C: 100}, 200), 4021000)
	for _, c := range rightCars() {
		for _, v := range []float64{0, noughtBelow, 0.1, 1, 1.1, 99.7, math.Nextafter(200, 0), 200} {
			checkFloat(t, "edge", impl.Resist(c, v), toldResist(c, v).float())
		}
	}
	d := &dice{state: 41}
	for range 3000 {
		c, v := someCar(d), thrown(d, 0, 200)
		checkFloat(t, "thrown", impl.Resist(c, v), toldResist(c, v).float())
	}
	for _, v := range beyond(0, 200) {
		checkFloat(t, "no speed", impl.Resist(aCar(), v), 0)
	}
	for _, c := range wrongCars() {
		checkFloat(t, "no car", impl.Resist(c, 4), 0)
	}
}

func TestResistHangsOnItsOrder(t *testing.T) {
	// A is so great that each of the two products alone is lost behind it, and their sum is not.
	const grain = 1.0 / (1 << 44)
	c := impl.Car{Mass: 1, A: 512, B: grain, C: grain}
	checkFloat(t, "A first", impl.Resist(c, 1), 512)
	// (C v) v is not C (v v): the square of v has more bits than a float holds.
	c = impl.Car{Mass: 1, C: 0.1}
	found := false
	d := &dice{state: 42}
	for range 1000 {
		v := thrown(d, 0, 200)
		square := v * v
		found = found || 0.1*square != impl.Resist(c, v)
		checkFloat(t, "C v first", impl.Resist(c, v), toldResist(c, v).float())
	}
	if !found {
		t.Error("no speed tells the orders apart")
	}
	// A product that is fused with the sum keeps its last bits: here they are all that is left.
	third := 1.0 / 3
	c = impl.Car{Mass: 1, A: third, B: third, C: third}
	checkFloat(t, "not fused", impl.Resist(c, third), toldResist(c, third).float())
}

func TestResistNoughts(t *testing.T) {
	below := impl.Car{Mass: 1, A: noughtBelow, B: 1, C: noughtBelow}
	checkFloat(t, "all below", impl.Resist(below, noughtBelow), noughtBelow)
	checkFloat(t, "speed above", impl.Resist(below, 0), 0)
	checkFloat(t, "A above", impl.Resist(impl.Car{Mass: 1, B: 1, C: noughtBelow}, noughtBelow), 0)
	checkFloat(t, "C above", impl.Resist(impl.Car{Mass: 1, A: noughtBelow, B: 1, C: 1}, noughtBelow), 0)
	checkFloat(t, "B below", impl.Resist(impl.Car{Mass: 1, A: noughtBelow, B: noughtBelow, C: noughtBelow}, noughtBelow), 0)
}

func TestEffort(t *testing.T) {
	for _, row := range []struct{ v, want float64 }{
		{0, 20}, {noughtBelow, 20}, {4, 20}, {5, 20}, {10, 10}, {200, 0.5},
		{math.Nextafter(5, 0), 20}, {math.SmallestNonzeroFloat64, 20}, {1e-300, 20},
		{math.Nextafter(math.Nextafter(5, 6), 6), 100 / math.Nextafter(math.Nextafter(5, 6), 6)},
	} {
		checkFloat(t, "by speed", impl.Effort(aLoco(), row.v), row.want)
	}
	if impl.Effort(aLoco(), math.Nextafter(math.Nextafter(5, 6), 6)) >= 20 {
		t.Error("above the speed where power takes over the effort is below the grip")
	}
	for _, l := range rightLocos() {
		for _, v := range append(edges(0, 200), 0.1, 1, 5, 10) {
			if v == 0 || v > 1e-300 {
				checkFloat(t, "edge", impl.Effort(l, v), toldEffort(l, v).float())
			} else {
				checkFloat(t, "crawl", impl.Effort(l, v), l.Grip)
			}
		}
	}
	d := &dice{state: 43}
	for range 3000 {
		l, v := someLoco(d), thrown(d, 0, 200)
		checkFloat(t, "thrown", impl.Effort(l, v), toldEffort(l, v).float())
		v = math.Min(l.Power/l.Grip, 200)
		checkFloat(t, "power by v is grip", impl.Effort(l, v), toldEffort(l, v).float())
	}
	for _, v := range beyond(0, 200) {
		checkFloat(t, "no speed", impl.Effort(aLoco(), v), 0)
	}
	for _, l := range wrongLocos() {
		checkFloat(t, "no locomotive", impl.Effort(l, 4), 0)
		checkFloat(t, "no locomotive at rest", impl.Effort(l, 0), 0)
	}
}

func TestWeigh(t *testing.T) {
	checkFloat(t, "one", impl.Weigh([]impl.Car{aCar()}), 10)
	checkFloat(t, "two", impl.Weigh([]impl.Car{aCar(), aCar()}), 20)
	checkFloat(t, "longest", impl.Weigh(slices.Repeat([]impl.Car{{Mass: 5000}}, impl.MaxCars)), 200000)
	for _, cars := range wrongTrains() {
		checkFloat(t, "no train of cars", impl.Weigh(cars), 0)
	}
	d := &dice{state: 44}
	hangs := false
	for range 1000 {
		cars := someCars(d)
		back := slices.Clone(cars)
		slices.Reverse(back)
		checkFloat(t, "thrown", impl.Weigh(cars), toldWeigh(cars).float())
		hangs = hangs || impl.Weigh(cars) != impl.Weigh(back)
	}
	if !hangs {
		t.Error("no train tells the order of the sum")
	}
}

func TestDrag(t *testing.T) {
	cars := []impl.Car{aCar(), aCar()}
	checkFloat(t, "up", impl.Drag(cars, 4, 0.5), 24)
	checkFloat(t, "down", impl.Drag(cars, 4, -0.5), 4)
	checkFloat(t, "steep down", impl.Drag(cars, 4, -1), -6)
	checkFloat(t, "level", impl.Drag(cars, 4, 0), 14)
	checkFloat(t, "level below", impl.Drag(cars, 4, noughtBelow), 14)
	checkFloat(t, "longest", impl.Drag(slices.Repeat([]impl.Car{{Mass: 5000, A: 1000, B: 100, C: 100}}, impl.MaxCars), 200, 1), 40*4026000)
	free := impl.Car{Mass: 1, A: noughtBelow, B: 1, C: noughtBelow}
	checkFloat(t, "a sum begins at +0", impl.Drag([]impl.Car{free, free}, noughtBelow, noughtBelow), 0)
	for _, cars := range wrongTrains() {
		checkFloat(t, "no train of cars", impl.Drag(cars, 4, 0.5), 0)
	}
	for _, v := range beyond(0, 200) {
		checkFloat(t, "no speed", impl.Drag(cars, v, 0.5), 0)
	}
	for _, slope := range beyond(-1, 1) {
		checkFloat(t, "no slope", impl.Drag(cars, 4, slope), 0)
	}
}

func TestDragHangsOnItsOrder(t *testing.T) {
	d := &dice{state: 45}
	apart, behind := false, false
	for range 1500 {
		cars, v, slope := someCars(d), thrown(d, 0, 200), thrown(d, -1, 1)
		got := impl.Drag(cars, v, slope)
		checkFloat(t, "thrown", got, toldDrag(cars, v, slope).float())
		resists, slopes, paired := tell(0), tell(0), tell(0)
		for _, c := range cars {
			weight := tell(c.Mass).times(tell(slope))
			resists, slopes = resists.plus(toldResist(c, v)), slopes.plus(weight)
			paired = paired.plus(toldResist(c, v).plus(weight))
		}
		apart = apart || got != resists.plus(slopes).float()
		behind = behind || got != paired.float()
	}
	if !apart || !behind {
		t.Error("no train tells the order of the sum")
	}
}

func TestPull(t *testing.T) {
	cars := []impl.Car{aCar(), aCar()}
	checkFloat(t, "up", impl.Pull(aLoco(), cars, 4, 0, 2), 4.6)
	checkFloat(t, "no span", impl.Pull(aLoco(), cars, 4, 1, 0), 4)
	checkFloat(t, "no span below", impl.Pull(aLoco(), cars, 4, 1, noughtBelow), 4)
	checkFloat(t, "pulled back", impl.Pull(aLoco(), cars, 0, 1, 10), 0)
	checkFloat(t, "pulled back from 4", impl.Pull(aLoco(), cars, 4, 1, 10), 0)
	checkFloat(t, "from a nought below without a span", impl.Pull(aLoco(), cars, noughtBelow, 0, noughtBelow), 0)
	checkFloat(t, "from a nought below with a fall", impl.Pull(aLoco(), cars, noughtBelow, 1, noughtBelow), 0)
	checkFloat(t, "from 200", impl.Pull(impl.Loco{Power: 100000, Grip: 10000}, []impl.Car{{Mass: 1}}, 200, -1, 10), 200)
	checkFloat(t, "to 200", impl.Pull(impl.Loco{Power: 100000, Grip: 10000}, []impl.Car{{Mass: 1}}, 0, 0, 10), 200)
	// 20 on a mass of 1 in 10 is just 200, and in a little less it is a little less.
	strong := impl.Loco{Power: 100, Grip: 20}
	checkFloat(t, "just 200", impl.Pull(strong, []impl.Car{{Mass: 1}}, 0, 0, 10), 200)
	if v := impl.Pull(strong, []impl.Car{{Mass: 1}}, 0, 0, math.Nextafter(10, 0)); !(v < 200 && v > 199) {
		t.Errorf("just below 200: %v", v)
	}
	// A drag of 21 against 20: one is lost in a span of 1.
	checkFloat(t, "just 0", impl.Pull(strong, []impl.Car{{Mass: 1, A: 21}}, 1, 0, 1), 0)
	if v := impl.Pull(strong, []impl.Car{{Mass: 1, A: 21}}, 1, 0, math.Nextafter(1, 0)); !(v > 0 && v < 1e-15) {
		t.Errorf("just above 0: %v", v)
	}
	d := &dice{state: 46}
	for range 3000 {
		l, cars, v, slope, span := someLoco(d), someCars(d), thrown(d, 0, 200), thrown(d, -1, 1), thrown(d, 0, 10)/float64(1+d.below(50))
		checkFloat(t, "thrown", impl.Pull(l, cars, v, slope, span), toldPull(l, cars, v, slope, span))
	}
}

func TestPullOfWrongOnes(t *testing.T) {
	right := []impl.Car{aCar()}
	for _, l := range wrongLocos() {
		checkFloat(t, "no locomotive", impl.Pull(l, right, 4, 0, 2), 0)
	}
	for _, cars := range wrongTrains() {
		checkFloat(t, "no train of cars", impl.Pull(aLoco(), cars, 4, 0, 2), 0)
	}
	for _, v := range beyond(0, 200) {
		checkFloat(t, "no speed", impl.Pull(aLoco(), right, v, -1, 2), 0)
	}
	for _, slope := range beyond(-1, 1) {
		checkFloat(t, "no slope", impl.Pull(aLoco(), right, 4, slope, 2), 0)
	}
	for _, span := range beyond(0, 10) {
		checkFloat(t, "no span", impl.Pull(aLoco(), right, 4, 0, span), 0)
	}
	for _, v := range edges(0, 200) {
		if impl.Pull(aLoco(), right, v, -1, 0.01) == 0 || impl.Pull(aLoco(), right, v, 1, 0.01) == 0 {
			t.Errorf("from %v", v)
		}
	}
	for _, span := range edges(0, 10) {
		if impl.Pull(aLoco(), right, 4, 0, span) == 0 {
			t.Errorf("by %v", span)
		}
	}
}

func checkFloats(t *testing.T, what string, got, want []float64) {
	t.Helper()
	if !slices.EqualFunc(got, want, sameFloat) {
		t.Errorf("%s: %v, not %v", what, got, want)
	}
}

func TestRide(t *testing.T) {
	cars := []impl.Car{aCar(), aCar()}
	checkFloats(t, "no span", impl.Ride(aLoco(), cars, 4, []float64{0, 1, -1}, 0), []float64{4, 4, 4})
	checkFloats(t, "two", impl.Ride(aLoco(), cars, 4, []float64{0, 1}, 2), []float64{4.6, impl.Pull(aLoco(), cars, 4.6, 1, 2)})
	checkFloats(t, "no slopes", impl.Ride(aLoco(), cars, 4, nil, 2), nil)
	checkFloats(t, "stays at 0", impl.Ride(aLoco(), cars, noughtBelow, []float64{1, 1, 1}, 10), []float64{0, 0, 0})
	fast := impl.Ride(impl.Loco{Power: 100000, Grip: 10000}, []impl.Car{{Mass: 1}}, 0, make([]float64, impl.MaxSteps), 10)
	checkFloats(t, "stays at 200", fast, slices.Repeat([]float64{200}, impl.MaxSteps))
}

func TestRideIsTheRideOfItsParts(t *testing.T) {
	d := &dice{state: 47}
	for i := range 400 {
		l, cars, v, span := someLoco(d), someCars(d), thrown(d, 0, 200), thrown(d, 0, 10)/float64(1+d.below(50))
		steps := d.below(20)
		if i%40 == 0 {
			steps = impl.MaxSteps
		}
		slopes := someSlopes(d, steps)
		whole := impl.Ride(l, cars, v, slopes, span)
		if len(whole) != len(slopes) {
			t.Fatalf("%d speeds for %d slopes", len(whole), len(slopes))
		}
		at := v
		for k, slope := range slopes {
			at = toldPull(l, cars, at, slope, span)
			checkFloat(t, "step by step", whole[k], at)
			if !(whole[k] >= 0 && whole[k] <= 200) || math.Signbit(whole[k]) {
				t.Errorf("speed %v", whole[k])
			}
		}
		cut := d.below(steps + 1)
		parts := impl.Ride(l, cars, v, slopes[:cut], span)
		if cut > 0 {
			v = parts[cut-1]
		}
		checkFloats(t, "in two parts", append(parts, impl.Ride(l, cars, v, slopes[cut:], span)...), whole)
	}
}

func TestRideOfWrongOnes(t *testing.T) {
	right, slopes := []impl.Car{aCar()}, []float64{0, 0.5}
	for _, l := range wrongLocos() {
		checkFloats(t, "no locomotive", impl.Ride(l, right, 4, slopes, 2), nil)
	}
	for _, cars := range wrongTrains() {
		checkFloats(t, "no train of cars", impl.Ride(aLoco(), cars, 4, slopes, 2), nil)
	}
	for _, v := range beyond(0, 200) {
		checkFloats(t, "no speed", impl.Ride(aLoco(), right, v, slopes, 2), nil)
	}
	for _, span := range beyond(0, 10) {
		checkFloats(t, "no span", impl.Ride(aLoco(), right, 4, slopes, span), nil)
	}
	for _, slope := range beyond(-1, 1) {
		for place := range 3 {
			slopes := []float64{0, 0, 0}
			slopes[place] = slope
			checkFloats(t, "no slope", impl.Ride(aLoco(), right, 4, slopes, 2), nil)
		}
	}
	checkFloats(t, "too many slopes", impl.Ride(aLoco(), right, 4, make([]float64, impl.MaxSteps+1), 2), nil)
	if len(impl.Ride(aLoco(), right, 4, make([]float64, impl.MaxSteps), 2)) != impl.MaxSteps {
		t.Error("as many slopes as may be")
	}
	for _, v := range edges(0, 200) {
		for _, span := range edges(0, 10) {
			if len(impl.Ride(aLoco(), right, v, []float64{-1, 1, noughtBelow}, span)) != 3 {
				t.Errorf("from %v by %v", v, span)
			}
		}
	}
}

func TestBalance(t *testing.T) {
	cars := []impl.Car{aCar(), aCar()}
	strongest := impl.Loco{Power: 100000, Grip: 10000}
	for _, row := range []struct {
		what  string
		l     impl.Loco
		cars  []impl.Car
		slope float64
		want  int
	}{
		{"on the level", aLoco(), cars, 0, 5},
		{"nowhere", aLoco(), cars, 1, -1},
		// at 7: 100 by 7 against 2 (1 + 3.5 + 12.25 - 10) = 13.5; at 8: 12.5 against 22
		{"steep down", aLoco(), cars, -1, 7},
		{"at 200", strongest, []impl.Car{{Mass: 1}}, 0, 200},
		{"just at 200", strongest, []impl.Car{{Mass: 1, A: 500}}, 0, 200},
		{"just not at 200", strongest, []impl.Car{{Mass: 1, A: math.Nextafter(500, 501)}}, 0, 199},
		{"just at 0", aLoco(), []impl.Car{{Mass: 1, A: 20, B: 1}}, 0, 0},
		{"just not at 0", aLoco(), []impl.Car{{Mass: 1, A: math.Nextafter(20, 21), B: 1}}, 0, -1},
		{"just at 5", aLoco(), []impl.Car{{Mass: 1, A: 20}}, 0, 5},
		{"weakest", impl.Loco{Power: 1, Grip: 1}, []impl.Car{{Mass: 1}}, 1, 1},
		{"longest", strongest, slices.Repeat([]impl.Car{{Mass: 5000}}, impl.MaxCars), 0.05, 10},
	} {
		if got := impl.Balance(row.l, row.cars, row.slope); got != row.want {
			t.Errorf("%s: %d, not %d", row.what, got, row.want)
		}
	}
}

func TestBalanceIsTheGreatest(t *testing.T) {
	d := &dice{state: 48}
	seen := map[bool]int{}
	for range 400 {
		l, cars, slope := someLoco(d), someCars(d), someSlopes(d, 1)[0]
		got := impl.Balance(l, cars, slope)
		for v := range 201 {
			enough := !toldDrag(cars, float64(v), slope).above(toldEffort(l, float64(v)))
			if v == got && !enough || v > got && enough {
				t.Fatalf("%v %v %v: balance %d, at %d enough: %v", l, cars, slope, got, v, enough)
			}
		}
		seen[got < 0]++
		if steeper := thrown(d, slope, 1); impl.Balance(l, cars, steeper) > got {
			t.Errorf("%v %v: balance on %v above the one on %v", l, cars, steeper, slope)
		}
	}
	if seen[true] < 50 || seen[false] < 50 {
		t.Errorf("with and without a balance: %v", seen)
	}
}

func TestBalanceOfWrongOnes(t *testing.T) {
	right := []impl.Car{aCar()}
	for _, l := range wrongLocos() {
		// Downhill no effort at all would be enough.
		if impl.Balance(l, right, 0) != -1 || impl.Balance(l, right, -1) != -1 {
			t.Errorf("%v has a balance", l)
		}
	}
	for _, cars := range wrongTrains() {
		if impl.Balance(aLoco(), cars, 0) != -1 || impl.Balance(aLoco(), cars, -1) != -1 {
			t.Errorf("%v have a balance", cars)
		}
	}
	for _, slope := range beyond(-1, 1) {
		if got := impl.Balance(aLoco(), right, slope); got != -1 {
			t.Errorf("%v: %d", slope, got)
		}
	}
}

func TestJoules(t *testing.T) {
	checkFloat(t, "two", impl.Joules(aLoco(), []float64{4, 10}, 2), 360)
	checkFloat(t, "none", impl.Joules(aLoco(), nil, 2), 0)
	checkFloat(t, "at rest", impl.Joules(aLoco(), []float64{0, noughtBelow}, 2), 0)
	checkFloat(t, "a sum begins at +0", impl.Joules(aLoco(), []float64{noughtBelow}, 2), 0)
	checkFloat(t, "a span below", impl.Joules(aLoco(), []float64{4}, noughtBelow), 0)
	checkFloat(t, "as many as may be", impl.Joules(aLoco(), slices.Repeat([]float64{4}, impl.MaxSteps), 2), 32000)
	checkFloat(t, "too many", impl.Joules(aLoco(), slices.Repeat([]float64{4}, impl.MaxSteps+1), 2), 0)
	d := &dice{state: 49}
	first, later := false, false
	for range 1000 {
		l, span, speeds := someLoco(d), thrown(d, 0, 10), make([]float64, d.below(12))
		for i := range speeds {
			speeds[i] = thrown(d, 0, 200)
		}
		got := impl.Joules(l, speeds, span)
		checkFloat(t, "thrown", got, toldJoules(l, speeds, span).float())
		sum, once := tell(0), tell(0)
		for _, v := range speeds {
			sum = sum.plus(toldEffort(l, v).times(tell(v).times(tell(span))))
			once = once.plus(toldEffort(l, v).times(tell(v)))
		}
		first, later = first || got != sum.float(), later || got != once.times(tell(span)).float()
	}
	if !first || !later {
		t.Error("no speeds tell the order of the products")
	}
}

func TestJoulesOfWrongOnes(t *testing.T) {
	for _, l := range wrongLocos() {
		checkFloat(t, "no locomotive", impl.Joules(l, []float64{4, 10}, 2), 0)
	}
	for _, v := range beyond(0, 200) {
		for place := range 3 {
			speeds := []float64{4, 10, 4}
			speeds[place] = v
			checkFloat(t, "no speed", impl.Joules(aLoco(), speeds, 2), 0)
		}
	}
	for _, span := range beyond(0, 10) {
		checkFloat(t, "no span", impl.Joules(aLoco(), []float64{4, 10}, span), 0)
	}
	for _, span := range edges(0, 10)[1:5] {
		if impl.Joules(aLoco(), []float64{200}, span) == 0 {
			t.Errorf("span %v", span)
		}
	}
}

func TestPullingLeavesItsArguments(t *testing.T) {
	d := &dice{state: 50}
	for range 50 {
		l, cars, slopes := someLoco(d), someCars(d), someSlopes(d, 5)
		carsAsGiven, slopesAsGiven := slices.Clone(cars), slices.Clone(slopes)
		speeds := impl.Ride(l, cars, 4, slopes, 1)
		again := slices.Clone(speeds)
		impl.Weigh(cars)
		impl.Drag(cars, 4, 0)
		impl.Pull(l, cars, 4, 0, 1)
		impl.Balance(l, cars, 0)
		impl.Joules(l, speeds, 1)
		if !slices.Equal(cars, carsAsGiven) || !slices.Equal(slopes, slopesAsGiven) || !slices.Equal(speeds, again) {
			t.Fatal("an argument was written into")
		}
		clear(speeds)
		if !slices.Equal(slopes, slopesAsGiven) || !slices.Equal(impl.Ride(l, cars, 4, slopes, 1), again) {
			t.Fatal("an answer shares memory or is kept")
		}
	}
}

func TestPullingNeverPanics(t *testing.T) {
	floats := append(noFloats(), 0, noughtBelow, 1, -1, 5, 200, 1e-320, math.SmallestNonzeroFloat64)
	d := &dice{state: 51}
	one := func() float64 { return floats[d.below(len(floats))] }
	for range 5000 {
		c, l := impl.Car{Mass: one(), A: one(), B: one(), C: one()}, impl.Loco{Power: one(), Grip: one()}
		list := []float64{one(), one()}[:d.below(3)]
		cars := []impl.Car{c, aCar()}[:d.below(3)]
		if panicsIn(func() {
			impl.Resist(c, one())
			impl.Effort(l, one())
			impl.Weigh(cars)
			impl.Drag(cars, one(), one())
			impl.Pull(l, cars, one(), one(), one())
			impl.Ride(l, cars, one(), list, one())
			impl.Balance(l, cars, one())
			impl.Joules(l, list, one())
		}) {
			t.Fatalf("panics with %v %v %v", c, l, list)
		}
	}
}
