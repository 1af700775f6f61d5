package tests

import (
	"math"
	"math/big"
	"slices"
	"sync"
	"testing"

	"loop.example/g00075/impl"
)

const (
	greatestFloat = math.MaxFloat64
	leastFloat    = math.SmallestNonzeroFloat64
)

var (
	noNumber = math.NaN()
	endless  = math.Inf(1)
)

func zed(re, im float64) impl.Z {
	return impl.Z{Re: re, Im: im}
}

// reals gives numbers without an Im.
func reals(parts ...float64) []impl.Z {
	var list []impl.Z
	for _, re := range parts {
		list = append(list, zed(re, 0))
	}
	return list
}

func sameZ(a, b impl.Z) bool {
	return sameFloat(a.Re, b.Re) && sameFloat(a.Im, b.Im)
}

// zBits tells apart even what no number is, so that a list can be seen to be just as it was.
func zBits(list []impl.Z) []uint64 {
	var bits []uint64
	for _, z := range list {
		bits = append(bits, math.Float64bits(z.Re), math.Float64bits(z.Im))
	}
	return bits
}

func checkZ(t *testing.T, what string, got, want impl.Z) {
	t.Helper()
	if !sameZ(got, want) {
		t.Errorf("%s: %v (%x), not %v (%x)", what, got, zBits([]impl.Z{got}), want, zBits([]impl.Z{want}))
	}
}

func checkZs(t *testing.T, what string, got, want []impl.Z) {
	t.Helper()
	if !slices.EqualFunc(got, want, sameZ) {
		t.Errorf("%s: %v, not %v", what, got, want)
	}
}

func signed(x float64, below bool) float64 {
	if below {
		return -x
	}
	return x
}

func isEndless(x float64) bool {
	return math.IsInf(x, 0)
}

// sumByRules is worked out exactly and rounded once; what is no number, endless or nought is told case by case.
func sumByRules(x, y float64) float64 {
	switch {
	case math.IsNaN(x) || math.IsNaN(y):
		return noNumber
	case isEndless(x) && isEndless(y) && math.Signbit(x) != math.Signbit(y):
		return noNumber
	case isEndless(x):
		return x
	case isEndless(y):
		return y
	case x == 0 && y == 0:
		return signed(0, math.Signbit(x) && math.Signbit(y))
	case x == -y:
		return 0
	}
	exact := new(big.Float).SetPrec(2200).Add(big.NewFloat(x), big.NewFloat(y))
	sum, _ := exact.Float64()
	return sum
}

func lessByRules(x, y float64) float64 {
	return sumByRules(x, -y)
}

func productByRules(x, y float64) float64 {
	below := math.Signbit(x) != math.Signbit(y)
	switch {
	case math.IsNaN(x) || math.IsNaN(y):
		return noNumber
	case isEndless(x) && y == 0 || x == 0 && isEndless(y):
		return noNumber
	case isEndless(x) || isEndless(y):
		return signed(endless, below)
	case x == 0 || y == 0:
		return math.Copysign(0, signed(1, below))
	}
	exact := new(big.Float).SetPrec(106).Mul(big.NewFloat(x), big.NewFloat(y))
	product, _ := exact.Float64()
	return product
}

func quotientByRules(x, y float64) float64 {
	below := math.Signbit(x) != math.Signbit(y)
	switch {
	case math.IsNaN(x) || math.IsNaN(y):
		return noNumber
	case isEndless(x) && isEndless(y) || x == 0 && y == 0:
		return noNumber
	case isEndless(x) || y == 0:
		return signed(endless, below)
	case x == 0 || isEndless(y):
		return math.Copysign(0, signed(1, below))
	}
	exact := new(big.Rat).Quo(new(big.Rat).SetFloat64(x), new(big.Rat).SetFloat64(y))
	quotient, _ := exact.Float64()
	// A fraction has no nought below.
	return math.Copysign(quotient, signed(1, below))
}

func zAddByWords(a, b impl.Z) impl.Z {
	return zed(sumByRules(a.Re, b.Re), sumByRules(a.Im, b.Im))
}

func zLessByWords(a, b impl.Z) impl.Z {
	return zed(lessByRules(a.Re, b.Re), lessByRules(a.Im, b.Im))
}

func zMulByWords(a, b impl.Z) impl.Z {
	re := lessByRules(productByRules(a.Re, b.Re), productByRules(a.Im, b.Im))
	return zed(re, sumByRules(productByRules(a.Re, b.Im), productByRules(a.Im, b.Re)))
}

func zSizeByWords(a impl.Z) float64 {
	return sumByRules(productByRules(a.Re, a.Re), productByRules(a.Im, a.Im))
}

func zDivByWords(a, b impl.Z) impl.Z {
	re := sumByRules(productByRules(a.Re, b.Re), productByRules(a.Im, b.Im))
	im := lessByRules(productByRules(a.Im, b.Re), productByRules(a.Re, b.Im))
	return zed(quotientByRules(re, zSizeByWords(b)), quotientByRules(im, zSizeByWords(b)))
}

// currentByWords asks the next one for its sum.
func currentByWords(draw []impl.Z, k int) impl.Z {
	if k == len(draw)-1 {
		return draw[k]
	}
	return zAddByWords(draw[k], currentByWords(draw, k+1))
}

func sumsByWords(draw []impl.Z) []impl.Z {
	var sums []impl.Z
	if len(draw) <= 40 {
		for k := range draw {
			sums = append(sums, currentByWords(draw, k))
		}
	}
	return sums
}

func wireByWords(line, draw []impl.Z) bool {
	return len(line) == len(draw) && len(draw) < 41
}

func voltsByWords(volt impl.Z, line, draw []impl.Z) []impl.Z {
	if !wireByWords(line, draw) {
		return nil
	}
	volts := []impl.Z{volt}
	for k := range line {
		volts = append(volts, zLessByWords(volts[k], zMulByWords(line[k], currentByWords(draw, k))))
	}
	return volts[1:]
}

func lossesByWords(line, draw []impl.Z) float64 {
	sum := 0.0
	if wireByWords(line, draw) {
		for k := range line {
			sum = sumByRules(sum, productByRules(zSizeByWords(currentByWords(draw, k)), line[k].Re))
		}
	}
	return sum
}

// lowestByWords holds each size against all others.
func lowestByWords(volts []impl.Z) int {
	if len(volts) > 40 {
		return -1
	}
	return slices.IndexFunc(volts, func(v impl.Z) bool {
		size := zSizeByWords(v)
		beaten := slices.ContainsFunc(volts, func(other impl.Z) bool { return zSizeByWords(other) < size })
		return !math.IsNaN(size) && !beaten
	})
}

func fedByWords(volts []impl.Z, least float64) bool {
	square := productByRules(least, least)
	for _, v := range volts {
		size := zSizeByWords(v)
		if math.IsNaN(size) || math.IsNaN(square) || size < square {
			return false
		}
	}
	return len(volts) <= 40
}

func sectionsByWords(feed []int, closed []bool) bool {
	if len(feed) > 40 || slices.ContainsFunc(feed, func(phase int) bool { return phase < 0 || phase > 3 }) {
		return false
	}
	return len(feed) == 0 && len(closed) == 0 || len(feed) == len(closed)+1
}

// phasesByWords asks for each two sections whether all gaps between them are closed.
func phasesByWords(feed []int, closed []bool) []int {
	if !sectionsByWords(feed, closed) {
		return nil
	}
	phases := make([]int, len(feed))
	for i := range feed {
		fedBy := map[int]bool{}
		for j, phase := range feed {
			if phase != 0 && !slices.Contains(closed[min(i, j):max(i, j)], false) {
				fedBy[phase] = true
				phases[i] = phase
			}
		}
		if len(fedBy) > 1 {
			phases[i] = 4
		}
	}
	return phases
}

func checkPair(t *testing.T, a, b impl.Z) {
	t.Helper()
	checkZ(t, "sum", impl.ZAdd(a, b), zAddByWords(a, b))
	checkZ(t, "product", impl.ZMul(a, b), zMulByWords(a, b))
	checkZ(t, "quotient", impl.ZDiv(a, b), zDivByWords(a, b))
	if t.Failed() {
		t.Fatalf("of %v and %v", a, b)
	}
}

// checkWire holds all that is told of a wire against the words, and the lists against what they were.
func checkWire(t *testing.T, volt impl.Z, line, draw []impl.Z) {
	t.Helper()
	lineWas, drawWas := zBits(line), zBits(draw)
	checkZs(t, "sums", impl.Sums(draw), sumsByWords(draw))
	checkZs(t, "volts", impl.Volts(volt, line, draw), voltsByWords(volt, line, draw))
	checkFloat(t, "losses", impl.Losses(line, draw), lossesByWords(line, draw))
	if !slices.Equal(zBits(line), lineWas) || !slices.Equal(zBits(draw), drawWas) {
		t.Errorf("written into")
	}
	if t.Failed() {
		t.Fatalf("of %v, %v, %v", volt, line, draw)
	}
}

func checkLowest(t *testing.T, what string, volts []impl.Z, want int) {
	t.Helper()
	was := zBits(volts)
	got := impl.Lowest(volts)
	if got != want || lowestByWords(volts) != want {
		t.Errorf("%s: Lowest(%v) is %d, not %d (by words %d)", what, volts, got, want, lowestByWords(volts))
	}
	if !slices.Equal(zBits(volts), was) {
		t.Errorf("%s: written into", what)
	}
}

func checkFed(t *testing.T, what string, volts []impl.Z, least float64, want bool) {
	t.Helper()
	was := zBits(volts)
	got := impl.Fed(volts, least)
	if got != want || fedByWords(volts, least) != want {
		t.Errorf("%s: Fed(%v, %v) is %v, not %v (by words %v)", what, volts, least, got, want, fedByWords(volts, least))
	}
	if !slices.Equal(zBits(volts), was) {
		t.Errorf("%s: written into", what)
	}
}

func checkPhases(t *testing.T, feed []int, closed []bool) []int {
	t.Helper()
	feedWas, closedWas := slices.Clone(feed), slices.Clone(closed)
	got := impl.Phases(feed, closed)
	if want := phasesByWords(feed, closed); !slices.Equal(got, want) {
		t.Fatalf("Phases(%v, %v): %v, not %v", feed, closed, got, want)
	}
	if !slices.Equal(feed, feedWas) || !slices.Equal(closed, closedWas) {
		t.Fatalf("Phases(%v, %v): written into", feedWas, closedWas)
	}
	return got
}

// oddFloats are those at which an operation may be another than on ordinary numbers, and some ordinary ones.
func oddFloats() []float64 {
	return []float64{
		0, noughtBelow, noNumber, endless, -endless, greatestFloat, -greatestFloat, leastFloat, -leastFloat,
		1, -3, 0.1, 1e200, -1e-200,
	}
}

func oddZs() []impl.Z {
	var list []impl.Z
	for _, re := range oddFloats() {
		for _, im := range oddFloats() {
			list = append(list, zed(re, im))
		}
	}
	return list
}

// anyBits gives a float of any size.
func anyBits(d *dice) float64 {
	return math.Float64frombits(uint64(d.below(1<<31))<<33 ^ uint64(d.below(1<<31))<<11 ^ uint64(d.below(1<<31)))
}

// someFloat gives mostly numbers of one size, whose sums hang on each bit, and now and then an odd one.
func someFloat(d *dice, odd bool) float64 {
	switch d.below(12) {
	case 0, 1:
		if odd {
			return oddFloats()[d.below(len(oddFloats()))]
		}
	case 2:
		if odd {
			return anyBits(d)
		}
	case 3:
		return float64(d.below(9) - 4)
	}
	return thrown(d, -50, 50)
}

func someZ(d *dice, odd bool) impl.Z {
	return zed(someFloat(d, odd), someFloat(d, odd))
}

func someZs(d *dice, count int, odd bool) []impl.Z {
	list := make([]impl.Z, count)
	for k := range list {
		list[k] = someZ(d, odd)
	}
	return list
}

func someFeed(d *dice, count, fed int) []int {
	feed := make([]int, count)
	for k := range feed {
		if d.below(fed) == 0 {
			feed[k] = 1 + d.below(3)
		}
	}
	return feed
}

func someClosed(d *dice, count, open int) []bool {
	closed := make([]bool, count)
	for k := range closed {
		closed[k] = d.below(open) != 0
	}
	return closed
}

func allClosed(count int) []bool {
	return slices.Repeat([]bool{true}, count)
}

// manyTaps gives a list of numbers of which no two are alike.
func manyTaps(count int) []impl.Z {
	list := make([]impl.Z, count)
	for k := range list {
		list[k] = zed(float64(k+1), float64(-2*k-1))
	}
	return list
}

func TestWireConstants(t *testing.T) {
	if impl.MaxTaps != 40 {
		t.Error("MaxTaps", impl.MaxTaps)
	}
}

// TestFloatsByRules holds the rules of this file against what is known of floats.
func TestFloatsByRules(t *testing.T) {
	for _, row := range []struct {
		what      string
		got, want float64
	}{
		{"noughts", sumByRules(noughtBelow, noughtBelow), noughtBelow},
		{"noughts of both kinds", sumByRules(noughtBelow, 0), 0},
		{"a nought of itself", lessByRules(noughtBelow, noughtBelow), 0},
		{"a nought below less one above", lessByRules(noughtBelow, 0), noughtBelow},
		{"what is left of nothing", lessByRules(5, 5), 0},
		{"a tie", sumByRules(1<<53, 1), 1 << 53},
		{"the other tie", sumByRules(1<<53+2, 1), 1<<53 + 4},
		{"too great", sumByRules(greatestFloat, greatestFloat), endless},
		{"endless of endless", lessByRules(endless, endless), noNumber},
		{"a product too small", productByRules(leastFloat, -0.5), noughtBelow},
		{"a product that is just there", productByRules(leastFloat, 0.75), leastFloat},
		{"a product too great", productByRules(greatestFloat, -2), -endless},
		{"endless times nothing", productByRules(endless, 0), noNumber},
		{"by nothing", quotientByRules(-1, 0), -endless},
		{"by a nought below", quotientByRules(-1, noughtBelow), endless},
		{"nothing by nothing", quotientByRules(0, noughtBelow), noNumber},
		{"by endless", quotientByRules(-1, endless), noughtBelow},
		{"down to nothing", quotientByRules(-leastFloat, greatestFloat), noughtBelow},
		{"a third", quotientByRules(1, 3), 1.0 / 3},
	} {
		checkFloat(t, row.what, row.got, row.want)
	}
}

func TestZAddByHand(t *testing.T) {
	for _, row := range []struct {
		what       string
		a, b, want impl.Z
	}{
		{"ordinary", zed(1, 2), zed(3, -1), zed(4, 1)},
		{"noughts below", zed(noughtBelow, noughtBelow), zed(noughtBelow, noughtBelow), zed(noughtBelow, noughtBelow)},
		{"noughts of both kinds", zed(noughtBelow, 0), zed(0, noughtBelow), zed(0, 0)},
		{"a nought below in one part", zed(noughtBelow, 0), zed(noughtBelow, 0), zed(noughtBelow, 0)},
		{"what is left of nothing", zed(5, -5), zed(-5, 5), zed(0, 0)},
		{"no number in Re", zed(noNumber, 1), zed(2, 3), zed(noNumber, 4)},
		{"no number in Im", zed(1, 2), zed(3, noNumber), zed(4, noNumber)},
		{"endless", zed(endless, -endless), zed(1, 1), zed(endless, -endless)},
		{"endless against endless", zed(endless, -endless), zed(-endless, -endless), zed(noNumber, -endless)},
		{"too great", zed(greatestFloat, 1), zed(greatestFloat, -greatestFloat), zed(endless, -greatestFloat)},
		{"too great below", zed(0, -greatestFloat), zed(0, -greatestFloat), zed(0, -endless)},
		{"the least", zed(leastFloat, -leastFloat), zed(leastFloat, leastFloat), zed(2*leastFloat, 0)},
		{"lost behind the other", zed(1<<53, 1), zed(1, -1<<53), zed(1<<53, 1-1<<53)},
	} {
		checkZ(t, row.what, impl.ZAdd(row.a, row.b), row.want)
		checkZ(t, row.what+" the other way", impl.ZAdd(row.b, row.a), row.want)
	}
}

func TestZMulByHand(t *testing.T) {
	for _, row := range []struct {
		what       string
		a, b, want impl.Z
	}{
		{"ordinary", zed(1, 2), zed(3, -1), zed(5, 5)},
		{"i by i", zed(0, 1), zed(0, 1), zed(-1, 0)},
		{"real ones", zed(2, 0), zed(-3, 0), zed(-6, 0)},
		{"a nought below in Re", zed(noughtBelow, 0), zed(1, 0), zed(noughtBelow, 0)},
		{"noughts below", zed(noughtBelow, noughtBelow), zed(1, 1), zed(0, noughtBelow)},
		{"noughts", zed(0, 0), zed(1, 1), zed(0, 0)},
		{"noughts against below", zed(0, 0), zed(-1, 1), zed(noughtBelow, 0)},
		{"a nought below in Im", zed(1, noughtBelow), zed(1, noughtBelow), zed(1, noughtBelow)},
		{"endless Re", zed(endless, 0), zed(1, 0), zed(endless, noNumber)},
		{"endless Im", zed(0, endless), zed(1, 0), zed(noNumber, endless)},
		{"endless by ones", zed(endless, 1), zed(1, 1), zed(endless, endless)},
		{"endless both", zed(endless, endless), zed(1, 1), zed(noNumber, endless)},
		{"no number", zed(noNumber, 1), zed(1, 1), zed(noNumber, noNumber)},
		{"too great", zed(1e200, 0), zed(1e200, 0), zed(endless, 0)},
		{"too great in all parts", zed(1e200, 1e200), zed(1e200, 1e200), zed(noNumber, endless)},
		{"too great, less as much", zed(1e200, 1e200), zed(1e200, -1e200), zed(endless, noNumber)},
		{"too great below", zed(1e200, 1), zed(-1e200, 1), zed(-endless, 0)},
		{"down to nothing", zed(1e-200, 0), zed(1e-200, 0), zed(0, 0)},
		{"down to nothing below", zed(-1e-200, 0), zed(1e-200, 0), zed(noughtBelow, 0)},
		{"a half of the least", zed(leastFloat, 0), zed(0.5, 0), zed(0, 0)},
		{"most of the least", zed(leastFloat, 0), zed(0.75, 0), zed(leastFloat, 0)},
		{"the greatest", zed(greatestFloat, 0), zed(1, 0), zed(greatestFloat, 0)},
	} {
		checkZ(t, row.what, impl.ZMul(row.a, row.b), row.want)
		checkZ(t, row.what+" the other way", impl.ZMul(row.b, row.a), row.want)
	}
}

// TestZIsNotFused takes products whose last bits are lost: where one is fused with the other, they are all that is left.
func TestZIsNotFused(t *testing.T) {
	a, square := 1+1.0/(1<<30), 1+1.0/(1<<29)
	checkZ(t, "the first of Re", impl.ZMul(zed(a, square), zed(a, 1)), zed(0, a+productByRules(square, a)))
	checkZ(t, "the second of Re", impl.ZMul(zed(square, a), zed(1, a)), zed(0, productByRules(square, a)+a))
	checkZ(t, "the first of Im", impl.ZMul(zed(a, -1), zed(square, a)), zed(productByRules(a, square)+a, 0))
	checkZ(t, "the second of Im", impl.ZMul(zed(-1, a), zed(a, square)), zed(-a-productByRules(a, square), 0))
	checkFloat(t, "a size", impl.ZSize(zed(a, 1.0/(1<<29))), square)
	checkFloat(t, "a size the other way", impl.ZSize(zed(1.0/(1<<29), a)), square)
	checkZ(t, "the first of a quotient", impl.ZDiv(zed(a, -square), zed(a, 1)), zDivByWords(zed(a, -square), zed(a, 1)))
	if impl.ZDiv(zed(a, -square), zed(a, 1)).Re != 0 || impl.ZDiv(zed(square, a), zed(a, 1)).Im != 0 {
		t.Error("a quotient is fused")
	}
	line, draw := []impl.Z{zed(a, 0)}, []impl.Z{zed(a, 0)}
	checkZs(t, "volts", impl.Volts(zed(square, 0), line, draw), reals(0))
	third := 1.0 / 3
	line, draw = reals(third, third, third), reals(third, third, third)
	checkFloat(t, "losses", impl.Losses(line, draw), lossesByWords(line, draw))
}

func TestZSizeByHand(t *testing.T) {
	for _, row := range []struct {
		what string
		a    impl.Z
		want float64
	}{
		{"ordinary", zed(1, 2), 5},
		{"below", zed(-3, -4), 25},
		{"nothing", zed(0, 0), 0},
		{"noughts below", zed(noughtBelow, noughtBelow), 0},
		{"endless", zed(-endless, 1), endless},
		{"endless in Im", zed(1, -endless), endless},
		{"no number", zed(noNumber, 1), noNumber},
		{"no number in Im", zed(1, noNumber), noNumber},
		{"no number beside endless", zed(endless, noNumber), noNumber},
		{"endless beside no number", zed(noNumber, -endless), noNumber},
		{"too great", zed(1e200, 1), endless},
		{"too great as a sum", zed(1.3e154, 1.3e154), endless},
		{"not yet too great", zed(1.3e154, 0), productByRules(1.3e154, 1.3e154)},
		{"down to nothing", zed(1e-200, -1e-200), 0},
		{"the least", zed(leastFloat, leastFloat), 0},
		{"the greatest", zed(greatestFloat, 0), endless},
	} {
		checkFloat(t, row.what, impl.ZSize(row.a), row.want)
	}
}

func TestZDivByHand(t *testing.T) {
	for _, row := range []struct {
		what       string
		a, b, want impl.Z
	}{
		{"ordinary", zed(1, 2), zed(3, -1), zed(0.1, 0.7)},
		{"by itself", zed(3, 4), zed(3, 4), zed(1, 0)},
		{"by i", zed(1, 2), zed(0, 1), zed(2, -1)},
		{"by nothing", zed(1, 1), zed(0, 0), zed(noNumber, noNumber)},
		{"nothing by nothing", zed(0, 0), zed(0, noughtBelow), zed(noNumber, noNumber)},
		{"endless by nothing", zed(endless, 1), zed(0, 0), zed(noNumber, noNumber)},
		{"by a size of 0", zed(1, -2), zed(1e-200, 0), zed(endless, -endless)},
		{"nothing by a size of 0", zed(0, 0), zed(1e-200, 0), zed(noNumber, noNumber)},
		{"a real one by a size of 0", zed(1, 0), zed(1e-200, 0), zed(endless, noNumber)},
		{"by the least", zed(-1, 0), zed(leastFloat, 0), zed(-endless, noNumber)},
		{"by an endless size", zed(1, -2), zed(1e200, 0), zed(0, noughtBelow)},
		{"by an endless Im", zed(1, 2), zed(0, 1e200), zed(0, noughtBelow)},
		{"by endless", zed(1, 0), zed(endless, 0), zed(noNumber, noNumber)},
		{"by endless with an Im", zed(1, 1), zed(endless, 1), zed(noNumber, noNumber)},
		{"nothing by endless parts", zed(1e-300, 0), zed(1e300, 1e300), zed(0, noughtBelow)},
		{"endless by ones", zed(endless, 1), zed(1, 1), zed(endless, -endless)},
		{"endless by a real one", zed(endless, 1), zed(2, 0), zed(endless, noNumber)},
		{"no number above", zed(noNumber, 1), zed(2, 0), zed(noNumber, noNumber)},
		{"no number below", zed(1, 1), zed(noNumber, 0), zed(noNumber, noNumber)},
		{"a size of no number", zed(1, 1), zed(endless, noNumber), zed(noNumber, noNumber)},
		{"products too great", zed(1e200, 0), zed(1e150, 0), zed(endless, 0)},
		{"a size too great", zed(greatestFloat, 0), zed(greatestFloat, 0), zed(noNumber, 0)},
		{"products down to nothing", zed(1e-300, 0), zed(1e-100, 0), zed(0, 0)},
		{"a nought below", zed(noughtBelow, noughtBelow), zed(1, 0), zed(noughtBelow, 0)},
		{"noughts below by one below", zed(noughtBelow, noughtBelow), zed(-1, 0), zed(0, 0)},
		{"a nought below in Im", zed(1, noughtBelow), zed(1, 0), zed(1, noughtBelow)},
	} {
		checkZ(t, row.what, impl.ZDiv(row.a, row.b), row.want)
		checkZ(t, row.what+" by words", zDivByWords(row.a, row.b), row.want)
	}
}

// TestZOfAllOddParts has each odd float in either part of either number.
func TestZOfAllOddParts(t *testing.T) {
	for _, a := range oddZs() {
		checkFloat(t, "size", impl.ZSize(a), zSizeByWords(a))
		for _, b := range oddZs() {
			checkPair(t, a, b)
		}
	}
}

func TestZOfManyNumbers(t *testing.T) {
	d := &dice{state: 191}
	for range 8000 {
		checkPair(t, someZ(d, true), someZ(d, true))
		a, b := zed(anyBits(d), anyBits(d)), zed(anyBits(d), anyBits(d))
		checkPair(t, a, b)
		checkFloat(t, "size", impl.ZSize(a), zSizeByWords(a))
	}
}

// TestZDivIsNotByAShorterWay: there are numbers that tell the quotient as told from others that are about as great.
func TestZDivIsNotByAShorterWay(t *testing.T) {
	d := &dice{state: 192}
	own, turned, scaled := 0, 0, 0
	for range 500 {
		a, b := someZ(d, false), someZ(d, false)
		got := impl.ZDiv(a, b)
		q := complex(a.Re, a.Im) / complex(b.Re, b.Im)
		if !sameZ(got, zed(real(q), imag(q))) {
			own++
		}
		if !sameZ(got, impl.ZMul(a, impl.ZDiv(zed(1, 0), b))) {
			turned++
		}
		one := quotientByRules(1, zSizeByWords(b))
		above := zMulByWords(a, zed(b.Re, -b.Im))
		if !sameZ(got, zed(productByRules(above.Re, one), productByRules(above.Im, one))) {
			scaled++
		}
	}
	if own < 50 || turned < 50 || scaled < 50 {
		t.Errorf("told apart: %d, %d, %d", own, turned, scaled)
	}
}

func TestSumsByHand(t *testing.T) {
	for _, row := range []struct {
		what       string
		draw, want []impl.Z
	}{
		{"nil", nil, nil},
		{"none", []impl.Z{}, nil},
		{"two", reals(3, 4), reals(7, 4)},
		{"both parts", []impl.Z{zed(1, 2), zed(10, 20), zed(100, 200)}, []impl.Z{zed(111, 222), zed(110, 220), zed(100, 200)}},
		{"a nought below alone", []impl.Z{zed(noughtBelow, noughtBelow)}, []impl.Z{zed(noughtBelow, noughtBelow)}},
		{"noughts below", []impl.Z{zed(noughtBelow, noughtBelow), zed(noughtBelow, 0)}, []impl.Z{zed(noughtBelow, 0), zed(noughtBelow, 0)}},
		{"a nought behind a nought below", reals(noughtBelow, 0, noughtBelow), reals(0, 0, noughtBelow)},
		{"from the last one on", reals(1, 1<<53, -1<<53), reals(1, 0, -1<<53)},
		{"and not from the first", reals(-1<<53, 1<<53, 1), reals(0, 1<<53, 1)},
		{"Im from the last one on", []impl.Z{zed(0, 1), zed(0, 1<<53), zed(0, -1<<53)}, []impl.Z{zed(0, 1), zed(0, 0), zed(0, -1<<53)}},
		{"no number last", reals(1, 2, noNumber), reals(noNumber, noNumber, noNumber)},
		{"no number between", reals(1, noNumber, 2), reals(noNumber, noNumber, 2)},
		{"no number first", reals(noNumber, 1, 2), reals(noNumber, 3, 2)},
		{"no number in Im", []impl.Z{zed(1, 1), zed(2, noNumber), zed(3, 3)}, []impl.Z{zed(6, noNumber), zed(5, noNumber), zed(3, 3)}},
		{"endless", reals(-endless, 1, endless), reals(noNumber, endless, endless)},
		{"too great", reals(-greatestFloat, greatestFloat, greatestFloat), reals(endless, endless, greatestFloat)},
	} {
		checkZs(t, row.what, impl.Sums(row.draw), row.want)
		checkZs(t, row.what+" by words", sumsByWords(row.draw), row.want)
	}
}

// TestWiresOfEachLength has wires of as many taps as may be, and of more, beside draws of every other length.
func TestWiresOfEachLength(t *testing.T) {
	for count := range 45 {
		draw := manyTaps(count)
		sums, volts := impl.Sums(draw), impl.Volts(zed(100, 5), draw, draw)
		losses := impl.Losses(draw, draw)
		if count > 40 {
			if len(sums) != 0 || len(volts) != 0 || impl.Lowest(draw) != -1 || impl.Fed(draw, 0) {
				t.Errorf("%d taps are too many", count)
			}
			checkFloat(t, "losses of too many", losses, 0)
			continue
		}
		if len(sums) != count || len(volts) != count || !impl.Fed(draw, 0) {
			t.Errorf("%d taps: %d sums, %d volts", count, len(sums), len(volts))
		}
		if (losses > 0) != (count > 0) || (impl.Lowest(draw) == 0) != (count > 0) {
			t.Errorf("%d taps: losses %v, lowest %d", count, losses, impl.Lowest(draw))
		}
		checkWire(t, zed(100, 5), draw, draw)
	}
	for _, count := range []int{100, 1000} {
		if len(impl.Sums(manyTaps(count))) != 0 || len(impl.Volts(zed(1, 1), manyTaps(count), manyTaps(count))) != 0 {
			t.Errorf("%d taps", count)
		}
	}
}

func TestWiresOfDifferentLengths(t *testing.T) {
	for lines := range 43 {
		for draws := range 43 {
			if lines == draws {
				continue
			}
			line, draw := manyTaps(lines), manyTaps(draws)
			if got := impl.Volts(zed(100, 5), line, draw); len(got) != 0 {
				t.Fatalf("%d and %d: %v", lines, draws, got)
			}
			checkFloat(t, "losses", impl.Losses(line, draw), 0)
		}
	}
	for _, none := range [][]impl.Z{nil, {}} {
		checkWire(t, zed(100, 5), none, manyTaps(2))
		checkWire(t, zed(100, 5), manyTaps(2), none)
		checkWire(t, zed(100, 5), none, none)
		checkWire(t, zed(noNumber, 5), none, nil)
		checkWire(t, zed(100, 5), nil, none)
	}
}

func TestVoltsByHand(t *testing.T) {
	for _, row := range []struct {
		what             string
		volt             impl.Z
		line, draw, want []impl.Z
	}{
		{"two", zed(100, 0), reals(1, 2), reals(3, 4), reals(93, 85)},
		{"both parts", zed(100, 10), []impl.Z{zed(1, 2)}, []impl.Z{zed(3, -1)}, []impl.Z{zed(95, 5)}},
		{"a line of its own", zed(100, 0), reals(2, 0, -3), reals(1, 1, 1), reals(94, 94, 97)},
		{"one after the other", zed(1<<53, 0), reals(-1, -1), reals(0, 1), reals(1<<53, 1<<53)},
		{"Im one after the other", zed(0, 1<<53), reals(-1, -1), []impl.Z{zed(0, 0), zed(0, 1)}, []impl.Z{zed(0, 1<<53), zed(0, 1<<53)}},
		{"a volt of nothing", zed(0, noughtBelow), reals(0), reals(0), []impl.Z{zed(0, noughtBelow)}},
		{"noughts below", zed(noughtBelow, 0), reals(noughtBelow), reals(1), reals(0)},
		{"a volt that is no number", zed(noNumber, 1), reals(1, 1), reals(1, 1), []impl.Z{zed(noNumber, 1), zed(noNumber, 1)}},
		{"an endless volt", zed(endless, 1), reals(1), reals(1), []impl.Z{zed(endless, 1)}},
		{"an endless fall", zed(1, 1), []impl.Z{zed(endless, 1)}, []impl.Z{zed(1, 1)}, []impl.Z{zed(-endless, -endless)}},
		{"a fall too great", zed(1, 1), []impl.Z{zed(1e200, 0), zed(-1e200, 0)}, []impl.Z{zed(0, 0), zed(1e200, 0)}, []impl.Z{zed(-endless, 1), zed(noNumber, 1)}},
		{"a fall of nothing", zed(1, 1), reals(1e-200), reals(1e-200), []impl.Z{zed(1, 1)}},
	} {
		checkZs(t, row.what, impl.Volts(row.volt, row.line, row.draw), row.want)
		checkZs(t, row.what+" by words", voltsByWords(row.volt, row.line, row.draw), row.want)
	}
}

// TestOneTapThatIsNoNumber: behind it the currents are numbers, and the voltages are none from the first tap on.
func TestOneTapThatIsNoNumber(t *testing.T) {
	for _, count := range []int{1, 2, 3, 7, 40} {
		for _, bad := range []int{0, count / 2, count - 1} {
			for _, z := range []impl.Z{zed(noNumber, 1), zed(1, noNumber), zed(noNumber, noNumber)} {
				draw := manyTaps(count)
				draw[bad] = z
				sums := impl.Sums(draw)
				for k, sum := range sums {
					if math.IsNaN(sum.Re) != (k <= bad && math.IsNaN(z.Re)) || math.IsNaN(sum.Im) != (k <= bad && math.IsNaN(z.Im)) {
						t.Errorf("%d of %d: the sum at %d is %v", bad, count, k, sum)
					}
				}
				for _, v := range impl.Volts(zed(100, 5), manyTaps(count), draw) {
					if !math.IsNaN(v.Re) || !math.IsNaN(v.Im) {
						t.Errorf("%d of %d: %v", bad, count, v)
					}
				}
				checkFloat(t, "losses", impl.Losses(manyTaps(count), draw), noNumber)
				checkWire(t, zed(100, 5), manyTaps(count), draw)
				line := manyTaps(count)
				line[bad] = z
				for k, v := range impl.Volts(zed(100, 5), line, manyTaps(count)) {
					if math.IsNaN(v.Re) != (k >= bad) || math.IsNaN(v.Im) != (k >= bad) {
						t.Errorf("line %d of %d: at %d %v", bad, count, k, v)
					}
				}
				if got := impl.Losses(line, manyTaps(count)); math.IsNaN(got) != math.IsNaN(z.Re) {
					t.Errorf("line %d of %d, %v: losses %v", bad, count, z, got)
				}
				checkWire(t, zed(100, 5), line, manyTaps(count))
			}
		}
	}
}

func TestLossesByHand(t *testing.T) {
	for _, row := range []struct {
		what       string
		line, draw []impl.Z
		want       float64
	}{
		{"two", reals(1, 2), reals(3, 4), 81},
		{"both parts", []impl.Z{zed(2, 7)}, []impl.Z{zed(3, -4)}, 50},
		{"Im of the line is not asked", []impl.Z{zed(2, endless), zed(1, noNumber)}, []impl.Z{zed(1, 0), zed(1, 0)}, 9},
		{"none", nil, nil, 0},
		{"a line of 0", reals(0, 0), reals(3, 4), 0},
		{"a line of -0", reals(noughtBelow, noughtBelow), reals(3, 4), 0},
		{"one of -0", reals(noughtBelow), reals(3), 0},
		{"a line below", reals(-1, 2), reals(3, 4), -17},
		{"without current", reals(-1, -2), reals(0, 0), 0},
		{"with noughts below", reals(-1, -2), reals(noughtBelow, noughtBelow), 0},
		{"down to nothing below", reals(-1e-200), reals(1e-100), 0},
		{"from the first on", reals(1<<53, 1, -1<<53), reals(0, 0, 1), 0},
		{"and not from the last", reals(-1<<53, 1, 1<<53), reals(0, 0, 1), 1},
		{"too great", reals(1), reals(1e200), endless},
		{"too great below", reals(-1), reals(1e200), -endless},
		{"endless of both kinds", reals(1, -1), reals(0, 1e200), noNumber},
		{"an endless current without a line", reals(0), reals(endless), noNumber},
		{"an endless line without current", reals(endless), reals(0), noNumber},
		{"the square first", reals(1e-200), reals(1e200), endless},
		{"the square down to nothing", reals(1e300), reals(1e-200), 0},
		{"one line too many", reals(1, 2, 3), reals(3, 4), 0},
		{"one draw too many", reals(1, 2), reals(3, 4, 5), 0},
	} {
		checkFloat(t, row.what, impl.Losses(row.line, row.draw), row.want)
		checkFloat(t, row.what+" by words", lossesByWords(row.line, row.draw), row.want)
	}
}

func TestManyWires(t *testing.T) {
	d := &dice{state: 193}
	turnedRound, odd := 0, 0
	for round := range 1200 {
		count := 1 + d.below([]int{3, 8, 40}[d.below(3)])
		line, draw := someZs(d, count, round%3 == 0), someZs(d, count, round%3 == 0)
		volt := someZ(d, round%6 == 0)
		checkWire(t, volt, line, draw)
		if slices.ContainsFunc(impl.Volts(volt, line, draw), func(v impl.Z) bool { return math.IsNaN(v.Re) }) {
			odd++
		}
		drawBack := slices.Clone(draw)
		slices.Reverse(drawBack)
		if !sameZ(impl.Sums(draw)[0], impl.Sums(drawBack)[0]) {
			turnedRound++
		}
	}
	if turnedRound < 300 || odd < 100 {
		t.Errorf("sums that hang on the order: %d, wires with what is no number: %d", turnedRound, odd)
	}
}

func TestWiresOfOddParts(t *testing.T) {
	d := &dice{state: 194}
	all := oddZs()
	for range 12000 {
		line := []impl.Z{all[d.below(len(all))], all[d.below(len(all))]}
		draw := []impl.Z{all[d.below(len(all))], all[d.below(len(all))]}
		checkWire(t, all[d.below(len(all))], line, draw)
		checkWire(t, all[d.below(len(all))], line[:1], draw[1:])
	}
}

func TestLowestByHand(t *testing.T) {
	bad := zed(noNumber, 1)
	for _, row := range []struct {
		what  string
		volts []impl.Z
		want  int
	}{
		{"nil", nil, -1},
		{"none", []impl.Z{}, -1},
		{"one", reals(5), 0},
		{"first", reals(1, 2, 3), 0},
		{"last", reals(3, 2, 1), 2},
		{"between", reals(3, 1, 2), 1},
		{"below is not less", reals(-3, 1, -2), 1},
		{"twice", reals(3, 1, 2, 1), 1},
		{"twice with another sign", reals(3, -1, 2, 1), 1},
		{"one size of other parts", []impl.Z{zed(9, 9), zed(3, 4), zed(5, 0), zed(0, -5), zed(4, 3)}, 1},
		{"one size of other parts, real first", []impl.Z{zed(9, 9), zed(5, 0), zed(3, 4)}, 1},
		{"noughts", []impl.Z{zed(1, 0), zed(noughtBelow, 0), zed(0, 0)}, 1},
		{"no number first", []impl.Z{bad, zed(2, 0), zed(3, 0)}, 1},
		{"no number first and the least last", []impl.Z{bad, zed(3, 0), zed(2, 0)}, 2},
		{"no number between", []impl.Z{zed(3, 0), bad, zed(2, 0)}, 2},
		{"no number last", []impl.Z{zed(3, 0), zed(2, 0), bad}, 1},
		{"no number behind the least", []impl.Z{zed(2, 0), bad, zed(3, 0)}, 0},
		{"no number in Im", []impl.Z{zed(1, noNumber), zed(2, 0)}, 1},
		{"no number beside endless", []impl.Z{zed(endless, noNumber), zed(2, 0)}, 1},
		{"one that is none", []impl.Z{bad}, -1},
		{"all of them none", []impl.Z{bad, zed(1, noNumber), zed(noNumber, noNumber), zed(endless, noNumber)}, -1},
		{"endless alone", reals(endless), 0},
		{"endless below alone", []impl.Z{zed(1, -endless)}, 0},
		{"endless behind no number", []impl.Z{bad, zed(endless, 0), bad, zed(-endless, 0)}, 1},
		{"endless ahead of a number", reals(endless, greatestFloat, 7), 2},
		{"too great to be told apart", reals(1e300, 1e200, endless), 0},
		{"too small to be told apart", reals(1, 1e-200, 0, 1e-300), 1},
		{"just less", reals(2, math.Nextafter(2, 0), 2), 1},
	} {
		checkLowest(t, row.what, row.volts, row.want)
	}
	for _, place := range []int{0, 1, 20, 38, 39} {
		volts := slices.Repeat(reals(5), 40)
		volts[place] = zed(4, 0)
		checkLowest(t, "as many as may be", volts, place)
		checkLowest(t, "one too many", append(volts, zed(5, 0)), -1)
	}
	checkLowest(t, "as many as may be, all alike", slices.Repeat(reals(5), 40), 0)
	checkLowest(t, "all none but the last", append(slices.Repeat([]impl.Z{bad}, 39), zed(5, 0)), 39)
}

func TestFedByHand(t *testing.T) {
	below := func(x float64) float64 { return math.Nextafter(x, 0) }
	bad := zed(noNumber, 1)
	for _, row := range []struct {
		what  string
		volts []impl.Z
		least float64
		want  bool
	}{
		{"just at it", reals(93, 85), 85, true},
		{"below it", reals(93, 85), 85.5, false},
		{"by size", []impl.Z{zed(3, 4)}, 5, true},
		{"just below by size", []impl.Z{zed(3, below(4))}, 5, false},
		{"a volt below", reals(-85), 85, true},
		{"a least below", reals(85), -85, true},
		{"a least below that is not met", reals(84), -85, false},
		{"a least below and just below it", reals(below(85)), -85, false},
		{"just above", reals(math.Nextafter(85, 86)), 85, true},
		{"first not", reals(84, 93, 93), 85, false},
		{"between not", reals(93, 84, 93), 85, false},
		{"last not", reals(93, 93, 84), 85, false},
		{"a least of 0", reals(0, noughtBelow, 1e-200), 0, true},
		{"a least of -0", reals(0, noughtBelow, 1e-200), noughtBelow, true},
		{"a least whose square is nothing", reals(0), 1e-200, true},
		{"a least whose square is there", reals(0), 1e-150, false},
		{"an endless least", reals(endless, -endless, 1e200), endless, true},
		{"an endless least below", []impl.Z{zed(1, endless), zed(1e154, 1e154)}, -endless, true},
		{"an endless least that is not met", reals(endless, 1e150), endless, false},
		{"a least whose square is endless", reals(1e200), 1e250, true},
		{"a least whose square is not", reals(1e150), 1e200, false},
		{"the greatest", reals(greatestFloat), greatestFloat, true},
		{"a least that is no number", reals(93, 85), noNumber, false},
		{"a least that is no number, and an endless volt", reals(endless), noNumber, false},
		{"no number first", []impl.Z{bad, zed(9, 0)}, 0, false},
		{"no number last", []impl.Z{zed(9, 0), bad}, 0, false},
		{"no number in Im", []impl.Z{zed(9, noNumber)}, -1, false},
		{"no number beside endless", []impl.Z{zed(endless, noNumber)}, 0, false},
		{"no number and no number", []impl.Z{bad}, noNumber, false},
		{"none", []impl.Z{}, 85, true},
		{"nil", nil, endless, true},
		{"nil and no number", nil, noNumber, true},
	} {
		checkFed(t, row.what, row.volts, row.least, row.want)
	}
	many := slices.Repeat(reals(5), 40)
	checkFed(t, "as many as may be", many, 5, true)
	checkFed(t, "one too many", append(many, zed(5, 0)), 5, false)
	for _, place := range []int{0, 20, 39} {
		volts := slices.Clone(many)
		volts[place] = zed(4, 0)
		checkFed(t, "one of many", volts, 5, false)
	}
}

func TestManyVolts(t *testing.T) {
	d := &dice{state: 195}
	seen := map[bool]int{}
	for range 3000 {
		volts := someZs(d, d.below(7), true)
		least := someFloat(d, true)
		if len(volts) > 0 && d.below(2) == 0 {
			// A root of the least size is at the border, up to its last bits.
			least = math.Sqrt(impl.ZSize(volts[d.below(len(volts))]))
		}
		checkLowest(t, "thrown", volts, lowestByWords(volts))
		checkFed(t, "thrown", volts, least, fedByWords(volts, least))
		seen[impl.Fed(volts, least)]++
	}
	if seen[true] < 200 || seen[false] < 200 {
		t.Errorf("fed and not: %v", seen)
	}
}

func TestPhasesByHand(t *testing.T) {
	on, off := true, false
	for _, row := range []struct {
		what   string
		feed   []int
		closed []bool
		want   []int
	}{
		{"two pieces", []int{1, 0, 0, 2}, []bool{on, off, on}, []int{1, 1, 2, 2}},
		{"a clash", []int{1, 0, 2}, []bool{on, on}, []int{4, 4, 4}},
		{"no section", nil, nil, nil},
		{"no section, empty lists", []int{}, []bool{}, nil},
		{"no section and a gap", nil, []bool{on}, nil},
		{"no section and an open gap", []int{}, []bool{off}, nil},
		{"one that is not fed", []int{0}, nil, []int{0}},
		{"one that is fed", []int{3}, []bool{}, []int{3}},
		{"one section and a gap", []int{1}, []bool{on}, nil},
		{"a feed of -1", []int{-1}, nil, nil},
		{"a feed of 4", []int{4}, nil, nil},
		{"a feed of -1 last", []int{1, 2, -1}, []bool{on, on}, nil},
		{"a feed of 4 last", []int{1, 2, 4}, []bool{off, off}, nil},
		{"all that may be", []int{0, 1, 2, 3}, []bool{off, off, off}, []int{0, 1, 2, 3}},
		{"as long as feed", []int{1, 0, 2}, []bool{on, on, on}, nil},
		{"two shorter", []int{1, 0, 2}, []bool{on}, nil},
		{"two shorter and none", []int{1, 0}, nil, nil},
		{"one longer", []int{1, 0, 2}, []bool{on, on, on, on}, nil},
		{"fed by none", []int{0, 0, 0}, []bool{on, on}, []int{0, 0, 0}},
		{"fed from the first", []int{2, 0, 0}, []bool{on, on}, []int{2, 2, 2}},
		{"fed from the last", []int{0, 0, 2}, []bool{on, on}, []int{2, 2, 2}},
		{"fed from between", []int{0, 2, 0}, []bool{on, on}, []int{2, 2, 2}},
		{"by one phase more than once", []int{3, 0, 3, 3, 0}, allClosed(4), []int{3, 3, 3, 3, 3}},
		{"by one phase at both ends", []int{1, 0, 0, 1}, allClosed(3), []int{1, 1, 1, 1}},
		{"by three", []int{1, 2, 3}, []bool{on, on}, []int{4, 4, 4}},
		{"by 1 and 3", []int{0, 1, 0, 3, 0}, allClosed(4), []int{4, 4, 4, 4, 4}},
		{"round a clash", []int{0, 0, 1, 2, 0, 0}, allClosed(5), []int{4, 4, 4, 4, 4, 4}},
		{"a phase behind a clash", []int{1, 2, 1}, []bool{on, on}, []int{4, 4, 4}},
		{"a phase on both sides of a clash", []int{1, 0, 2, 0, 1, 0, 1}, allClosed(6), []int{4, 4, 4, 4, 4, 4, 4}},
		{"a clash between open gaps", []int{1, 1, 2, 0, 3}, []bool{off, on, off, off}, []int{1, 4, 4, 0, 3}},
		{"a clash and its neighbours", []int{0, 1, 2, 0, 0, 3}, []bool{on, on, off, on, on}, []int{4, 4, 4, 3, 3, 3}},
		{"a clash at the end", []int{0, 0, 3, 1}, []bool{off, on, on}, []int{0, 4, 4, 4}},
		{"two clashes", []int{1, 2, 2, 3}, []bool{on, off, on}, []int{4, 4, 4, 4}},
		{"every second gap", []int{1, 0, 2, 0, 0, 3, 0}, []bool{on, off, on, off, on, off}, []int{1, 1, 2, 2, 3, 3, 0}},
		{"the other gaps", []int{1, 0, 2, 0, 0, 3, 0}, []bool{off, on, off, on, off, on}, []int{1, 2, 2, 0, 0, 3, 3}},
	} {
		if got := checkPhases(t, row.feed, row.closed); !slices.Equal(got, row.want) {
			t.Errorf("%s: %v, not %v", row.what, got, row.want)
		}
	}
}

// TestAllSmallPhases has feeds from -1 to 4, and closed from empty to one longer than it may be at most.
func TestAllSmallPhases(t *testing.T) {
	for count := range 6 {
		for gaps := range count + 2 {
			eachList(count, 5, func(list []int) {
				feed := make([]int, count)
				for k, x := range list {
					feed[k] = x - 1
				}
				eachFlags(gaps, func(closed []bool) { checkPhases(t, feed, closed) })
			})
		}
	}
}

// eachFlags gives all lists of so many flags.
func eachFlags(count int, f func(flags []bool)) {
	for bits := range 1 << count {
		flags := make([]bool, count)
		for k := range flags {
			flags[k] = bits>>k&1 == 1
		}
		f(flags)
	}
}

func TestPhasesOfEachLength(t *testing.T) {
	for count := 1; count < 44; count++ {
		feed := make([]int, count)
		feed[count-1] = 2
		for gaps := max(0, count-3); gaps < count+3; gaps++ {
			got := checkPhases(t, feed, allClosed(gaps))
			if right := count <= 40 && gaps == count-1; (len(got) == count) != right {
				t.Errorf("%d sections and %d gaps: %v", count, gaps, got)
			} else if right && !slices.Equal(got, alike(count, 2)) {
				t.Errorf("%d sections: %v", count, got)
			}
		}
		if count > 40 {
			continue
		}
		checkInts(t, "all open", impl.Phases(feed, make([]bool, count-1)), feed)
		feed[0] = 1
		if count > 1 {
			checkInts(t, "both ends", impl.Phases(feed, allClosed(count-1)), alike(count, 4))
		}
		for _, wrong := range []int{-1, 4, 5, math.MinInt, math.MaxInt} {
			for _, place := range []int{0, count / 2, count - 1} {
				spoilt := slices.Clone(feed)
				spoilt[place] = wrong
				if len(checkPhases(t, spoilt, allClosed(count-1))) != 0 {
					t.Errorf("a feed of %d", wrong)
				}
			}
		}
	}
}

func TestManyPhases(t *testing.T) {
	d := &dice{state: 196}
	seen := map[int]int{}
	for range 8000 {
		count := 1 + d.below(40)
		for _, phase := range checkPhases(t, someFeed(d, count, 1+d.below(8)), someClosed(d, count-1, 2+d.below(6))) {
			seen[phase]++
		}
	}
	for phase := range 5 {
		if seen[phase] < 1000 {
			t.Errorf("phase %d is told %d times", phase, seen[phase])
		}
	}
}

// TestPromise21Falls: along the wire the voltage falls by line and current.
func TestPromise21Falls(t *testing.T) {
	d := &dice{state: 197}
	for round := range 600 {
		count := 1 + d.below(40)
		line, draw, volt := someZs(d, count, round%4 == 0), someZs(d, count, round%4 == 0), someZ(d, false)
		sums, volts := impl.Sums(draw), impl.Volts(volt, line, draw)
		for k := range volts {
			fall := impl.ZMul(line[k], sums[k])
			checkZ(t, "the fall", volts[k], impl.ZAdd(volt, zed(-fall.Re, -fall.Im)))
			volt = volts[k]
			if k > 0 {
				checkZ(t, "what flows on", sums[k-1], impl.ZAdd(draw[k-1], sums[k]))
			}
		}
	}
}

// TestPromise21NothingFalls: without current nothing falls and nothing is lost, and losses of nothing are +0.
func TestPromise21NothingFalls(t *testing.T) {
	d := &dice{state: 198}
	noughts := []float64{0, noughtBelow}
	for range 2000 {
		count := d.below(41)
		line, draw := someZs(d, count, false), make([]impl.Z, count)
		for k := range draw {
			draw[k] = zed(noughts[d.below(2)], noughts[d.below(2)])
		}
		volt := someZ(d, false)
		if d.below(4) == 0 {
			volt = zed(noughts[d.below(2)], noughts[d.below(2)])
		}
		volts := impl.Volts(volt, line, draw)
		if len(volts) != count {
			t.Fatalf("%d of %d", len(volts), count)
		}
		for _, v := range volts {
			if v != volt {
				t.Fatalf("%v becomes %v", volt, v)
			}
		}
		checkFloat(t, "losses", impl.Losses(line, draw), 0)
		checkWire(t, volt, line, draw)
		if count > 0 && (impl.Lowest(volts) != 0 || !impl.Fed(volts, 0)) {
			t.Fatalf("lowest %d of %v", impl.Lowest(volts), volts)
		}
	}
}

// TestPromise21Opened: an opened switch joins nothing, so the pieces on its sides tell what they would tell alone.
func TestPromise21Opened(t *testing.T) {
	d := &dice{state: 199}
	for range 1500 {
		count := 2 + d.below(39)
		feed, closed := someFeed(d, count, 1+d.below(6)), someClosed(d, count-1, 2+d.below(8))
		before := impl.Phases(feed, closed)
		gap := d.below(count - 1)
		closed[gap] = false
		after := impl.Phases(feed, closed)
		if len(before) != count || len(after) != count {
			t.Fatalf("Phases(%v, %v): %v, %v", feed, closed, before, after)
		}
		apart := slices.Concat(impl.Phases(feed[:gap+1], closed[:gap]), impl.Phases(feed[gap+1:], closed[gap+1:]))
		checkInts(t, "piece by piece", after, apart)
		for k := range after {
			if after[k] != before[k] && after[k] != 0 && before[k] != 4 {
				t.Fatalf("Phases(%v, %v): %v was %v", feed, closed, after, before)
			}
		}
	}
}

// spoilZs writes into all of the memory that a list has.
func spoilZs(list []impl.Z) {
	whole := list[:cap(list)]
	for k := range whole {
		whole[k] = zed(-7, -77)
	}
}

// TestWireSharesNoMemory gives lists that lie side by side in one, with room behind them.
func TestWireSharesNoMemory(t *testing.T) {
	for count := range 6 {
		memory := append(manyTaps(3*count), zed(50, 51), zed(60, 61))
		was := slices.Clone(memory)
		line, draw, volts := memory[:count], memory[count:2*count], memory[2*count:3*count]
		wantSums, wantVolts := sumsByWords(was[count:2*count]), voltsByWords(zed(9, 8), was[:count], was[count:2*count])
		sums, again := impl.Sums(draw), impl.Sums(draw)
		told, toldAgain := impl.Volts(zed(9, 8), line, draw), impl.Volts(zed(9, 8), line, draw)
		impl.Losses(line, draw)
		impl.Lowest(volts)
		impl.Fed(volts, 1)
		checkZs(t, "the lists behind the calls", memory, was)
		spoilZs(sums)
		spoilZs(told)
		_, _ = append(sums, zed(1, 1)), append(told, zed(1, 1))
		checkZs(t, "the lists behind what was spoilt", memory, was)
		checkZs(t, "the other sums", again, wantSums)
		checkZs(t, "the other volts", toldAgain, wantVolts)
		spoilZs(memory)
		checkZs(t, "sums behind what was spoilt", again, wantSums)
		checkZs(t, "volts behind what was spoilt", toldAgain, wantVolts)
		one := manyTaps(count)
		spoilZs(impl.Volts(zed(9, 8), one, one))
		checkZs(t, "one list for both", one, manyTaps(count))
	}
}

func TestPhasesShareNoMemory(t *testing.T) {
	for count := 1; count < 6; count++ {
		feedMemory, closedMemory := make([]int, count+3), make([]bool, count+2)
		feedMemory[count-1], feedMemory[count] = 2, 9
		closedMemory[count-1] = true
		for _, open := range []bool{false, true} {
			for k := range count - 1 {
				closedMemory[k] = open
			}
			feedWas, closedWas := slices.Clone(feedMemory), slices.Clone(closedMemory)
			feed, closed := feedMemory[:count], closedMemory[:count-1]
			want := phasesByWords(feed, closed)
			phases, again := impl.Phases(feed, closed), impl.Phases(feed, closed)
			spoilInts(phases)
			_ = append(phases, 9, 9)
			if !slices.Equal(feedMemory, feedWas) || !slices.Equal(closedMemory, closedWas) {
				t.Errorf("%d sections: %v, %v", count, feedMemory, closedMemory)
			}
			checkInts(t, "the other phases", again, want)
			spoilInts(feedMemory[:count:count])
			checkInts(t, "phases behind what was spoilt", again, want)
			copy(feedMemory, feedWas)
		}
	}
}

// TestWireIsTheSameHoweverOften lets many ask at once, with other questions between.
func TestWireIsTheSameHoweverOften(t *testing.T) {
	d := &dice{state: 200}
	for round := range 20 {
		line, draw, volt := someZs(d, 40, round%2 == 0), someZs(d, 40, round%2 == 0), someZ(d, false)
		feed, closed := someFeed(d, 40, 4), someClosed(d, 39, 4)
		sums, volts, losses := impl.Sums(draw), impl.Volts(volt, line, draw), impl.Losses(line, draw)
		lowest, fed, phases := impl.Lowest(volts), impl.Fed(volts, 3), impl.Phases(feed, closed)
		add, mul, div := impl.ZAdd(line[0], draw[0]), impl.ZMul(line[0], draw[0]), impl.ZDiv(line[0], draw[0])
		var group sync.WaitGroup
		for k := range 8 {
			group.Go(func() {
				for range 5 {
					impl.Volts(zed(1, 1), manyTaps(k), manyTaps(k))
					impl.Phases(alike(40, k%4), allClosed(39))
					checkZs(t, "sums", impl.Sums(draw), sums)
					checkZs(t, "volts", impl.Volts(volt, line, draw), volts)
					checkFloat(t, "losses", impl.Losses(line, draw), losses)
					checkInts(t, "phases", impl.Phases(feed, closed), phases)
					checkZ(t, "sum", impl.ZAdd(line[0], draw[0]), add)
					checkZ(t, "product", impl.ZMul(line[0], draw[0]), mul)
					checkZ(t, "quotient", impl.ZDiv(line[0], draw[0]), div)
					if impl.Lowest(volts) != lowest || impl.Fed(volts, 3) != fed {
						t.Errorf("%v: other answers", volts)
					}
				}
			})
		}
		group.Wait()
	}
}

func TestWireNeverPanics(t *testing.T) {
	extremes := []int{math.MinInt, -2, -1, 0, 1, 2, 3, 4, 5, math.MaxInt}
	counts := []int{0, 1, 2, 3, 39, 40, 41, 42, 80}
	d := &dice{state: 201}
	count := func() int { return counts[d.below(len(counts))] }
	for range 3000 {
		line, draw := someZs(d, count(), true), someZs(d, count(), true)
		feed, closed := someFeed(d, count(), 2), someClosed(d, count(), 3)
		if len(feed) > 0 && d.below(2) == 0 {
			feed[d.below(len(feed))] = extremes[d.below(len(extremes))]
		}
		if panicsIn(func() {
			if len(line) < 4 || d.below(20) == 0 {
				checkWire(t, someZ(d, true), line, draw)
			}
			impl.Sums(draw)
			impl.Volts(someZ(d, true), line, draw)
			impl.Losses(line, draw)
			impl.Lowest(line)
			impl.Fed(line, someFloat(d, true))
			checkPhases(t, feed, closed)
		}) {
			t.Fatalf("%v, %v, %v, %v", line, draw, feed, closed)
		}
	}
	if panicsIn(func() {
		impl.Sums(nil)
		impl.Volts(impl.Z{}, nil, nil)
		impl.Volts(impl.Z{}, manyTaps(1), nil)
		impl.Losses(nil, nil)
		impl.Losses(nil, manyTaps(1))
		impl.Lowest(nil)
		impl.Fed(nil, 0)
		impl.Phases(nil, nil)
		impl.Phases(nil, make([]bool, 1))
		impl.Phases(make([]int, 2), nil)
	}) {
		t.Error("nothing at all")
	}
}
