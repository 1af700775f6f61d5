package tests

import (
	"math"
	"slices"
	"sync"
	"testing"

	"loop.example/g00075/impl"
)

func tariff(base, step, round int, jumps ...int) impl.Tariff {
	return impl.Tariff{Base: base, Step: step, Jumps: jumps, Round: round}
}

func card(percent, least, from, to int) impl.Card {
	return impl.Card{Percent: percent, Least: least, From: from, To: to}
}

// always is a card that counts in every minute of the day.
func always(percent, least int) impl.Card {
	return card(percent, least, 0, 1439)
}

func tariffCopy(f impl.Tariff) impl.Tariff {
	f.Jumps = slices.Clone(f.Jumps)
	return f
}

func sameTariff(a, b impl.Tariff) bool {
	return a.Base == b.Base && a.Step == b.Step && a.Round == b.Round && slices.Equal(a.Jumps, b.Jumps)
}

func tariffByWords(f impl.Tariff) bool {
	for _, x := range append([]int{f.Base, f.Step}, f.Jumps...) {
		if x < 0 || x > 100000 {
			return false
		}
	}
	return len(f.Jumps) < 21 && f.Round > 0 && f.Round < 101
}

func zoneByWords(zone int) bool {
	return zone > -1 && zone < 20
}

// fareByWords rides from the lesser zone to the greater one, border by border, and then goes up one by one.
func fareByWords(f impl.Tariff, from, to int) int {
	if !tariffByWords(f) || !zoneByWords(from) || !zoneByWords(to) {
		return -1
	}
	if from > to {
		from, to = to, from
	}
	fare := f.Base
	for zone := from; zone != to; zone++ {
		fare += f.Step
		if zone < len(f.Jumps) {
			fare += f.Jumps[zone]
		}
	}
	for fare%f.Round != 0 {
		fare++
	}
	return fare
}

func cardsByWords(cards []impl.Card) bool {
	for _, c := range cards {
		if c.Percent < 0 || c.Percent > 100 || c.Least < 0 || c.Least > 100000 {
			return false
		}
		if c.From < 0 || c.To < c.From || c.To > 1439 {
			return false
		}
	}
	return len(cards) < 7
}

func cardedByWords(f impl.Tariff, fare int, cards []impl.Card, minute int) int {
	if !tariffByWords(f) || !cardsByWords(cards) || fare < 0 || fare > 10000000 || !minuteByWords(minute) {
		return -1
	}
	prices := []int{fare}
	for _, c := range cards {
		clock := minute
		for clock > 1439 {
			clock -= 1440
		}
		if clock < c.From || clock > c.To {
			continue
		}
		price := fare * (100 - c.Percent) / 100
		for price%f.Round != 0 {
			price--
		}
		if price < c.Least {
			price = c.Least
		}
		if price > fare {
			price = fare
		}
		prices = append(prices, price)
	}
	return slices.Min(prices)
}

func throughByWords(f impl.Tariff, stops []int, cards []impl.Card, minute int) int {
	if len(stops) < 2 || len(stops) > 20 {
		return -1
	}
	for _, zone := range stops {
		if !zoneByWords(zone) {
			return -1
		}
	}
	return cardedByWords(f, fareByWords(f, stops[0], stops[len(stops)-1]), cards, minute)
}

// splitByWords goes through every set of places at which one may cut.
func splitByWords(f impl.Tariff, stops []int, cards []impl.Card, minute int) (int, []int) {
	if throughByWords(f, stops, cards, minute) < 0 {
		return -1, nil
	}
	last := len(stops) - 1
	var prices [20][20]int
	for i := range stops {
		for j := i + 1; j <= last; j++ {
			prices[i][j] = cardedByWords(f, fareByWords(f, stops[i], stops[j]), cards, minute)
		}
	}
	best, bestPlaces := -1, []int(nil)
	for set := range 1 << (last - 1) {
		sum, at, places := 0, 0, make([]int, 0, 20)
		for place := 1; place < last; place++ {
			if set>>(place-1)&1 == 1 {
				sum, at, places = sum+prices[at][place], place, append(places, place)
			}
		}
		sum += prices[at][last]
		fewer, as := len(places) < len(bestPlaces), len(places) == len(bestPlaces)
		if best < 0 || sum < best || sum == best && (fewer || as && slices.Compare(places, bestPlaces) < 0) {
			best, bestPlaces = sum, places
		}
	}
	return best, bestPlaces
}

func refundByWords(f impl.Tariff, paid, hours int) int {
	if !tariffByWords(f) || paid < 0 || paid > 10000000 {
		return -1
	}
	back := 0
	if hours >= 72 {
		back = paid
	} else if hours >= 24 {
		back = paid * 3 / 4
	} else if hours >= 1 {
		back = paid / 2
	}
	for back%f.Round != 0 {
		back--
	}
	return back
}

func checkFare(t *testing.T, f impl.Tariff, from, to int) int {
	t.Helper()
	was, want := tariffCopy(f), fareByWords(f, from, to)
	if got := impl.Fare(f, from, to); got != want {
		t.Fatalf("Fare(%+v, %d, %d): %d, not %d", f, from, to, got, want)
	}
	if got := impl.TariffOk(f); got != tariffByWords(f) {
		t.Fatalf("TariffOk(%+v): %v", f, got)
	}
	if !sameTariff(f, was) {
		t.Fatalf("%+v was %+v", f, was)
	}
	return want
}

func checkCarded(t *testing.T, f impl.Tariff, fare int, cards []impl.Card, minute int) int {
	t.Helper()
	was, cards0, want := tariffCopy(f), slices.Clone(cards), cardedByWords(f, fare, cards, minute)
	if got := impl.Carded(f, fare, cards, minute); got != want {
		t.Fatalf("Carded(%+v, %d, %+v, %d): %d, not %d", f, fare, cards, minute, got, want)
	}
	if got := impl.CardsOk(cards); got != cardsByWords(cards) {
		t.Fatalf("CardsOk(%+v): %v", cards, got)
	}
	if !sameTariff(f, was) || !slices.Equal(cards, cards0) {
		t.Fatalf("%+v was %+v, %+v was %+v", f, was, cards, cards0)
	}
	return want
}

// checkSplit answers how many places the split has.
func checkSplit(t *testing.T, f impl.Tariff, stops []int, cards []impl.Card, minute int) int {
	t.Helper()
	was, stops0, cards0 := tariffCopy(f), slices.Clone(stops), slices.Clone(cards)
	if got, want := impl.Through(f, stops, cards, minute), throughByWords(f, stops, cards, minute); got != want {
		t.Fatalf("Through(%+v, %v, %+v, %d): %d, not %d", f, stops, cards, minute, got, want)
	}
	want, wantPlaces := splitByWords(f, stops, cards, minute)
	if got, places := impl.Split(f, stops, cards, minute); got != want || !slices.Equal(places, wantPlaces) {
		t.Fatalf("Split(%+v, %v, %+v, %d): %d, %v, not %d, %v", f, stops, cards, minute, got, places, want, wantPlaces)
	}
	if !sameTariff(f, was) || !slices.Equal(stops, stops0) || !slices.Equal(cards, cards0) {
		t.Fatalf("%+v was %+v, %v was %v, %+v was %+v", f, was, stops, stops0, cards, cards0)
	}
	return len(wantPlaces)
}

func checkRefund(t *testing.T, f impl.Tariff, paid, hours int) {
	t.Helper()
	was := tariffCopy(f)
	if got, want := impl.Refund(f, paid, hours), refundByWords(f, paid, hours); got != want {
		t.Fatalf("Refund(%+v, %d, %d): %d, not %d", f, paid, hours, got, want)
	}
	if !sameTariff(f, was) {
		t.Fatalf("%+v was %+v", f, was)
	}
}

// wrongTariffs are each wrong in one thing alone.
func wrongTariffs() map[string]impl.Tariff {
	return map[string]impl.Tariff{
		"the zero value":                {},
		"a Base of -1":                  tariff(-1, 5, 10),
		"a Base of one more":            tariff(100001, 5, 10),
		"the least Base":                tariff(math.MinInt, 5, 10),
		"the greatest Base":             tariff(math.MaxInt, 5, 10),
		"a Step of -1":                  tariff(5, -1, 10),
		"a Step of one more":            tariff(5, 100001, 10),
		"the least Step":                tariff(5, math.MinInt, 10),
		"the greatest Step":             tariff(5, math.MaxInt, 10),
		"a Round of 0":                  tariff(5, 5, 0),
		"a Round of -1":                 tariff(5, 5, -1),
		"a Round of 101":                tariff(5, 5, 101),
		"the least Round":               tariff(5, 5, math.MinInt),
		"the greatest Round":            tariff(5, 5, math.MaxInt),
		"a jump of -1":                  tariff(5, 5, 10, -1),
		"a jump of one more":            tariff(5, 5, 10, 100001),
		"a last jump of -1":             tariff(5, 5, 10, 0, 3, -1),
		"a last jump of one more":       tariff(5, 5, 10, 0, 3, 100001),
		"a jump of -1 in the middle":    tariff(5, 5, 10, 3, -1, 3),
		"a jump of one more ahead":      tariff(5, 5, 10, 100001, 3, 3),
		"a 20th jump of -1":             tariff(5, 5, 10, append(make([]int, 19), -1)...),
		"a 20th jump of one more":       tariff(5, 5, 10, append(make([]int, 19), 100001)...),
		"the least jump":                tariff(5, 5, 10, math.MinInt),
		"the greatest jump":             tariff(5, 5, 10, math.MaxInt),
		"one jump too many":             tariff(5, 5, 10, make([]int, 21)...),
		"a huge list of jumps":          tariff(5, 5, 10, make([]int, 100000)...),
		"all right but the Round":       tariff(0, 0, 0, 0),
		"nothing is right":              tariff(-1, -1, -1, -1),
		"below and above, as if it met": tariff(-1, 100001, 10),
	}
}

// wrongCards are each wrong in one card alone.
func wrongCards() map[string][]impl.Card {
	right := always(50, 10)
	return map[string][]impl.Card{
		"a Percent of -1":        {card(-1, 10, 0, 1439)},
		"a Percent of 101":       {card(101, 10, 0, 1439)},
		"the least Percent":      {card(math.MinInt, 10, 0, 1439)},
		"the greatest Percent":   {card(math.MaxInt, 10, 0, 1439)},
		"a Least of -1":          {card(50, -1, 0, 1439)},
		"a Least of one more":    {card(50, 100001, 0, 1439)},
		"the least Least":        {card(50, math.MinInt, 0, 1439)},
		"the greatest Least":     {card(50, math.MaxInt, 0, 1439)},
		"a From of -1":           {card(50, 10, -1, 1439)},
		"From and To of -1":      {card(50, 10, -1, -1)},
		"a To of -1":             {card(50, 10, 0, -1)},
		"a To of 1440":           {card(50, 10, 0, 1440)},
		"From and To of 1440":    {card(50, 10, 1440, 1440)},
		"From one behind To":     {card(50, 10, 601, 600)},
		"From far behind To":     {card(50, 10, 1439, 0)},
		"the least From":         {card(50, 10, math.MinInt, 1439)},
		"the greatest To":        {card(50, 10, 0, math.MaxInt)},
		"a wrong one ahead":      {card(101, 10, 0, 1439), right, right},
		"a wrong one between":    {right, card(50, 10, 9, 8), right},
		"a wrong one at the end": {right, right, right, right, right, card(50, -1, 0, 0)},
		"one too many":           {right, right, right, right, right, right, right},
		"a huge list":            make([]impl.Card, 100000),
	}
}

// wrongStops are no list of 2 to MaxZones zones.
func wrongStops() map[string][]int {
	return map[string][]int{
		"nil":                    nil,
		"none":                   {},
		"one":                    {3},
		"one too many":           append(numbers(0, 19), 0),
		"one too many, all 0":    make([]int, 21),
		"a huge list":            make([]int, 100000),
		"a first of -1":          {-1, 3},
		"a last of -1":           {3, -1},
		"a first of MaxZones":    {20, 3},
		"a last of MaxZones":     {3, 20},
		"one between of -1":      {0, -1, 3},
		"one between of 20":      {0, 20, 3},
		"the last but one of 20": {0, 1, 2, 20, 3},
		"the least":              {math.MinInt, 3, 4},
		"the greatest":           {1, math.MaxInt, 4},
	}
}

func TestFareConstants(t *testing.T) {
	if impl.MaxZones != 20 || impl.MaxFare != 100000 || impl.MaxCards != 6 {
		t.Error(impl.MaxZones, impl.MaxFare, impl.MaxCards)
	}
}

func TestTariffOk(t *testing.T) {
	right := map[string]impl.Tariff{
		"the least":                tariff(0, 0, 1),
		"the greatest":             tariff(100000, 100000, 100, slices.Repeat([]int{100000}, 20)...),
		"an empty list":            {Round: 1, Jumps: []int{}},
		"a Base of MaxFare":        tariff(100000, 5, 10),
		"a Step of MaxFare":        tariff(5, 100000, 10),
		"a jump of 0":              tariff(5, 5, 10, 0),
		"a jump of MaxFare":        tariff(5, 5, 10, 100000),
		"a Round of 1":             tariff(5, 5, 1),
		"a Round of 100":           tariff(5, 5, 100),
		"19 jumps":                 tariff(5, 5, 10, make([]int, 19)...),
		"MaxZones jumps":           tariff(5, 5, 10, make([]int, 20)...),
		"a Base that is no Round":  tariff(7, 3, 100),
		"room for more than there": {Round: 1, Jumps: make([]int, 20, 50)},
	}
	for name, f := range right {
		if !impl.TariffOk(f) {
			t.Errorf("%s: not right", name)
		}
		if impl.Fare(f, 0, 0) < 0 || impl.Carded(f, 5, nil, 0) < 0 || impl.Through(f, []int{0, 1}, nil, 0) < 0 || impl.Refund(f, 5, 0) < 0 {
			t.Errorf("%s: refused", name)
		}
	}
	for name, f := range wrongTariffs() {
		if impl.TariffOk(f) {
			t.Errorf("%s: not wrong", name)
		}
	}
	limits := []int{math.MinInt, -1, 0, 1, 99999, 100000, 100001, math.MaxInt}
	for _, base := range limits {
		for _, step := range limits {
			for _, round := range []int{math.MinInt, -1, 0, 1, 2, 99, 100, 101, math.MaxInt} {
				for count := 18; count <= 23; count++ {
					checkFare(t, tariff(base, step, round, make([]int, count)...), 3, 5)
				}
				for _, jump := range limits {
					checkFare(t, tariff(base, step, round, 7, jump), 0, 2)
				}
			}
		}
	}
}

// TestWrongTariffs holds every function against a tariff that is wrong.
func TestWrongTariffs(t *testing.T) {
	for name, f := range wrongTariffs() {
		was := tariffCopy(f)
		cost, places := impl.Split(f, []int{0, 1}, nil, 0)
		if cost != -1 || len(places) != 0 {
			t.Errorf("%s: split %d, %v", name, cost, places)
		}
		for _, cards := range [][]impl.Card{nil, {}, {always(50, 0)}} {
			if got := impl.Carded(f, 0, cards, 0); got != -1 {
				t.Errorf("%s: carded %d", name, got)
			}
			if got := impl.Through(f, []int{0, 0}, cards, 5); got != -1 {
				t.Errorf("%s: through %d", name, got)
			}
		}
		for zone := range 20 {
			if got := impl.Fare(f, zone, 19-zone); got != -1 {
				t.Errorf("%s: fare %d", name, got)
			}
		}
		for _, hours := range []int{-1, 0, 1, 24, 72} {
			if impl.Refund(f, 0, hours) != -1 || impl.Refund(f, 500, hours) != -1 {
				t.Errorf("%s: refund at %d hours", name, hours)
			}
		}
		if !sameTariff(f, was) {
			t.Errorf("%s: %+v", name, f)
		}
	}
}

func TestFareByHand(t *testing.T) {
	given := tariff(100, 50, 10, 0, 33)
	most := tariff(100000, 100000, 100, slices.Repeat([]int{100000}, 20)...)
	cases := map[string]struct {
		tariff   impl.Tariff
		from, to int
		want     int
	}{
		"next to each other":                  {given, 0, 1, 150},
		"over a jump":                         {given, 2, 0, 240},
		"the other way round":                 {given, 0, 2, 240},
		"where one is":                        {given, 5, 5, 100},
		"where one is, at a jump":             {given, 1, 1, 100},
		"a jump at the lesser zone":           {given, 1, 2, 190},
		"the same, down":                      {given, 2, 1, 190},
		"a jump at the greater zone":          {given, 0, 1, 150},
		"a jump at the greater zone, down":    {given, 1, 0, 150},
		"beyond the jumps":                    {given, 2, 3, 150},
		"beyond the jumps, far":               {given, 2, 19, 950},
		"beyond the jumps, from within":       {given, 19, 1, 1040},
		"end to end":                          {given, 0, 19, 1090},
		"end to end, down":                    {given, 19, 0, 1090},
		"at the last zone":                    {given, 19, 19, 100},
		"a from of -1":                        {given, -1, 3, -1},
		"a from of MaxZones":                  {given, 20, 3, -1},
		"a to of -1":                          {given, 3, -1, -1},
		"a to of MaxZones":                    {given, 3, 20, -1},
		"both -1":                             {given, -1, -1, -1},
		"both MaxZones":                       {given, 20, 20, -1},
		"the least and the greatest":          {given, math.MinInt, math.MaxInt, -1},
		"the greatest and the least":          {given, math.MaxInt, math.MinInt, -1},
		"no jump":                             {tariff(7, 3, 1), 4, 9, 22},
		"nothing costs":                       {tariff(0, 0, 100), 0, 19, 0},
		"one costs a whole Round":             {tariff(1, 0, 100), 0, 0, 100},
		"a multiple already":                  {tariff(300, 0, 100), 0, 5, 300},
		"one more than a multiple":            {tariff(301, 0, 100), 0, 5, 400},
		"one less than a multiple":            {tariff(299, 0, 100), 0, 5, 300},
		"a multiple by its Steps":             {tariff(0, 25, 50), 3, 7, 100},
		"a multiple by its jump":              {tariff(3, 4, 10, 0, 0, 3), 2, 3, 10},
		"one more by its jump":                {tariff(3, 4, 10, 0, 0, 4), 2, 3, 20},
		"a Round of 1":                        {tariff(301, 17, 1), 0, 1, 318},
		"rounded once, not for each border":   {tariff(1, 1, 10), 0, 9, 10},
		"and one border more":                 {tariff(1, 1, 10), 0, 10, 20},
		"a jump at the 19th place":            {tariff(0, 0, 1, append(make([]int, 18), 5, 7)...), 18, 19, 5},
		"a jump at the 19th place, left":      {tariff(0, 0, 1, append(make([]int, 18), 5, 7)...), 17, 18, 0},
		"a jump at the 20th place never":      {tariff(0, 0, 1, append(make([]int, 19), 7)...), 0, 19, 0},
		"all that may be":                     {most, 0, 19, 3900000},
		"all that may be, at one zone":        {most, 19, 19, 100000},
		"all jumps between, and none outside": {tariff(0, 0, 1, 1, 2, 4, 8, 16, 32, 64), 2, 5, 28},
		"the same, the other way round":       {tariff(0, 0, 1, 1, 2, 4, 8, 16, 32, 64), 5, 2, 28},
	}
	for name, c := range cases {
		if got := impl.Fare(c.tariff, c.from, c.to); got != c.want {
			t.Errorf("%s: %d", name, got)
		}
		checkFare(t, c.tariff, c.from, c.to)
	}
}

// TestFareOfEveryTwoZones has a jump of its own at each place, so that each is seen in the sum.
func TestFareOfEveryTwoZones(t *testing.T) {
	var jumps []int
	for k := range 20 {
		jumps = append(jumps, 1<<min(k, 16))
	}
	for count := range 21 {
		for _, round := range []int{1, 7, 100} {
			f := tariff(3, 11, round, jumps[:count]...)
			for from := -2; from <= 21; from++ {
				for to := -2; to <= 21; to++ {
					checkFare(t, f, from, to)
				}
			}
		}
	}
}

func TestFareRoundsUp(t *testing.T) {
	for round := 1; round <= 100; round++ {
		for base := range 3 * round {
			want := (base + round - 1) / round * round
			if got := impl.Fare(tariff(base, 0, round), 2, 4); got != want {
				t.Fatalf("%d by %d: %d", base, round, got)
			}
			checkFare(t, tariff(base, base, round), 2, 4)
		}
	}
}

func TestCardsOk(t *testing.T) {
	right := map[string][]impl.Card{
		"nil":                  nil,
		"none":                 {},
		"the zero value":       {{}},
		"a Percent of 0":       {card(0, 10, 0, 5)},
		"a Percent of 100":     {card(100, 10, 0, 5)},
		"a Least of 0":         {card(50, 0, 0, 5)},
		"a Least of MaxFare":   {card(50, 100000, 0, 5)},
		"From and To alike":    {card(50, 10, 600, 600)},
		"both at 0":            {card(50, 10, 0, 0)},
		"both at 1439":         {card(50, 10, 1439, 1439)},
		"the whole day":        {always(50, 10)},
		"as many as may be":    make([]impl.Card, 6),
		"two that are alike":   {always(50, 10), always(50, 10)},
		"all the greatest":     {card(100, 100000, 1439, 1439)},
		"room for a seventh":   make([]impl.Card, 6, 9),
		"a Least above a fare": {always(100, 99999)},
	}
	for name, cards := range right {
		if !impl.CardsOk(cards) || impl.Carded(tariff(1, 1, 1), 0, cards, 0) != 0 {
			t.Errorf("%s: not right", name)
		}
	}
	f := tariff(7, 1, 10)
	for name, cards := range wrongCards() {
		if impl.CardsOk(cards) {
			t.Errorf("%s: not wrong", name)
		}
		cost, places := impl.Split(f, []int{0, 1, 2}, cards, 720)
		if cost != -1 || len(places) != 0 || impl.Through(f, []int{0, 1, 2}, cards, 720) != -1 {
			t.Errorf("%s: split %d, %v", name, cost, places)
		}
		for _, minute := range []int{0, 720, 1439, 100000} {
			checkCarded(t, f, 100, cards, minute)
			checkCarded(t, f, 0, cards, minute)
		}
	}
	for count := range 12 {
		if got := impl.CardsOk(slices.Repeat([]impl.Card{always(5, 5)}, count)); got != (count <= 6) {
			t.Errorf("%d cards: %v", count, got)
		}
	}
}

func TestCardsOkAtTheirEdges(t *testing.T) {
	right := 0
	for _, percent := range []int{math.MinInt, -1, 0, 1, 99, 100, 101, math.MaxInt} {
		for _, least := range []int{math.MinInt, -1, 0, 1, 100000, 100001, math.MaxInt} {
			for _, from := range []int{math.MinInt, -1, 0, 1, 1438, 1439, 1440, math.MaxInt} {
				for _, to := range []int{math.MinInt, -1, 0, 1, 1438, 1439, 1440, math.MaxInt} {
					cards := []impl.Card{card(percent, least, from, to)}
					if checkCarded(t, tariff(0, 0, 10), 50, cards, 1439) >= 0 {
						right++
					}
					checkCarded(t, tariff(0, 0, 10), 50, append(slices.Repeat([]impl.Card{{}}, 5), cards...), 0)
				}
			}
		}
	}
	if right != 4*3*10 {
		t.Error("not so many are right", right)
	}
}

func TestCardedByHand(t *testing.T) {
	given := tariff(100, 50, 10, 0, 33)
	one := tariff(0, 0, 1)
	half := []impl.Card{card(50, 90, 600, 700)}
	cases := map[string]struct {
		tariff impl.Tariff
		fare   int
		cards  []impl.Card
		minute int
		want   int
	}{
		"half":                              {given, 240, half, 600, 120},
		"a day later, taken as Least":       {given, 100, half, 2100, 90},
		"a Least above the fare":            {given, 80, half, 600, 80},
		"a Least of just the fare":          {given, 90, half, 600, 90},
		"a Least one below the fare":        {given, 91, half, 600, 90},
		"a Least of just the price":         {given, 180, half, 600, 90},
		"a price below Least by a Round":    {given, 179, half, 600, 90},
		"a price above Least":               {given, 200, half, 600, 100},
		"one ahead of From":                 {given, 240, half, 599, 240},
		"exactly at To":                     {given, 240, half, 700, 120},
		"one behind To":                     {given, 240, half, 701, 240},
		"one ahead of From, a day later":    {given, 240, half, 2039, 240},
		"at From, a day later":              {given, 240, half, 2040, 120},
		"at To, a day later":                {given, 240, half, 2140, 120},
		"behind To, a day later":            {given, 240, half, 2141, 240},
		"at From, many days later":          {given, 240, half, 600 + 68*1440, 120},
		"ahead of From, many days later":    {given, 240, half, 599 + 68*1440, 240},
		"the last minute that there is":     {given, 240, []impl.Card{card(50, 0, 640, 640)}, 100000, 120},
		"the last minute, but one behind":   {given, 240, []impl.Card{card(50, 0, 641, 641)}, 100000, 240},
		"the last minute, but one ahead":    {given, 240, []impl.Card{card(50, 0, 639, 639)}, 100000, 240},
		"a minute of 0":                     {given, 240, []impl.Card{card(50, 0, 0, 0)}, 0, 120},
		"a minute of 0, a day later":        {given, 240, []impl.Card{card(50, 0, 0, 0)}, 1440, 120},
		"the day's last minute":             {given, 240, []impl.Card{card(50, 0, 1439, 1439)}, 1439, 120},
		"the next day is not that":          {given, 240, []impl.Card{card(50, 0, 1439, 1439)}, 1440, 240},
		"a minute of -1":                    {given, 240, half, -1, -1},
		"a minute of -1, no card":           {given, 240, nil, -1, -1},
		"one beyond the last":               {given, 240, half, 100001, -1},
		"one beyond the last, no card":      {given, 240, nil, 100001, -1},
		"the least minute":                  {given, 240, half, math.MinInt, -1},
		"the greatest minute":               {given, 240, half, math.MaxInt, -1},
		"a fare of -1":                      {given, -1, half, 600, -1},
		"a fare of 0":                       {given, 0, half, 600, 0},
		"a fare of 10^7":                    {given, 10000000, half, 600, 5000000},
		"a fare of one more":                {given, 10000001, half, 600, -1},
		"the least fare":                    {given, math.MinInt, half, 600, -1},
		"the greatest fare":                 {given, math.MaxInt, half, 600, -1},
		"no card":                           {given, 243, nil, 600, 243},
		"no card, a fare that is no Round":  {given, 7, []impl.Card{}, 600, 7},
		"a Percent of 0 takes a Round down": {given, 243, []impl.Card{always(0, 0)}, 600, 240},
		"a Percent of 0 at a multiple":      {given, 240, []impl.Card{always(0, 0)}, 600, 240},
		"a Percent of 0 with a great Least": {given, 243, []impl.Card{always(0, 241)}, 600, 241},
		"a Percent of 100":                  {given, 243, []impl.Card{always(100, 0)}, 600, 0},
		"a Percent of 100 with a Least":     {given, 243, []impl.Card{always(100, 7)}, 600, 7},
		"a Percent of 100, Least of one":    {one, 1, []impl.Card{always(100, 1)}, 600, 1},
		"by 100, down":                      {one, 199, []impl.Card{always(1, 0)}, 0, 197},
		"down to a multiple":                {tariff(0, 0, 100), 399, []impl.Card{always(25, 0)}, 0, 200},
		"a Least that is no multiple":       {tariff(0, 0, 100), 399, []impl.Card{always(25, 250)}, 0, 250},
		"a Least of MaxFare":                {given, 300000, []impl.Card{always(90, 100000)}, 0, 100000},
		"the first is the cheapest":         {given, 240, []impl.Card{always(60, 0), always(50, 0), always(10, 0)}, 0, 90},
		"the last is the cheapest":          {given, 240, []impl.Card{always(10, 0), always(50, 0), always(60, 0)}, 0, 90},
		"cheaper by its lesser Least":       {given, 240, []impl.Card{always(90, 200), always(50, 0), always(20, 0)}, 0, 120},
		"the cheapest does not count":       {given, 240, []impl.Card{card(60, 0, 0, 9), always(50, 0), always(10, 0)}, 10, 120},
		"none of several counts":            {given, 240, []impl.Card{card(60, 0, 0, 9), card(70, 0, 11, 1439)}, 10, 240},
		"cards are not taken together":      {given, 400, []impl.Card{always(50, 0), always(50, 0)}, 0, 200},
		"six cards":                         {given, 400, []impl.Card{always(1, 0), always(2, 0), always(3, 0), always(4, 0), always(5, 0), always(6, 0)}, 0, 370},
	}
	for name, c := range cases {
		if got := impl.Carded(c.tariff, c.fare, c.cards, c.minute); got != c.want {
			t.Errorf("%s: %d", name, got)
		}
		checkCarded(t, c.tariff, c.fare, c.cards, c.minute)
	}
}

func TestCardedOfEverySmallFare(t *testing.T) {
	for _, round := range []int{1, 3, 10, 100} {
		for _, percent := range []int{0, 1, 33, 50, 99, 100} {
			for _, least := range []int{0, 1, 7, 99, 150} {
				for fare := range 220 {
					checkCarded(t, tariff(0, 0, round), fare, []impl.Card{always(percent, least)}, fare)
				}
			}
		}
	}
	for _, fare := range []int{-1, 0, 1, 9999999, 10000000, 10000001} {
		for percent := range 101 {
			checkCarded(t, tariff(0, 0, 1+percent%100), fare, []impl.Card{always(percent, 3)}, 7)
		}
	}
}

// TestCardedInEveryMinute has two cards that count one behind the other, and a minute of both.
func TestCardedInEveryMinute(t *testing.T) {
	cards := []impl.Card{card(20, 0, 300, 900), card(50, 0, 900, 1000)}
	for minute := -3; minute <= 100003; minute++ {
		want := 1000
		if clock := minute % 1440; minute < 0 || minute > 100000 {
			want = -1
		} else if clock >= 900 && clock <= 1000 {
			want = 500
		} else if clock >= 300 && clock < 900 {
			want = 800
		}
		if got := impl.Carded(tariff(0, 0, 10), 1000, cards, minute); got != want {
			t.Fatalf("at %d: %d, not %d", minute, got, want)
		}
	}
}

func TestSplitByHand(t *testing.T) {
	given := tariff(100, 50, 10, 0, 33)
	tens := tariff(0, 10, 10)
	// of a fare of 10 or 20 nothing is left, of 30 or 40 a Round, of 50 or 60 two
	most := []impl.Card{always(55, 0)}
	cases := map[string]struct {
		tariff  impl.Tariff
		stops   []int
		cards   []impl.Card
		minute  int
		through int
		cost    int
		places  []int
	}{
		"nothing to cut":                           {given, []int{0, 1}, nil, 0, 150, 150, nil},
		"one zone":                                 {given, []int{4, 4}, nil, 0, 100, 100, nil},
		"a Base for each ticket":                   {given, []int{0, 1, 2}, nil, 0, 240, 240, nil},
		"as cheap as one ticket":                   {tens, []int{0, 1, 2}, nil, 0, 20, 20, nil},
		"as cheap as one ticket, far":              {tens, numbers(0, 19), nil, 0, 190, 190, nil},
		"there and back":                           {tariff(0, 60, 100), []int{0, 1, 0, 1}, nil, 0, 100, 100, nil},
		"back to where it began":                   {tariff(10, 60, 1), []int{5, 9, 2, 5}, nil, 0, 10, 10, nil},
		"back to where it began, for nothing":      {tariff(0, 60, 1), []int{5, 9, 5}, nil, 0, 0, 0, nil},
		"nothing costs":                            {tariff(0, 0, 1), []int{5, 9, 5, 3}, nil, 0, 0, 0, nil},
		"taken as Least":                           {tariff(30, 0, 25), []int{0, 1, 2}, []impl.Card{card(60, 10, 0, 1439)}, 5, 10, 10, nil},
		"as cheap, from two to three tickets":      {tens, []int{0, 1, 2, 3}, most, 0, 10, 0, []int{1}},
		"one cut is cheaper":                       {tens, []int{0, 2, 3}, most, 0, 10, 0, []int{1}},
		"one cut is cheaper, down":                 {tens, []int{3, 1, 0}, most, 0, 10, 0, []int{1}},
		"one cut is as cheap":                      {tens, []int{0, 1, 2}, most, 0, 0, 0, nil},
		"fewer tickets ahead of lesser places":     {tens, []int{0, 1, 2, 3, 4}, most, 0, 10, 0, []int{2}},
		"as many tickets, the lesser places":       {tens, []int{0, 1, 2, 3, 4, 5}, most, 0, 20, 0, []int{1, 3}},
		"only the last place may be cut":           {tens, []int{0, 0, 0, 2, 4}, most, 0, 10, 0, []int{3}},
		"the first of three that are alike":        {tens, []int{0, 2, 2, 2, 4}, most, 0, 10, 0, []int{1}},
		"every place":                              {tens, []int{0, 2, 4, 6, 8}, most, 0, 30, 0, []int{1, 2, 3}},
		"no card, no cut":                          {tens, []int{0, 2, 4, 6, 8}, nil, 0, 80, 80, nil},
		"a card that does not count":               {tens, []int{0, 2, 4}, []impl.Card{card(55, 0, 5, 9)}, 4, 40, 40, nil},
		"a card that counts":                       {tens, []int{0, 2, 4}, []impl.Card{card(55, 0, 5, 9)}, 5, 10, 0, []int{1}},
		"a day later":                              {tens, []int{0, 2, 4}, []impl.Card{card(55, 0, 5, 9)}, 1449, 10, 0, []int{1}},
		"behind To, a day later":                   {tens, []int{0, 2, 4}, []impl.Card{card(55, 0, 5, 9)}, 1450, 40, 40, nil},
		"a way over a zone that is cheap to reach": {tens, []int{0, 19, 2, 4}, most, 0, 10, 0, []int{2}},
		"MaxZones stops":                           {tens, numbers(0, 19), most, 0, 80, 0, []int{1, 3, 5, 7, 9, 11, 13, 15, 17}},
		"MaxZones stops at one zone":               {tariff(5, 5, 10), make([]int, 20), nil, 0, 10, 10, nil},
		"two cards, of which one is the cheapest for each fare": {tariff(0, 100, 1), []int{0, 1, 4},
			[]impl.Card{always(100, 50), always(50, 0)}, 0, 50, 50, nil},
		"a Least above the fare of a piece": {tariff(0, 10, 1), []int{0, 1, 2}, []impl.Card{always(100, 30)}, 0, 20, 20, nil},
		"the greatest fares": {tariff(100000, 100000, 100, slices.Repeat([]int{100000}, 20)...),
			[]int{0, 19, 0, 19, 0, 19}, nil, 0, 3900000, 3900000, nil},
	}
	for name, c := range cases {
		if got := impl.Through(c.tariff, c.stops, c.cards, c.minute); got != c.through {
			t.Errorf("%s: through %d", name, got)
		}
		cost, places := impl.Split(c.tariff, c.stops, c.cards, c.minute)
		if cost != c.cost {
			t.Errorf("%s: %d", name, cost)
		}
		checkInts(t, name, places, c.places)
		checkSplit(t, c.tariff, c.stops, c.cards, c.minute)
	}
}

func TestStopsThatAreNone(t *testing.T) {
	f, cards := tariff(100, 50, 10, 0, 33), []impl.Card{always(50, 0)}
	for name, stops := range wrongStops() {
		for _, some := range [][]impl.Card{nil, cards} {
			was := slices.Clone(stops)
			cost, places := impl.Split(f, stops, some, 0)
			if got := impl.Through(f, stops, some, 0); got != -1 || cost != -1 || len(places) != 0 {
				t.Errorf("%s: %d, %d, %v", name, got, cost, places)
			}
			if !slices.Equal(stops, was) {
				t.Errorf("%s: other stops", name)
			}
		}
	}
	for _, minute := range []int{math.MinInt, -1, 100001, math.MaxInt} {
		cost, places := impl.Split(f, []int{0, 1, 2}, cards, minute)
		if got := impl.Through(f, []int{0, 1, 2}, cards, minute); got != -1 || cost != -1 || len(places) != 0 {
			t.Errorf("at %d: %d, %d, %v", minute, got, cost, places)
		}
	}
	for count := range 25 {
		stops := slices.Repeat([]int{3}, count)
		want := -1
		if count >= 2 && count <= 20 {
			want = 100
		}
		cost, places := impl.Split(f, stops, nil, 100000)
		if got := impl.Through(f, stops, nil, 100000); got != want || cost != want || len(places) != 0 {
			t.Errorf("%d stops: %d, %d, %v", count, got, cost, places)
		}
	}
	for zone := -2; zone <= 22; zone++ {
		checkSplit(t, f, []int{zone, 3}, cards, 0)
		checkSplit(t, f, []int{0, zone, 3}, cards, 0)
		checkSplit(t, f, []int{0, 1, zone}, cards, 0)
	}
}

func TestSplitOfEverySmallList(t *testing.T) {
	cards := [][]impl.Card{nil, {always(55, 0)}, {always(70, 0), always(30, 5)}}
	cut := 0
	for _, f := range []impl.Tariff{tariff(0, 10, 10), tariff(5, 7, 10, 0, 20, 3), tariff(10, 0, 1, 5)} {
		manyLists(5, []int{0, 1, 2, 4}, func(stops []int) {
			for _, some := range cards {
				if checkSplit(t, f, stops, some, 0) > 0 {
					cut++
				}
			}
		})
	}
	if cut < 100 {
		t.Error("too few are cut", cut)
	}
}

func someTariff(d *dice) impl.Tariff {
	f := tariff(d.below(1+d.below(40)), d.below(1+d.below(60)), 1+d.below(1+d.below(100)))
	for range d.below(21) {
		f.Jumps = append(f.Jumps, d.below(1+d.below(50)))
	}
	return f
}

func someCards(d *dice) []impl.Card {
	var cards []impl.Card
	for range d.below(7) {
		from := d.below(1440)
		c := card(d.below(101), d.below(1+d.below(100)), from, from+d.below(1440-from))
		if d.below(2) == 0 {
			c.From, c.To = 0, 1439
		}
		cards = append(cards, c)
	}
	return cards
}

func someStops(d *dice, most int) []int {
	stops := []int{d.below(20)}
	for range 1 + d.below(most-1) {
		next := stops[len(stops)-1] + 1 + d.below(3)
		if d.below(5) == 0 {
			next = d.below(20)
		}
		stops = append(stops, next%20)
	}
	return stops
}

func TestFaresThrown(t *testing.T) {
	d := &dice{state: 131}
	var byCuts [20]int
	for range 4000 {
		f, cards, minute := someTariff(d), someCards(d), d.below(100001)
		for range 10 {
			checkFare(t, f, d.below(22)-1, d.below(22)-1)
			checkCarded(t, f, d.below(1+d.below(3000)), cards, minute)
			checkCarded(t, f, d.below(10000001), cards, minute)
			checkRefund(t, f, d.below(1+d.below(5000)), d.below(80)-4)
		}
		byCuts[checkSplit(t, f, someStops(d, 10), cards, minute)]++
	}
	if byCuts[0] < 100 || byCuts[1] < 100 || byCuts[2] < 20 || byCuts[3] < 5 {
		t.Error("too few are cut", byCuts)
	}
}

// TestSplitOfManyStops asks all sets of places for long lists too.
func TestSplitOfManyStops(t *testing.T) {
	d := &dice{state: 132}
	for range 12 {
		f, cards := someTariff(d), []impl.Card{always(40+d.below(60), 0)}
		stops := someStops(d, 10)
		for len(stops) < 17+d.below(2) {
			stops = append(stops, (stops[len(stops)-1]+1)%20)
		}
		checkSplit(t, f, stops, cards, d.below(100001))
	}
	checkSplit(t, tariff(0, 10, 10), numbers(0, 19), []impl.Card{always(55, 0)}, 0)
}

func TestRefundByHand(t *testing.T) {
	given, one := tariff(100, 50, 10, 0, 33), tariff(0, 0, 1)
	cases := map[string]struct {
		tariff      impl.Tariff
		paid, hours int
		want        int
	}{
		"at 72 hours":                   {given, 243, 72, 240},
		"at 73 hours":                   {given, 243, 73, 240},
		"at 71 hours":                   {given, 243, 71, 180},
		"at 24 hours":                   {given, 243, 24, 180},
		"at 25 hours":                   {given, 243, 25, 180},
		"at 23 hours":                   {given, 243, 23, 120},
		"at 2 hours":                    {given, 243, 2, 120},
		"at 1 hour":                     {given, 243, 1, 120},
		"at 0 hours":                    {given, 243, 0, 0},
		"below 0":                       {given, 243, -1, 0},
		"far below 0":                   {given, 243, -72, 0},
		"the greatest hours":            {given, 243, math.MaxInt, 240},
		"the least hours":               {given, 243, math.MinInt, 0},
		"all of it, a Round of 1":       {one, 243, 72, 243},
		"three quarters, a Round of 1":  {one, 243, 71, 182},
		"half, a Round of 1":            {one, 243, 23, 121},
		"three quarters of 1":           {one, 1, 24, 0},
		"three quarters of 2":           {one, 2, 24, 1},
		"three quarters of 3":           {one, 3, 24, 2},
		"three quarters of 4":           {one, 4, 24, 3},
		"half of 1":                     {one, 1, 1, 0},
		"half of 2":                     {one, 2, 1, 1},
		"all of 1":                      {one, 1, 72, 1},
		"less than a Round":             {tariff(0, 0, 100), 99, 72, 0},
		"a Round":                       {tariff(0, 0, 100), 100, 72, 100},
		"half of a Round":               {tariff(0, 0, 100), 100, 1, 0},
		"a paid of -1":                  {given, -1, 5, -1},
		"a paid of -1, nothing to give": {given, -1, 0, -1},
		"a paid of -1, at 72 hours":     {given, -1, 72, -1},
		"a paid of 0":                   {given, 0, 72, 0},
		"a paid of 0, below 0":          {given, 0, -5, 0},
		"a paid of 10^7":                {given, 10000000, 72, 10000000},
		"three quarters of 10^7":        {given, 10000000, 24, 7500000},
		"half of 10^7":                  {given, 10000000, 1, 5000000},
		"nothing of 10^7":               {given, 10000000, 0, 0},
		"a paid of one more":            {given, 10000001, 72, -1},
		"a paid of one more, at 0":      {given, 10000001, 0, -1},
		"the least paid":                {given, math.MinInt, 72, -1},
		"the greatest paid":             {given, math.MaxInt, 72, -1},
	}
	for name, c := range cases {
		if got := impl.Refund(c.tariff, c.paid, c.hours); got != c.want {
			t.Errorf("%s: %d", name, got)
		}
		checkRefund(t, c.tariff, c.paid, c.hours)
	}
}

func TestRefundAtEveryHour(t *testing.T) {
	for hours := -30; hours <= 100; hours++ {
		for paid := -2; paid <= 210; paid++ {
			checkRefund(t, tariff(0, 0, 1), paid, hours)
			checkRefund(t, tariff(0, 0, 1+(paid+2)%100), paid, hours)
		}
		for _, paid := range []int{9999999, 10000000, 10000001} {
			checkRefund(t, tariff(0, 0, 7), paid, hours)
		}
	}
}

func TestPromise15(t *testing.T) {
	d := &dice{state: 133}
	for range 3000 {
		f, cards, minute, stops := someTariff(d), someCards(d), d.below(100001), someStops(d, 20)
		from, to := d.below(20), d.below(20)
		there, back := impl.Fare(f, from, to), impl.Fare(f, to, from)
		if there < 0 || there != back || there%f.Round != 0 {
			t.Fatalf("%+v: from %d to %d for %d, and back for %d", f, from, to, there, back)
		}
		past := there
		for k := range len(cards) + 1 {
			price := impl.Carded(f, there, cards[:k], minute)
			if price < 0 || price > past {
				t.Fatalf("%+v: of %+v the card at %d makes it %d, and not %d", f, cards, k-1, price, past)
			}
			past = price
		}
		turned := slices.Clone(stops)
		slices.Reverse(turned)
		through, cost, places := impl.Through(f, stops, cards, minute), 0, []int(nil)
		if through < 0 || through != impl.Through(f, turned, cards, minute) || through > impl.Through(f, stops, nil, minute) {
			t.Fatalf("%+v, %v, %+v: %d, there or back", f, stops, cards, through)
		}
		cost, places = impl.Split(f, stops, cards, minute)
		if other, _ := impl.Split(f, turned, cards, minute); cost < 0 || cost > through || cost != other {
			t.Fatalf("%+v, %v, %+v: %d, back %d, through %d", f, stops, cards, cost, other, through)
		}
		sum, at := 0, 0
		for _, place := range append(slices.Clone(places), len(stops)-1) {
			if place <= at || place > len(stops)-1 {
				t.Fatalf("%v: %v is not ascending", stops, places)
			}
			sum, at = sum+impl.Through(f, []int{stops[at], stops[place]}, cards, minute), place
		}
		if sum != cost || len(places) > 0 && cost == through {
			t.Fatalf("%+v, %v, %+v: %v for %d, and not %d", f, stops, cards, places, cost, sum)
		}
		paid, backed := d.below(10000001), 0
		for hours := -2; hours <= 75; hours++ {
			refund := impl.Refund(f, paid, hours)
			if refund < backed || refund > paid || refund%f.Round != 0 {
				t.Fatalf("%+v: of %d at %d hours %d", f, paid, hours, refund)
			}
			backed = refund
		}
	}
}

func TestFaresShareNoMemory(t *testing.T) {
	jumps := append(make([]int, 0, 30), 1, 2, 3)
	stops := append(make([]int, 0, 30), 0, 2, 4, 6, 8)
	cards := append(make([]impl.Card, 0, 9), always(55, 0))
	f := impl.Tariff{Step: 10, Round: 10, Jumps: jumps}
	f.Jumps = f.Jumps[:0]
	_, first := impl.Split(f, stops, cards, 0)
	_, second := impl.Split(f, stops, cards, 0)
	checkInts(t, "first", first, []int{1, 2, 3})
	for i := range first {
		first[i] = 77
	}
	_ = append(first, 78)
	checkInts(t, "second", second, []int{1, 2, 3})
	checkInts(t, "stops", stops[:cap(stops)], append([]int{0, 2, 4, 6, 8}, make([]int, 25)...))
	checkInts(t, "jumps", jumps[:cap(jumps)], append([]int{1, 2, 3}, make([]int, 27)...))
	if !slices.Equal(cards[:cap(cards)], append([]impl.Card{always(55, 0)}, make([]impl.Card, 8)...)) {
		t.Error(cards[:cap(cards)])
	}
	for i := range stops {
		stops[i] = 0
	}
	checkInts(t, "second, the stops changed", second, []int{1, 2, 3})
}

// TestFaresAreTheSameHoweverOften lets many ask at once, with other questions between.
func TestFaresAreTheSameHoweverOften(t *testing.T) {
	d := &dice{state: 134}
	for range 40 {
		f, cards, minute, stops := someTariff(d), someCards(d), d.below(100001), someStops(d, 20)
		cost, places := impl.Split(f, stops, cards, minute)
		through, refund := impl.Through(f, stops, cards, minute), impl.Refund(f, cost, 30)
		var group sync.WaitGroup
		for k := range 8 {
			group.Go(func() {
				impl.Split(tariff(k, k, k+1, k), numbers(0, 5+k), nil, k)
				impl.Carded(tariff(k, k, k+1), 100, []impl.Card{always(k, k)}, k)
				again, others := impl.Split(f, stops, cards, minute)
				if again != cost || !slices.Equal(others, places) {
					t.Errorf("%d, %v, and then %d, %v", cost, places, again, others)
				}
				if impl.Through(f, stops, cards, minute) != through || impl.Refund(f, cost, 30) != refund {
					t.Error("another answer")
				}
			})
		}
		group.Wait()
	}
}

func TestFaresNeverPanic(t *testing.T) {
	extremes := []int{math.MinInt, math.MinInt + 1, -1, 0, 1, 20, 100000, math.MaxInt - 1, math.MaxInt}
	d := &dice{state: 135}
	pick := func() int { return extremes[d.below(len(extremes))] }
	several := func(most int) []int {
		var list []int
		for range d.below(most) {
			list = append(list, pick())
		}
		return list
	}
	for range 20000 {
		f := impl.Tariff{Base: pick(), Step: pick(), Jumps: several(4), Round: pick()}
		if d.below(3) == 0 {
			f = tariff(5, 5, 1)
		}
		var cards []impl.Card
		for range d.below(3) {
			cards = append(cards, card(pick(), pick(), pick(), pick()))
		}
		stops, one, other := several(5), pick(), pick()
		if panicsIn(func() {
			impl.TariffOk(f)
			impl.CardsOk(cards)
			impl.Fare(f, one, other)
			impl.Carded(f, one, cards, other)
			impl.Through(f, stops, cards, one)
			impl.Split(f, stops, cards, one)
			impl.Refund(f, one, other)
		}) {
			t.Fatalf("%+v, %+v, %v, %d, %d", f, cards, stops, one, other)
		}
		checkFare(t, f, one, other)
		checkCarded(t, f, one, cards, other)
		checkSplit(t, f, stops, cards, one)
		checkRefund(t, f, one, other)
	}
	if panicsIn(func() {
		impl.Fare(impl.Tariff{}, 0, 0)
		impl.Carded(impl.Tariff{}, 0, nil, 0)
		impl.Through(impl.Tariff{}, nil, nil, 0)
		impl.Split(impl.Tariff{}, nil, nil, 0)
		impl.Refund(impl.Tariff{}, 0, 0)
	}) {
		t.Error("nothing at all")
	}
}
