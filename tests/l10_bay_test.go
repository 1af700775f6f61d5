package tests

import (
	"math"
	"runtime"
	"slices"
	"strconv"
	"testing"

	"loop.example/g00075/impl"
)

func stay(from, to, length int) impl.Stay {
	return impl.Stay{From: from, To: to, Len: length}
}

// alike gives so many bays of one length.
func alike(count, length int) []int {
	return slices.Repeat([]int{length}, count)
}

func metresByWords(x int) bool { return x > 0 && x < 1001 }

func gapByWords(gap int) bool { return gap > 0 && gap < 61 }

func baysByWords(bays []int) bool {
	for _, length := range bays {
		if !metresByWords(length) {
			return false
		}
	}
	return len(bays) > 0 && len(bays) < 13
}

func staysByWords(stays []impl.Stay) bool {
	for _, s := range stays {
		if !minuteByWords(s.From) || !minuteByWords(s.To) || s.To < s.From || !metresByWords(s.Len) {
			return false
		}
	}
	return len(stays) < 61
}

func holdsByWords(s impl.Stay, gap, minute int) bool {
	return s.From <= minute && minute <= s.To+gap-1
}

// bothHold asks in the minute in which the later one comes: if there is a minute that both hold, it is one.
func bothHold(a, b impl.Stay, gap int) bool {
	minute := max(a.From, b.From)
	return holdsByWords(a, gap, minute) && holdsByWords(b, gap, minute)
}

// peakByWords goes through every minute that somebody holds.
func peakByWords(stays []impl.Stay, gap int) int {
	if !staysByWords(stays) || !gapByWords(gap) {
		return 0
	}
	holders := map[int]int{}
	peak := 0
	for _, s := range stays {
		for minute := s.From; minute <= s.To+gap-1; minute++ {
			holders[minute]++
			peak = max(peak, holders[minute])
		}
	}
	return peak
}

// comersByWords tells the places of the stays in the order of From and then of place.
func comersByWords(stays []impl.Stay) []int {
	var order []int
	for len(order) < len(stays) {
		next := -1
		for place, s := range stays {
			if !slices.Contains(order, place) && (next == -1 || s.From < stays[next].From) {
				next = place
			}
		}
		order = append(order, next)
	}
	return order
}

// assignByWords goes over the bays from the last to the first, so that the first is kept.
func assignByWords(bays []int, stays []impl.Stay, gap int) []int {
	if !baysByWords(bays) || !staysByWords(stays) || !gapByWords(gap) {
		return nil
	}
	list := slices.Repeat([]int{-1}, len(stays))
	for _, comer := range comersByWords(stays) {
		got := -1
		for k := len(bays) - 1; k >= 0; k-- {
			can := bays[k] >= stays[comer].Len
			for place, other := range stays {
				if list[place] == k && bothHold(other, stays[comer], gap) {
					can = false
				}
			}
			if can {
				got = k
			}
		}
		list[comer] = got
	}
	return list
}

func assignOkByWords(bays []int, stays []impl.Stay, gap int, list []int) bool {
	if !baysByWords(bays) || !staysByWords(stays) || !gapByWords(gap) || len(list) != len(stays) {
		return false
	}
	for i, k := range list {
		if k == -1 {
			continue
		}
		if k < 0 || k >= len(bays) || bays[k] < stays[i].Len {
			return false
		}
		for j := range i {
			if list[j] == k && bothHold(stays[i], stays[j], gap) {
				return false
			}
		}
	}
	return true
}

func freeBaysByWords(bays []int, stays []impl.Stay, gap int, list []int, minute int) []int {
	if !assignOkByWords(bays, stays, gap, list) {
		return nil
	}
	free := numbers(0, len(bays)-1)
	for place, s := range stays {
		if holdsByWords(s, gap, minute) {
			free = slices.DeleteFunc(free, func(k int) bool { return k == list[place] })
		}
	}
	return free
}

func shortByWords(bays []int, stays []impl.Stay, gap int) int {
	list := assignByWords(bays, stays, gap)
	if len(list) == 0 {
		return -1
	}
	for _, place := range comersByWords(stays) {
		if list[place] == -1 {
			return place
		}
	}
	return -1
}

// asTheyWere fails when a list that was handed in is not as it was.
func asTheyWere(t *testing.T, bays, bays0 []int, stays, stays0 []impl.Stay, list, list0 []int) {
	t.Helper()
	if !slices.Equal(bays, bays0) || !slices.Equal(stays, stays0) || !slices.Equal(list, list0) {
		t.Fatalf("%v was %v, %v was %v, %v was %v", bays, bays0, stays, stays0, list, list0)
	}
}

// checkAssign holds what asks for no list against the words, and answers what Assign does.
func checkAssign(t *testing.T, bays []int, stays []impl.Stay, gap int) []int {
	t.Helper()
	bays0, stays0 := slices.Clone(bays), slices.Clone(stays)
	if got, want := impl.Peak(stays, gap), peakByWords(stays, gap); got != want {
		t.Fatalf("Peak(%v, %d): %d, not %d", stays, gap, got, want)
	}
	list := impl.Assign(bays, stays, gap)
	if want := assignByWords(bays, stays, gap); !slices.Equal(list, want) {
		t.Fatalf("Assign(%v, %v, %d): %v, not %v", bays, stays, gap, list, want)
	}
	if got, want := impl.ShortOf(bays, stays, gap), shortByWords(bays, stays, gap); got != want {
		t.Fatalf("ShortOf(%v, %v, %d): %d, not %d", bays, stays, gap, got, want)
	}
	asTheyWere(t, bays, bays0, stays, stays0, nil, nil)
	return list
}

// checkList holds what asks for a list against the words, in every one of the minutes.
func checkList(t *testing.T, bays []int, stays []impl.Stay, gap int, list []int, minutes ...int) bool {
	t.Helper()
	bays0, stays0, list0 := slices.Clone(bays), slices.Clone(stays), slices.Clone(list)
	ok := impl.AssignOk(bays, stays, gap, list)
	if ok != assignOkByWords(bays, stays, gap, list) {
		t.Fatalf("AssignOk(%v, %v, %d, %v): %v", bays, stays, gap, list, ok)
	}
	for _, minute := range minutes {
		got, want := impl.FreeBays(bays, stays, gap, list, minute), freeBaysByWords(bays, stays, gap, list, minute)
		if !slices.Equal(got, want) {
			t.Fatalf("FreeBays(%v, %v, %d, %v, %d): %v, not %v", bays, stays, gap, list, minute, got, want)
		}
	}
	asTheyWere(t, bays, bays0, stays, stays0, list, list0)
	return ok
}

// rimsOf gives the first and the last minute that each stay holds, and one beyond either.
func rimsOf(stays []impl.Stay, gap int) []int {
	minutes := []int{-1, 0, impl.MaxMinute, impl.MaxMinute + 1}
	for _, s := range stays {
		minutes = append(minutes, s.From-1, s.From, s.To, s.To+gap-1, s.To+gap)
	}
	return minutes
}

func wrongBays() map[string][]int {
	return map[string][]int{
		"nil":                nil,
		"none":               {},
		"one too many":       alike(13, 100),
		"far too many":       alike(1000, 100),
		"a length of 0":      {0},
		"a length below 0":   {100, -1},
		"a length too great": {100, 1001, 100},
		"the last too great": append(alike(11, 1000), 1001),
		"the greatest":       {math.MaxInt},
		"the least":          {math.MinInt},
	}
}

func wrongStays() map[string][]impl.Stay {
	return map[string][]impl.Stay{
		"one too many":            slices.Repeat([]impl.Stay{stay(5, 6, 7)}, 61),
		"far too many":            slices.Repeat([]impl.Stay{stay(5, 6, 7)}, 1000),
		"To ahead of From":        {stay(5, 4, 7)},
		"From below 0":            {stay(-1, 4, 7)},
		"both below 0":            {stay(-2, -1, 7)},
		"To below 0":              {stay(0, -1, 7)},
		"To beyond the minutes":   {stay(5, 100001, 7)},
		"both beyond the minutes": {stay(100001, 100001, 7)},
		"a length of 0":           {stay(5, 6, 0)},
		"a length below 0":        {stay(5, 6, -1)},
		"a length too great":      {stay(5, 6, 1001)},
		"all at nought":           {{}},
		"a wrong one at the end":  {stay(5, 6, 7), stay(5, 6, 7), stay(6, 5, 7)},
		"a wrong one at first":    {stay(5, 6, 1001), stay(5, 6, 7)},
		"a wrong one in between":  {stay(5, 6, 7), stay(100000, 100001, 7), stay(5, 6, 7)},
		"the greatest":            {stay(math.MaxInt, math.MaxInt, 7)},
		"the least":               {stay(math.MinInt, math.MinInt, 7)},
		"from least to greatest":  {stay(math.MinInt, math.MaxInt, 7)},
		"from greatest to least":  {stay(math.MaxInt, math.MinInt, 7)},
		"the greatest length":     {stay(5, 6, math.MaxInt)},
		"the least length":        {stay(5, 6, math.MinInt)},
	}
}

func wrongGaps() []int {
	return []int{0, -1, -60, impl.MaxGap + 1, 1000, math.MaxInt, math.MaxInt - 1, math.MinInt, math.MinInt + 1}
}

func someStays(d *dice, count, span, most, longest int) []impl.Stay {
	var stays []impl.Stay
	for range count {
		from := d.below(span)
		stays = append(stays, stay(from, from+d.below(most), 1+d.below(longest)))
	}
	return stays
}

func someBays(d *dice, count, longest int) []int {
	var bays []int
	for range count {
		bays = append(bays, 1+d.below(longest))
	}
	return bays
}

func TestBayConstants(t *testing.T) {
	if impl.MaxBays != 12 || impl.MaxStays != 60 || impl.MaxGap != 60 || impl.MaxMetres != 1000 {
		t.Error(impl.MaxBays, impl.MaxStays, impl.MaxGap, impl.MaxMetres)
	}
}

func TestBaysOk(t *testing.T) {
	right := map[string][]int{
		"one":                 {100},
		"one of a metre":      {1},
		"one of MaxMetres":    {impl.MaxMetres},
		"both ends":           {1, 1000, 1},
		"two that are alike":  {5, 5},
		"as many as may be":   alike(impl.MaxBays, 300),
		"and all of the most": alike(impl.MaxBays, impl.MaxMetres),
	}
	for name, bays := range right {
		if !impl.BaysOk(bays) {
			t.Error(name)
		}
	}
	for name, bays := range wrongBays() {
		if impl.BaysOk(bays) {
			t.Error(name)
		}
	}
	for count := range 20 {
		if got := impl.BaysOk(alike(count, 50)); got != (count >= 1 && count <= 12) {
			t.Errorf("%d bays: %v", count, got)
		}
		for place := range count {
			for _, length := range []int{-1, 0, 1, 1000, 1001} {
				bays := alike(count, 50)
				bays[place] = length
				if got := impl.BaysOk(bays); got != baysByWords(bays) {
					t.Errorf("%v: %v", bays, got)
				}
			}
		}
	}
}

func TestStaysOk(t *testing.T) {
	right := map[string][]impl.Stay{
		"nil":                   nil,
		"none":                  {},
		"one":                   {stay(5, 9, 80)},
		"From and To are alike": {stay(5, 5, 80)},
		"at minute 0":           {stay(0, 0, 80)},
		"at MaxMinute":          {stay(impl.MaxMinute, impl.MaxMinute, 80)},
		"the whole time":        {stay(0, impl.MaxMinute, 80)},
		"of one metre":          {stay(5, 9, 1)},
		"of MaxMetres":          {stay(5, 9, impl.MaxMetres)},
		"not in their order":    {stay(9, 9, 1), stay(5, 5, 1), stay(7, 8, 1)},
		"as many as may be":     slices.Repeat([]impl.Stay{stay(5, 9, 80)}, impl.MaxStays),
	}
	for name, stays := range right {
		if !impl.StaysOk(stays) {
			t.Error(name)
		}
	}
	for name, stays := range wrongStays() {
		if impl.StaysOk(stays) {
			t.Error(name)
		}
	}
	minutes := []int{-1, 0, 1, 2, 99999, 100000, 100001}
	for _, from := range minutes {
		for _, to := range minutes {
			for _, length := range []int{-1, 0, 1, 2, 999, 1000, 1001} {
				s := stay(from, to, length)
				for _, stays := range [][]impl.Stay{{s}, {stay(1, 1, 1), s}, {s, stay(1, 1, 1)}} {
					if got := impl.StaysOk(stays); got != staysByWords(stays) {
						t.Errorf("%v: %v", stays, got)
					}
				}
			}
		}
	}
}

func TestPeakByHand(t *testing.T) {
	cases := map[string]struct {
		stays []impl.Stay
		gap   int
		want  int
	}{
		"none":                            {nil, 1, 0},
		"one":                             {[]impl.Stay{stay(5, 9, 80)}, 60, 1},
		"one of a single minute":          {[]impl.Stay{stay(5, 5, 80)}, 1, 1},
		"two of one minute":               {[]impl.Stay{stay(5, 5, 1), stay(5, 5, 1)}, 1, 2},
		"one behind the other":            {[]impl.Stay{stay(5, 9, 1), stay(10, 12, 1)}, 1, 1},
		"in the very minute":              {[]impl.Stay{stay(5, 9, 1), stay(9, 12, 1)}, 1, 2},
		"when the gap ends":               {[]impl.Stay{stay(5, 9, 1), stay(16, 20, 1)}, 7, 1},
		"one minute earlier":              {[]impl.Stay{stay(5, 9, 1), stay(15, 20, 1)}, 7, 2},
		"MaxGap, when it ends":            {[]impl.Stay{stay(5, 9, 1), stay(69, 70, 1)}, 60, 1},
		"MaxGap, one minute earlier":      {[]impl.Stay{stay(5, 9, 1), stay(68, 70, 1)}, 60, 2},
		"the later one comes first":       {[]impl.Stay{stay(68, 70, 1), stay(5, 9, 1)}, 60, 2},
		"one within another":              {[]impl.Stay{stay(0, 50, 1), stay(10, 11, 1), stay(30, 31, 1)}, 1, 2},
		"each of them meets one":          {[]impl.Stay{stay(0, 10, 1), stay(10, 20, 1), stay(20, 30, 1)}, 1, 2},
		"two meet, but never three":       {[]impl.Stay{stay(0, 10, 1), stay(5, 20, 1), stay(11, 30, 1), stay(21, 40, 1)}, 1, 2},
		"the peak is at the end":          {[]impl.Stay{stay(0, 1, 1), stay(50, 60, 1), stay(55, 60, 1), stay(60, 60, 1)}, 1, 3},
		"the peak is at the beginning":    {[]impl.Stay{stay(0, 5, 1), stay(0, 0, 1), stay(0, 9, 1), stay(50, 60, 1), stay(60, 61, 1)}, 1, 3},
		"at the last minute":              {[]impl.Stay{stay(100000, 100000, 1), stay(99940, 99941, 1)}, 60, 2},
		"at the last minute, past it":     {[]impl.Stay{stay(100000, 100000, 1), stay(99939, 99940, 1)}, 60, 1},
		"the whole time":                  {[]impl.Stay{stay(0, 100000, 1), stay(0, 0, 1), stay(100000, 100000, 1)}, 60, 2},
		"the length makes no difference":  {[]impl.Stay{stay(5, 9, 1000), stay(5, 9, 1), stay(9, 10, 500)}, 1, 3},
		"as many as there may be, at one": {slices.Repeat([]impl.Stay{stay(5, 9, 80)}, 60), 1, 60},
	}
	for name, c := range cases {
		if got := impl.Peak(c.stays, c.gap); got != c.want {
			t.Errorf("%s: %d, not %d", name, got, c.want)
		}
		checkAssign(t, []int{1000, 1000}, c.stays, c.gap)
	}
}

func TestPeakRefuses(t *testing.T) {
	two := []impl.Stay{stay(5, 9, 80), stay(7, 9, 80)}
	for gap, want := range map[int]int{-1: 0, 0: 0, 1: 2, 60: 2, 61: 0} {
		if got := impl.Peak(two, gap); got != want {
			t.Errorf("a gap of %d: %d", gap, got)
		}
	}
	for _, gap := range wrongGaps() {
		if impl.Peak(two, gap) != 0 || impl.Peak(nil, gap) != 0 {
			t.Error("gap", gap)
		}
	}
	for name, stays := range wrongStays() {
		if impl.Peak(stays, 1) != 0 || impl.Peak(stays, 60) != 0 || impl.Peak(stays, 0) != 0 {
			t.Error(name)
		}
	}
}

func TestAssignByHand(t *testing.T) {
	cases := map[string]struct {
		bays  []int
		stays []impl.Stay
		gap   int
		list  []int
		short int
	}{
		"no stay":                      {[]int{100}, nil, 1, nil, -1},
		"one stay":                     {[]int{100}, []impl.Stay{stay(5, 9, 80)}, 1, []int{0}, -1},
		"a bay exactly as long":        {[]int{100}, []impl.Stay{stay(5, 9, 100)}, 1, []int{0}, -1},
		"a bay one metre too short":    {[]int{100}, []impl.Stay{stay(5, 9, 101)}, 1, []int{-1}, 0},
		"the first that is long":       {[]int{99, 98, 100, 101}, []impl.Stay{stay(5, 9, 100)}, 1, []int{2}, -1},
		"the first, not the shortest":  {[]int{900, 100}, []impl.Stay{stay(5, 9, 100), stay(5, 9, 800)}, 1, []int{0, -1}, 1},
		"two of one minute":            {[]int{100, 100}, []impl.Stay{stay(5, 5, 80), stay(5, 5, 80)}, 1, []int{0, 1}, -1},
		"two of one minute, one bay":   {[]int{100}, []impl.Stay{stay(5, 5, 80), stay(5, 5, 80)}, 1, []int{0, -1}, 1},
		"the next minute":              {[]int{100, 100}, []impl.Stay{stay(5, 5, 80), stay(6, 6, 80)}, 1, []int{0, 0}, -1},
		"when the gap ends":            {[]int{100, 100}, []impl.Stay{stay(5, 9, 80), stay(14, 20, 80)}, 5, []int{0, 0}, -1},
		"one minute earlier":           {[]int{100, 100}, []impl.Stay{stay(5, 9, 80), stay(13, 20, 80)}, 5, []int{0, 1}, -1},
		"one minute earlier, one bay":  {[]int{100}, []impl.Stay{stay(5, 9, 80), stay(13, 20, 80)}, 5, []int{0, -1}, 1},
		"MaxGap ends":                  {[]int{100, 100}, []impl.Stay{stay(5, 9, 80), stay(69, 70, 80)}, 60, []int{0, 0}, -1},
		"MaxGap, one minute earlier":   {[]int{100, 100}, []impl.Stay{stay(5, 9, 80), stay(68, 70, 80)}, 60, []int{0, 1}, -1},
		"a later place comes first":    {[]int{100}, []impl.Stay{stay(9, 12, 80), stay(5, 9, 80)}, 1, []int{-1, 0}, 0},
		"From alike, place tells":      {[]int{100}, []impl.Stay{stay(5, 90, 80), stay(5, 6, 1), stay(5, 5, 1)}, 1, []int{0, -1, -1}, 1},
		"From alike, To does not tell": {[]int{100, 100}, []impl.Stay{stay(5, 90, 80), stay(5, 6, 1), stay(7, 8, 1)}, 1, []int{0, 1, 1}, -1},
		"not in the order of From":     {[]int{100, 200}, []impl.Stay{stay(30, 40, 50), stay(0, 35, 50), stay(20, 33, 50)}, 1, []int{-1, 0, 1}, 0},
		"the order of the places":      {[]int{50, 50, 50}, []impl.Stay{stay(3, 9, 50), stay(2, 9, 50), stay(1, 9, 50)}, 1, []int{2, 1, 0}, -1},
		"one that gets none is no bar": {[]int{100}, []impl.Stay{stay(0, 90, 101), stay(5, 9, 80), stay(6, 90, 80), stay(10, 11, 80)}, 1, []int{-1, 0, -1, 0}, 0},
		"the short of comes first":     {[]int{100}, []impl.Stay{stay(50, 51, 900), stay(60, 61, 1), stay(40, 41, 900), stay(40, 45, 900)}, 1, []int{-1, 0, -1, -1}, 2},
		"a bay is taken once more":     {[]int{100, 200}, []impl.Stay{stay(0, 9, 150), stay(0, 5, 50), stay(6, 7, 50), stay(8, 9, 50), stay(10, 12, 50)}, 1, []int{1, 0, 0, 0, 0}, -1},
		"at the first minute":          {[]int{100}, []impl.Stay{stay(0, 0, 80), stay(1, 1, 80)}, 1, []int{0, 0}, -1},
		"at the last minute":           {[]int{100}, []impl.Stay{stay(100000, 100000, 80), stay(99999, 99999, 80)}, 1, []int{0, 0}, -1},
		"past the last minute":         {[]int{100}, []impl.Stay{stay(100000, 100000, 80), stay(99999, 99999, 80)}, 2, []int{-1, 0}, 0},
		"the whole time":               {[]int{1000}, []impl.Stay{stay(0, 100000, 1000), stay(100000, 100000, 1)}, 60, []int{0, -1}, 1},
		"a metre":                      {[]int{1}, []impl.Stay{stay(5, 9, 1), stay(50, 60, 2)}, 1, []int{0, -1}, 1},
	}
	for name, c := range cases {
		list := checkAssign(t, c.bays, c.stays, c.gap)
		checkInts(t, name, list, c.list)
		if got := impl.ShortOf(c.bays, c.stays, c.gap); got != c.short {
			t.Errorf("%s: short of %d, not %d", name, got, c.short)
		}
		if !checkList(t, c.bays, c.stays, c.gap, list, rimsOf(c.stays, c.gap)...) {
			t.Errorf("%s: not AssignOk", name)
		}
	}
}

func TestAssignAtItsLimits(t *testing.T) {
	// As many bays and stays as there may be: the first twelve stand, the others follow in the very minutes.
	var stays []impl.Stay
	for k := range impl.MaxStays {
		stays = append(stays, stay(k/12*10, k/12*10+8, impl.MaxMetres))
	}
	bays := alike(impl.MaxBays, impl.MaxMetres)
	list := checkAssign(t, bays, stays, 2)
	for k, got := range list {
		if got != k%12 {
			t.Errorf("stay %d: %d", k, got)
		}
	}
	if impl.Peak(stays, 2) != 12 || impl.Peak(stays, 3) != 24 || impl.ShortOf(bays, stays, 2) != -1 || impl.ShortOf(bays, stays, 3) != 12 {
		t.Error("the gap")
	}
	if impl.ShortOf(bays[:11], stays, 2) != 11 {
		t.Error("one bay fewer", impl.ShortOf(bays[:11], stays, 2))
	}
	last := stay(1000, 1000, 1)
	if impl.Assign(bays, append(stays, last), 2) != nil || impl.Peak(append(stays, last), 2) != 0 || impl.ShortOf(bays, append(stays, last), 3) != -1 {
		t.Error("one stay more")
	}
	if impl.Assign(append(bays, 1), stays, 2) != nil || impl.ShortOf(append(bays, 1), stays, 3) != -1 {
		t.Error("one bay more")
	}
	if impl.AssignOk(append(bays, 1), stays, 2, list) || impl.AssignOk(bays, append(stays, last), 2, append(list, 0)) || !impl.AssignOk(bays, stays, 2, list) {
		t.Error("one more of them")
	}
}

func TestShortOfByHand(t *testing.T) {
	crowd := []impl.Stay{stay(7, 9, 1), stay(5, 9, 1), stay(6, 9, 1), stay(5, 9, 1), stay(8, 9, 1)}
	for count, want := range map[int]int{0: -1, 1: 3, 2: 2, 3: 0, 4: 4, 5: -1, 12: -1, 13: -1} {
		if got := impl.ShortOf(alike(count, 10), crowd, 1); got != want {
			t.Errorf("%d bays: %d, not %d", count, got, want)
		}
	}
	if got := impl.ShortOf([]int{10}, nil, 1); got != -1 {
		t.Error("no stay", got)
	}
	for gap, want := range map[int]int{-1: -1, 0: -1, 1: 3, 60: 3, 61: -1} {
		if got := impl.ShortOf([]int{10}, crowd, gap); got != want {
			t.Errorf("a gap of %d: %d, not %d", gap, got, want)
		}
	}
}

func TestAssignRefuses(t *testing.T) {
	bays, stays := []int{100, 200}, []impl.Stay{stay(5, 9, 80), stay(5, 9, 80), stay(5, 9, 80)}
	refused := func(what any, bays []int, stays []impl.Stay, gap int) {
		t.Helper()
		if checkAssign(t, bays, stays, gap) != nil || impl.ShortOf(bays, stays, gap) != -1 {
			t.Error("Assign", what)
		}
		for _, list := range [][]int{nil, {-1}, {0}, {0, 1, -1}, slices.Repeat([]int{-1}, len(stays))} {
			if checkList(t, bays, stays, gap, list, 0, 5, 9, 100000) || impl.FreeBays(bays, stays, gap, list, 5) != nil {
				t.Error("AssignOk", what, list)
			}
		}
	}
	for name, wrong := range wrongBays() {
		refused(name, wrong, stays, 1)
		refused(name, wrong, nil, 1)
	}
	for name, wrong := range wrongStays() {
		refused(name, bays, wrong, 1)
		refused(name, nil, wrong, 0)
	}
	for _, gap := range wrongGaps() {
		refused(gap, bays, stays, gap)
		refused(gap, bays, nil, gap)
	}
	for _, gap := range []int{1, 60} {
		checkInts(t, "a right gap", checkAssign(t, bays, stays, gap), []int{0, 1, -1})
	}
}

func TestAssignOfEverySmallList(t *testing.T) {
	var choices []impl.Stay
	for _, times := range [][2]int{{0, 0}, {0, 2}, {1, 1}, {2, 3}, {3, 3}} {
		choices = append(choices, stay(times[0], times[1], 1), stay(times[0], times[1], 2))
	}
	manyLists(4, choices, func(stays []impl.Stay) {
		for _, bays := range [][]int{{2}, {1, 2}, {2, 1, 2}} {
			for gap := 1; gap <= 2; gap++ {
				if got, want := impl.Assign(bays, stays, gap), assignByWords(bays, stays, gap); !slices.Equal(got, want) {
					t.Fatalf("Assign(%v, %v, %d): %v, not %v", bays, stays, gap, got, want)
				}
				if got, want := impl.ShortOf(bays, stays, gap), shortByWords(bays, stays, gap); got != want {
					t.Fatalf("ShortOf(%v, %v, %d): %d, not %d", bays, stays, gap, got, want)
				}
			}
		}
		for gap := range 5 {
			if got, want := impl.Peak(stays, gap), peakByWords(stays, gap); got != want {
				t.Fatalf("Peak(%v, %d): %d, not %d", stays, gap, got, want)
			}
		}
	})
}

// TestFollowingByEveryGap has stays that follow when the gap ends, and a minute earlier.
func TestFollowingByEveryGap(t *testing.T) {
	for gap := 1; gap <= impl.MaxGap; gap++ {
		for _, length := range []int{0, 1, 30} {
			first := stay(10, 10+length, 5)
			for by := -1; by <= 2; by++ {
				second := stay(first.To+gap+by, first.To+gap+by+3, 5)
				want, peak := []int{0, -1}, 2
				if by >= 0 {
					want, peak = []int{0, 0}, 1
				}
				stays := []impl.Stay{first, second}
				checkInts(t, "Assign", checkAssign(t, []int{5}, stays, gap), want)
				if impl.Peak(stays, gap) != peak || checkList(t, []int{5}, stays, gap, []int{0, 0}) != (by >= 0) {
					t.Errorf("%v, gap %d", stays, gap)
				}
				checkList(t, []int{5}, stays, gap, want, rimsOf(stays, gap)...)
			}
		}
	}
}

func TestAssignOkByHand(t *testing.T) {
	bays := []int{100, 200}
	stays := []impl.Stay{stay(10, 20, 150), stay(5, 9, 80), stay(12, 15, 150), stay(21, 22, 90)}
	cases := map[string]struct {
		list []int
		want bool
	}{
		"as it is assigned":            {[]int{1, 0, -1, 0}, true},
		"nobody stands":                {[]int{-1, -1, -1, -1}, true},
		"another one stands":           {[]int{-1, 1, 1, 1}, true},
		"all that can in one bay":      {[]int{1, 1, -1, 1}, true},
		"two in one minute":            {[]int{1, 0, 1, 0}, false},
		"one on a bay too short":       {[]int{0, 0, -1, 0}, false},
		"a later one, too short":       {[]int{1, 0, 0, 0}, false},
		"too short, and nobody else":   {[]int{-1, -1, 0, -1}, false},
		"no such bay":                  {[]int{2, 0, -1, 0}, false},
		"no such bay at the end":       {[]int{1, 0, -1, 2}, false},
		"a place below -1":             {[]int{1, -2, -1, 0}, false},
		"the least of all":             {[]int{1, math.MinInt, -1, 0}, false},
		"the greatest of all":          {[]int{1, math.MaxInt, -1, 0}, false},
		"one fewer":                    {[]int{1, 0, -1}, false},
		"one more":                     {[]int{1, 0, -1, 0, -1}, false},
		"one more that would be a bay": {[]int{1, 0, -1, 0, 0}, false},
		"an empty one":                 {[]int{}, false},
		"nil":                          {nil, false},
	}
	for name, c := range cases {
		if got := checkList(t, bays, stays, 1, c.list, rimsOf(stays, 1)...); got != c.want {
			t.Errorf("%s: %v", name, got)
		}
		if got := impl.FreeBays(bays, stays, 1, c.list, 50000); c.want != slices.Equal(got, []int{0, 1}) || c.want == (got == nil) {
			t.Errorf("%s: free %v", name, got)
		}
	}
	if impl.AssignOk(bays, stays, 2, []int{1, 1, -1, 1}) || impl.AssignOk(bays, stays, 2, []int{1, 1, -1, 0}) || !impl.AssignOk(bays, stays, 2, []int{1, 0, -1, 0}) {
		t.Error("a gap of 2")
	}
	if !impl.AssignOk(bays, nil, 1, nil) || !impl.AssignOk(bays, []impl.Stay{}, 60, []int{}) || impl.AssignOk(bays, nil, 1, []int{-1}) || impl.AssignOk(bays, nil, 1, []int{0}) {
		t.Error("no stay")
	}
	if !impl.AssignOk([]int{150}, stays[:1], 1, []int{0}) || impl.AssignOk([]int{149}, stays[:1], 1, []int{0}) {
		t.Error("exactly as long, and a metre shorter")
	}
}

// TestAssignOkWhateverTheOrder has two stays in one bay that clash or not, the later one at the lesser place too.
func TestAssignOkWhateverTheOrder(t *testing.T) {
	for from := range 12 {
		for to := from; to < 12; to++ {
			for gap := 1; gap <= 4; gap++ {
				a, b := stay(4, 6, 1), stay(from, to, 1)
				want := to+gap <= 4 || 6+gap <= from
				if impl.AssignOk([]int{1}, []impl.Stay{a, b}, gap, []int{0, 0}) != want || impl.AssignOk([]int{1}, []impl.Stay{b, a}, gap, []int{0, 0}) != want {
					t.Errorf("%v, %v, gap %d: %v", a, b, gap, !want)
				}
				if !impl.AssignOk([]int{1, 1}, []impl.Stay{a, b}, gap, []int{0, 1}) || !impl.AssignOk([]int{1, 1}, []impl.Stay{b, a}, gap, []int{0, -1}) {
					t.Errorf("%v, %v, gap %d: not in one bay", a, b, gap)
				}
			}
		}
	}
	// The clash is that of the last ones, at the end of the minutes; and of one ahead with one far behind.
	late := []impl.Stay{stay(0, 5, 1), stay(99941, 99941, 1), stay(100000, 100000, 1)}
	if !checkList(t, []int{1}, late, 59, []int{0, 0, 0}, rimsOf(late, 59)...) || checkList(t, []int{1}, late, 60, []int{0, 0, 0}, rimsOf(late, 60)...) {
		t.Error("at the end")
	}
	long := []impl.Stay{stay(90000, 90001, 1), stay(50, 60, 1), stay(0, 90000, 1)}
	if checkList(t, []int{1, 1}, long, 1, []int{0, 1, 0}) || !checkList(t, []int{1, 1}, long, 1, []int{1, 1, 0}) {
		t.Error("far behind")
	}
}

func TestAssignOkOfEverySmallList(t *testing.T) {
	bays := []int{1, 2}
	stays := []impl.Stay{stay(2, 3, 1), stay(0, 1, 2), stay(3, 5, 2), stay(1, 1, 1)}
	for gap := 1; gap <= 3; gap++ {
		for count := range len(stays) + 1 {
			manyLists(5, numbers(-2, 2), func(list []int) {
				if got := impl.AssignOk(bays, stays[:count], gap, list); got != assignOkByWords(bays, stays[:count], gap, list) {
					t.Fatalf("AssignOk(%v, %d, %v): %v", stays[:count], gap, list, got)
				}
				for minute := -1; minute <= 9; minute++ {
					got, want := impl.FreeBays(bays, stays[:count], gap, list, minute), freeBaysByWords(bays, stays[:count], gap, list, minute)
					if !slices.Equal(got, want) {
						t.Fatalf("FreeBays(%v, %d, %v, %d): %v, not %v", stays[:count], gap, list, minute, got, want)
					}
				}
			})
		}
	}
}

func TestFreeBaysByHand(t *testing.T) {
	bays := []int{100, 200, 300}
	stays := []impl.Stay{stay(10, 20, 150), stay(12, 15, 150), stay(13, 13, 80)}
	list := []int{1, 2, 0}
	// With a gap of 3 bay 0 is held in 13 .. 15, bay 1 in 10 .. 22, and bay 2 in 12 .. 17.
	for minute, want := range map[int][]int{
		math.MinInt: {0, 1, 2}, -1: {0, 1, 2}, 0: {0, 1, 2}, 9: {0, 1, 2}, 10: {0, 2}, 11: {0, 2}, 12: {0}, 13: nil, 15: nil,
		16: {0}, 17: {0}, 18: {0, 2}, 22: {0, 2}, 23: {0, 1, 2}, 100000: {0, 1, 2}, 100001: {0, 1, 2}, math.MaxInt: {0, 1, 2},
	} {
		checkInts(t, "minute "+strconv.Itoa(minute), impl.FreeBays(bays, stays, 3, list, minute), want)
	}
	checkInts(t, "a greater gap", impl.FreeBays(bays, stays, 4, list, 16), nil)
	checkInts(t, "no stay", impl.FreeBays(bays, nil, 1, nil, 0), []int{0, 1, 2})
	checkInts(t, "nobody stands", impl.FreeBays(bays, stays, 1, []int{-1, -1, -1}, 13), []int{0, 1, 2})
	checkInts(t, "as many as may be", impl.FreeBays(alike(12, 1), []impl.Stay{stay(0, 0, 1)}, 1, []int{11}, 0), numbers(0, 10))
	// One behind the other in one bay, the later one at the lesser place.
	follow := []impl.Stay{stay(8, 9, 1), stay(2, 3, 1), stay(5, 5, 1)}
	for minute, free := range []bool{true, true, false, false, false, false, false, true, false, false, false, true} {
		if got := impl.FreeBays([]int{1}, follow, 2, []int{0, 0, 0}, minute); (len(got) == 1) != free {
			t.Errorf("minute %d: %v", minute, got)
		}
	}
	// The gap goes on past the last minute.
	last := []impl.Stay{stay(100000, 100000, 1)}
	for minute, held := range map[int]bool{99999: false, 100000: true, 100001: true, 100059: true, 100060: false} {
		if got := impl.FreeBays([]int{1}, last, 60, []int{0}, minute); (len(got) == 0) != held {
			t.Errorf("minute %d: %v", minute, got)
		}
	}
}

func TestPlatformsThrown(t *testing.T) {
	d := &dice{state: 101}
	short := 0
	for round := range 1500 {
		span := []int{10, 80, 500, 3000}[round%4]
		stays := someStays(d, d.below(61), span, 1+span/[]int{3, 20}[d.below(2)], 1+d.below(60))
		bays, gap := someBays(d, 1+d.below(12), 60), 1+d.below([]int{3, 60}[d.below(2)])
		list := checkAssign(t, bays, stays, gap)
		minutes := []int{d.below(span), d.below(span), span, span + gap}
		if !checkList(t, bays, stays, gap, list, minutes...) {
			t.Fatalf("an assignment that is not AssignOk: %v %v %d", bays, stays, gap)
		}
		if len(list) == 0 {
			continue
		}
		if slices.Contains(list, -1) {
			short++
		}
		for range 4 {
			list[d.below(len(list))] = d.below(len(bays)+2) - 1
			checkList(t, bays, stays, gap, list, minutes...)
		}
	}
	if short < 300 || short > 1400 {
		t.Error("the stays are too few or too many", short)
	}
}

// checkApart looks at every minute: nobody stands where another does, and everybody has room.
func checkApart(t *testing.T, bays []int, stays []impl.Stay, gap int, list []int) {
	t.Helper()
	type spot struct{ bay, minute int }
	held := map[spot]bool{}
	for place, k := range list {
		if k == -1 {
			continue
		}
		if bays[k] < stays[place].Len {
			t.Fatalf("%v is too long for bay %d of %v", stays[place], k, bays)
		}
		for minute := stays[place].From; minute <= stays[place].To+gap-1; minute++ {
			if held[spot{k, minute}] {
				t.Fatalf("two hold bay %d in minute %d: %v %v %d %v", k, minute, bays, stays, gap, list)
			}
			held[spot{k, minute}] = true
		}
	}
}

func TestPromise12(t *testing.T) {
	d := &dice{state: 102}
	var seen [14]int
	for range 1500 {
		span := 20 + d.below(300)
		stays, gap := someStays(d, 1+d.below(40), span, 1+d.below(25), 1000), 1+d.below(12)
		peak := impl.Peak(stays, gap)
		seen[min(peak, 13)]++
		longest := 0
		for _, s := range stays {
			longest = max(longest, s.Len)
		}
		for count := 1; count <= impl.MaxBays; count++ {
			bays := alike(count, longest)
			for k := range bays {
				bays[k] += d.below(1001 - longest)
			}
			list := impl.Assign(bays, stays, gap)
			if len(list) != len(stays) || !impl.AssignOk(bays, stays, gap, list) {
				t.Fatalf("Assign(%v, %v, %d): %v", bays, stays, gap, list)
			}
			checkApart(t, bays, stays, gap, list)
			enough := !slices.Contains(list, -1)
			if enough != (count >= peak) || enough != (impl.ShortOf(bays, stays, gap) == -1) {
				t.Fatalf("%d bays, a peak of %d: %v %v %d", count, peak, list, stays, gap)
			}
			bays = someBays(d, count, 1000)
			list = impl.Assign(bays, stays, gap)
			checkApart(t, bays, stays, gap, list)
			if count < peak && !slices.Contains(list, -1) {
				t.Fatalf("%v are enough for a peak of %d: %v", bays, peak, list)
			}
		}
	}
	for peak := 1; peak < len(seen); peak++ {
		if seen[peak] == 0 {
			t.Error("no peak of", peak, seen)
		}
	}
}

// TestFewerThanThePeak asks every list, not only the one that Assign answers.
func TestFewerThanThePeak(t *testing.T) {
	d := &dice{state: 103}
	for range 60 {
		stays, gap := someStays(d, 1+d.below(6), 12, 5, 3), 1+d.below(3)
		peak := impl.Peak(stays, gap)
		for count := 1; count <= peak; count++ {
			bays := alike(count, 3)
			best := len(stays)
			eachList(len(stays), count, func(list []int) {
				lower := make([]int, len(list))
				none := 0
				for place, k := range list {
					lower[place] = k - 1
					if k == 0 {
						none++
					}
				}
				if none < best && impl.AssignOk(bays, stays, gap, lower) {
					best = none
				}
			})
			if (best == 0) != (count == peak) {
				t.Fatalf("%d bays, a peak of %d, %v, gap %d: %d without a bay", count, peak, stays, gap, best)
			}
		}
	}
}

func TestPlatformsShareNoMemory(t *testing.T) {
	// Room behind the lists: what is put there would be seen.
	bays, stays, list := []int{100, 200, 7, 7}, []impl.Stay{stay(10, 20, 80), stay(5, 9, 80), stay(7, 7, 7), stay(7, 7, 7)}, []int{0, 1, 7, 7}
	bays0, stays0, list0 := slices.Clone(bays), slices.Clone(stays), slices.Clone(list)
	impl.Peak(stays[:2], 1)
	impl.ShortOf(bays[:2], stays[:2], 1)
	impl.AssignOk(bays[:2], stays[:2], 1, list[:2])
	got, free := impl.Assign(bays[:2], stays[:2], 1), impl.FreeBays(bays[:2], stays[:2], 1, list[:2], 0)
	asTheyWere(t, bays, bays0, stays, stays0, list, list0)
	if len(got) != 2 || len(free) != 2 {
		t.Fatal(got, free)
	}
	got[0], got[1], free[0], free[1] = -9, -9, -9, -9
	_, _ = append(got, -8), append(free, -8)
	asTheyWere(t, bays, bays0, stays, stays0, list, list0)
	checkInts(t, "Assign once more", impl.Assign(bays[:2], stays[:2], 1), []int{0, 0})
	checkInts(t, "FreeBays once more", impl.FreeBays(bays[:2], stays[:2], 1, list[:2], 0), []int{0, 1})
}

// TestPlatformsKeepNothing asks the same again, when other things were asked in between and stays stood to the end.
func TestPlatformsKeepNothing(t *testing.T) {
	before := runtime.NumGoroutine()
	bays, stays := []int{100, 100}, []impl.Stay{stay(5, 100000, 80), stay(5, 9, 80), stay(5, 9, 80)}
	for range 3 {
		checkInts(t, "Assign", impl.Assign(bays, stays, 60), []int{0, 1, -1})
		if !impl.AssignOk(bays, stays, 60, []int{0, -1, 1}) || impl.AssignOk(bays, stays, 60, []int{0, 1, 1}) || impl.ShortOf(bays, stays, 60) != 2 {
			t.Error("AssignOk")
		}
		checkInts(t, "FreeBays", impl.FreeBays(bays, stays, 60, []int{0, -1, 1}, 69), []int{1})
		checkInts(t, "FreeBays", impl.FreeBays(bays, stays, 60, []int{0, -1, 1}, 68), nil)
	}
	if after := runtime.NumGoroutine(); after > before {
		t.Error("goroutines are left", before, after)
	}
}

func TestPlatformsNeverPanic(t *testing.T) {
	extremes := []int{math.MinInt, math.MinInt + 1, -2, -1, 0, 1, 2, 12, 60, 61, 1000, 1001, 100000, 100001, math.MaxInt - 1, math.MaxInt}
	d := &dice{state: 104}
	pick := func() int { return extremes[d.below(len(extremes))] }
	for range 8000 {
		bays := []int{1 + d.below(9), pick(), 1000}[:d.below(4)]
		stays := []impl.Stay{stay(5, 6, 7), stay(d.below(9), pick(), 1+d.below(9)), stay(pick(), pick(), pick())}[:d.below(4)]
		list := []int{pick(), d.below(3), pick(), pick()}[:d.below(5)]
		gap, minute := []int{pick(), 1, 60}[d.below(3)], pick()
		if panicsIn(func() {
			impl.BaysOk(bays)
			impl.StaysOk(stays)
			checkAssign(t, bays, stays, gap)
			checkList(t, bays, stays, gap, list, minute)
			checkList(t, bays, stays, gap, assignByWords(bays, stays, gap), minute)
		}) {
			t.Fatalf("%v, %v, %d, %v, %d", bays, stays, gap, list, minute)
		}
	}
	if impl.BaysOk(nil) || !impl.StaysOk(nil) || impl.Peak(nil, 1) != 0 || impl.Assign(nil, nil, 1) != nil || impl.AssignOk(nil, nil, 1, nil) {
		t.Error("nil lists")
	}
	if impl.FreeBays(nil, nil, 1, nil, 0) != nil || impl.ShortOf(nil, nil, 1) != -1 || len(impl.Assign([]int{1}, nil, 1)) != 0 {
		t.Error("nil lists")
	}
	huge := make([]impl.Stay, 100000)
	if impl.Peak(huge, 1) != 0 || impl.Assign([]int{1}, huge, 1) != nil || impl.AssignOk([]int{1}, huge, 1, make([]int, 100000)) {
		t.Error("a huge list")
	}
}
