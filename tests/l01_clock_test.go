package tests

import (
	"fmt"
	"math"
	"slices"
	"strings"
	"testing"

	"loop.example/g00075/impl"
)

func TestTimeTextForms(t *testing.T) {
	for m, want := range map[int]string{
		0: "00:00", 1: "00:01", 9: "00:09", 10: "00:10", 59: "00:59", 60: "01:00", 425: "07:05",
		599: "09:59", 600: "10:00", 1439: "23:59", 1440: "24:00", 1510: "25:10",
		5999: "99:59", 6000: "100:00", 6001: "100:01", 59999: "999:59", 60000: "1000:00",
		impl.MaxMinute - 1: "1666:39", impl.MaxMinute: "1666:40",
		impl.MaxMinute + 1: "", -1: "", -60: "", math.MinInt: "", math.MaxInt: "",
	} {
		if got := impl.TimeText(m); got != want {
			t.Errorf("TimeText(%d) is %q, wanted %q", m, got, want)
		}
	}
}

func TestEveryMinuteIsReadAsItWasPrinted(t *testing.T) {
	for m := 0; m <= impl.MaxMinute; m++ {
		text := impl.TimeText(m)
		if want := fmt.Sprintf("%02d:%02d", m/60, m%60); text != want {
			t.Fatalf("TimeText(%d) is %q, wanted %q", m, text, want)
		}
		if got := impl.ReadTime(text); got != m {
			t.Fatalf("ReadTime(%q) is %d, wanted %d", text, got, m)
		}
	}
}

func TestReadTimeRefusesWhatNoMinutePrints(t *testing.T) {
	for _, text := range []string{
		"", ":", "::", "0", "00", "0000", "07", "07:", ":05", "7:05", "07:5", "007:05", "07:005", "0100:00", "00100:00",
		"07:60", "07:99", "00:100", "1666:41", "1666:59", "1667:00", "9999:00", "10000:00",
		"+7:05", "-7:05", "07:+5", "07:-5", "-0:00", "+0:00", "00:-0", "-1:59", "-01:00", "00:-1",
		" 07:05", "07:05 ", "07: 5", "07 :05", "07:05\n", "07:05:00", "07;05", "07.05", "0705",
		"0_7:05", "0x:05", "ab:cd", "0/:05", "0::05", "07:0:", "٠٧:٠٥", "07：05", "07:05\x00", "\xff7:05",
		"307445734561825860:16", "18446744073709551616:00", "00:18446744073709551616",
		strings.Repeat("9", 400) + ":00", strings.Repeat("0", 4000) + "7:05",
	} {
		if got := impl.ReadTime(text); got != -1 {
			t.Errorf("ReadTime(%q) is %d, wanted -1", text, got)
		}
	}
}

func TestReadTimeOfAllShortTexts(t *testing.T) {
	printed := map[string]int{}
	for m := 0; m <= impl.MaxMinute; m++ {
		printed[fmt.Sprintf("%02d:%02d", m/60, m%60)] = m
	}
	var try func(text string)
	try = func(text string) {
		want, ok := printed[text]
		if !ok {
			want = -1
		}
		if got := impl.ReadTime(text); got != want {
			t.Fatalf("ReadTime(%q) is %d, wanted %d", text, got, want)
		}
		if len(text) < 6 {
			for _, b := range []string{"0", "1", "5", "6", "9", ":", "-", "+"} {
				try(text + b)
			}
		}
	}
	try("")
}

// runDays tells by the words of the document on which days p runs; p must be right.
func runDays(p impl.Pattern) map[int]bool {
	days := map[int]bool{}
	for d := p.From; d <= p.To; d++ {
		if p.Week/(1<<(d%7))%2 == 1 {
			days[d] = true
		}
	}
	for _, d := range p.Skip {
		delete(days, d)
	}
	for _, d := range p.Extra {
		days[d] = true
	}
	return days
}

// somePattern throws a right pattern whose lists have at most most days each.
func somePattern(d *dice, most int) impl.Pattern {
	p := impl.Pattern{Week: d.below(128)}
	switch d.below(4) {
	case 0:
		p.From = d.below(20)
		p.To = p.From + d.below(30)
	case 1:
		p.To = impl.MaxDay - d.below(20)
		p.From = p.To - d.below(60)
	case 2:
		p.To = impl.MaxDay
	default:
		p.From = d.below(impl.MaxDay + 1)
		p.To = p.From + d.below(impl.MaxDay+1-p.From)
	}
	skips, extras := d.below(most+1), d.below(most+1)
	for tries := 0; tries < 60; tries++ {
		day := p.From + d.below(p.To-p.From+1)
		named := p.Week>>(day%7)&1 == 1
		if named && len(p.Skip) < skips && !slices.Contains(p.Skip, day) {
			p.Skip = append(p.Skip, day)
		}
		if !named && len(p.Extra) < extras && !slices.Contains(p.Extra, day) {
			p.Extra = append(p.Extra, day)
		}
	}
	slices.Sort(p.Skip)
	slices.Sort(p.Extra)
	return p
}

func samePattern(a, b impl.Pattern) bool {
	return a.Week == b.Week && a.From == b.From && a.To == b.To && slices.Equal(a.Skip, b.Skip) && slices.Equal(a.Extra, b.Extra)
}

func copyOf(p impl.Pattern) impl.Pattern {
	p.Skip, p.Extra = slices.Clone(p.Skip), slices.Clone(p.Extra)
	return p
}

func rightPatterns() []impl.Pattern {
	return []impl.Pattern{
		{},
		{Week: 127},
		{Week: 127, To: impl.MaxDay},
		{From: impl.MaxDay, To: impl.MaxDay},
		{Week: 1, Skip: []int{0}},
		{Week: 126, Extra: []int{0}},
		{Week: 127, From: impl.MaxDay, To: impl.MaxDay, Skip: []int{impl.MaxDay}},
		{Week: 0, From: impl.MaxDay, To: impl.MaxDay, Extra: []int{impl.MaxDay}},
		{Week: 6, From: 0, To: 10, Skip: []int{1, 8}, Extra: []int{0, 10}},
		{Week: 6, From: 0, To: 10, Skip: []int{}, Extra: []int{}},
		{Week: 127, From: 30, To: 100, Skip: numbers(30, 29+impl.MaxSkips)},
		{Week: 0, From: 30, To: 100, Extra: numbers(101-impl.MaxSkips, 100)},
		{Week: 64, From: 6, To: 6},
	}
}

func wrongPatterns() map[string]impl.Pattern {
	return map[string]impl.Pattern{
		"a week below 0":              {Week: -1, To: 10},
		"a week of eight days":        {Week: 128, To: 10},
		"the least week":              {Week: math.MinInt, To: 10},
		"the greatest week":           {Week: math.MaxInt, To: 10},
		"from below 0":                {Week: 127, From: -1, To: 10},
		"from below 0 by far":         {Week: 127, From: math.MinInt, To: 10},
		"from beyond to":              {Week: 127, From: 11, To: 10},
		"to below 0":                  {Week: 127, From: 0, To: -1},
		"to beyond the last day":      {Week: 127, From: 0, To: impl.MaxDay + 1},
		"to beyond it by far":         {Week: 127, From: 0, To: math.MaxInt},
		"both beyond the last day":    {Week: 127, From: impl.MaxDay + 1, To: impl.MaxDay + 1},
		"one skip too many":           {Week: 127, To: 100, Skip: numbers(0, impl.MaxSkips)},
		"one extra too many":          {Week: 0, To: 100, Extra: numbers(0, impl.MaxSkips)},
		"a skip ahead of from":        {Week: 127, From: 5, To: 10, Skip: []int{4}},
		"a skip beyond to":            {Week: 127, From: 5, To: 10, Skip: []int{11}},
		"an extra ahead of from":      {Week: 0, From: 5, To: 10, Extra: []int{4}},
		"an extra beyond to":          {Week: 0, From: 5, To: 10, Extra: []int{11}},
		"a skip below 0":              {Week: 127, To: 10, Skip: []int{-7}},
		"an extra below 0":            {Week: 0, To: 10, Extra: []int{-7}},
		"skips that fall":             {Week: 127, To: 10, Skip: []int{5, 4}},
		"extras that fall":            {Week: 0, To: 10, Extra: []int{5, 4}},
		"skips alike":                 {Week: 127, To: 10, Skip: []int{4, 4}},
		"extras alike":                {Week: 0, To: 10, Extra: []int{4, 4}},
		"the last skip falls":         {Week: 127, To: 10, Skip: []int{1, 2, 9, 8}},
		"a skip that does not run":    {Week: 6, To: 10, Skip: []int{3}},
		"an extra that runs anyway":   {Week: 6, To: 10, Extra: []int{9}},
		"the last skip does not run":  {Week: 6, To: 10, Skip: []int{1, 2, 10}},
		"the last extra runs anyway":  {Week: 6, To: 10, Extra: []int{0, 3, 8}},
		"right skips, a wrong extra":  {Week: 6, To: 10, Skip: []int{1}, Extra: []int{2}},
		"right extras, a wrong skip":  {Week: 6, To: 10, Skip: []int{0}, Extra: []int{3}},
		"a skip of the greatest days": {Week: 127, To: 10, Skip: []int{math.MaxInt}},
		"an extra of the least days":  {Week: 0, To: 10, Extra: []int{math.MinInt}},
	}
}

func TestPatternOk(t *testing.T) {
	for _, p := range rightPatterns() {
		if !impl.PatternOk(p) {
			t.Errorf("%v is right", p)
		}
	}
	for name, p := range wrongPatterns() {
		if impl.PatternOk(p) {
			t.Errorf("%s: %v is wrong", name, p)
		}
	}
}

func TestWrongPatternsGetTheFixedAnswers(t *testing.T) {
	right := impl.Pattern{Week: 127, To: impl.MaxDay}
	for name, p := range wrongPatterns() {
		bad := panicsIn(func() {
			for _, day := range []int{math.MinInt, -7, -1, 0, 1, 4, 5, 10, impl.MaxDay, impl.MaxDay + 1, math.MaxInt} {
				if impl.RunsOn(p, day) || impl.NextRun(p, day) != -1 {
					t.Errorf("%s: runs on or after day %d", name, day)
				}
			}
			if impl.Runs(p) != 0 {
				t.Errorf("%s: runs", name)
			}
			for _, b := range []impl.Pattern{impl.Both(p, right), impl.Both(right, p), impl.Both(p, p)} {
				if !samePattern(b, impl.Pattern{}) {
					t.Errorf("%s: Both is %v", name, b)
				}
			}
			for _, n := range []int{math.MinInt, -1, 0, 1, 7, math.MaxInt} {
				if l := impl.Later(p, n); !samePattern(l, impl.Pattern{}) {
					t.Errorf("%s: Later by %d is %v", name, n, l)
				}
			}
		})
		if bad {
			t.Errorf("%s: panics", name)
		}
	}
}

// checkRuns holds RunsOn, Runs and NextRun against the days by the document's words.
func checkRuns(t *testing.T, p impl.Pattern) {
	t.Helper()
	days := runDays(p)
	if got := impl.Runs(p); got != len(days) {
		t.Fatalf("Runs(%v) is %d, wanted %d", p, got, len(days))
	}
	next := -1
	for day := impl.MaxDay + 8; day >= -8; day-- {
		if days[day] {
			next = day
		}
		if got := impl.RunsOn(p, day); got != days[day] {
			t.Fatalf("RunsOn(%v, %d) is %v", p, day, got)
		}
		// Far from the pattern's days every answer is the same as at its ends.
		if day < p.From-8 || day > p.To+8 {
			continue
		}
		if got := impl.NextRun(p, day); got != next {
			t.Fatalf("NextRun(%v, %d) is %d, wanted %d", p, day, got, next)
		}
	}
	if impl.NextRun(p, math.MinInt) != next || impl.NextRun(p, math.MaxInt) != -1 {
		t.Fatalf("NextRun(%v) of the least or the greatest day", p)
	}
	if impl.RunsOn(p, math.MinInt) || impl.RunsOn(p, math.MaxInt) {
		t.Fatalf("RunsOn(%v) of the least or the greatest day", p)
	}
}

func TestRunsDayByDay(t *testing.T) {
	for _, p := range rightPatterns() {
		checkRuns(t, p)
	}
	d := &dice{state: 1}
	for range 40 {
		p := somePattern(d, impl.MaxSkips)
		if !impl.PatternOk(p) {
			t.Fatalf("%v is right", p)
		}
		checkRuns(t, p)
	}
}

func TestRunsAtTheEnds(t *testing.T) {
	all := impl.Pattern{Week: 127, From: 3, To: 9}
	if impl.RunsOn(all, 2) || !impl.RunsOn(all, 3) || !impl.RunsOn(all, 9) || impl.RunsOn(all, 10) {
		t.Error("From and To are both days of it")
	}
	if impl.NextRun(all, 0) != 3 || impl.NextRun(all, 3) != 3 || impl.NextRun(all, 9) != 9 || impl.NextRun(all, 10) != -1 {
		t.Error("the next run may be on the day itself")
	}
	if impl.Runs(all) != 7 || impl.Runs(impl.Pattern{Week: 127, To: impl.MaxDay}) != impl.MaxDay+1 || impl.Runs(impl.Pattern{To: impl.MaxDay}) != 0 {
		t.Error("how many")
	}
	if !impl.RunsOn(impl.Pattern{Week: 1}, 0) || !impl.RunsOn(impl.Pattern{Week: 1 << (impl.MaxDay % 7), To: impl.MaxDay}, impl.MaxDay) {
		t.Error("the first and the last of all days")
	}
}

func TestEveryWeekdayHasItsBit(t *testing.T) {
	for k := 0; k < 7; k++ {
		p := impl.Pattern{Week: 1 << k, To: impl.MaxDay}
		for day := 0; day <= impl.MaxDay; day++ {
			if impl.RunsOn(p, day) != (day%7 == k) {
				t.Fatalf("weekday %d on day %d", k, day)
			}
		}
	}
}

// bothByWords tells Both by the words of the document; p and q must be right.
func bothByWords(p, q impl.Pattern) impl.Pattern {
	b := impl.Pattern{From: max(p.From, q.From), To: min(p.To, q.To)}
	for k := range 7 {
		if p.Week>>k&1 == 1 && q.Week>>k&1 == 1 {
			b.Week += 1 << k
		}
	}
	inP, inQ := runDays(p), runDays(q)
	for d := b.From; d <= b.To; d++ {
		named, run := b.Week>>(d%7)&1 == 1, inP[d] && inQ[d]
		if named && !run {
			b.Skip = append(b.Skip, d)
		} else if !named && run {
			b.Extra = append(b.Extra, d)
		}
	}
	if b.From > b.To || len(b.Skip) > impl.MaxSkips || len(b.Extra) > impl.MaxSkips {
		return impl.Pattern{}
	}
	return b
}

func checkBoth(t *testing.T, p, q impl.Pattern) {
	t.Helper()
	p0, q0 := copyOf(p), copyOf(q)
	b, want := impl.Both(p, q), bothByWords(p, q)
	if !samePattern(b, want) {
		t.Fatalf("Both(%v, %v) is %v, wanted %v", p, q, b, want)
	}
	if !samePattern(p, p0) || !samePattern(q, q0) {
		t.Fatalf("Both(%v, %v) wrote into an argument", p0, q0)
	}
	if !impl.PatternOk(b) {
		t.Fatalf("Both(%v, %v) is no pattern", p, q)
	}
	if samePattern(b, impl.Pattern{}) {
		return
	}
	for day := -1; day <= impl.MaxDay+1; day++ {
		if impl.RunsOn(b, day) != (impl.RunsOn(p, day) && impl.RunsOn(q, day)) {
			t.Fatalf("Both(%v, %v) on day %d", p, q, day)
		}
	}
}

func TestBothRunsJustWhenBothRun(t *testing.T) {
	for _, p := range rightPatterns() {
		for _, q := range rightPatterns() {
			checkBoth(t, p, q)
		}
	}
	d := &dice{state: 2}
	refused := 0
	for range 400 {
		p, q := somePattern(d, impl.MaxSkips), somePattern(d, impl.MaxSkips)
		checkBoth(t, p, q)
		if samePattern(impl.Both(p, q), impl.Pattern{}) {
			refused++
		}
	}
	if refused == 0 || refused == 400 {
		t.Error("the throws must show both outcomes", refused)
	}
}

func TestBothByHand(t *testing.T) {
	p := impl.Pattern{Week: 6, From: 0, To: 30, Skip: []int{8, 22}, Extra: []int{3, 10, 28}}
	q := impl.Pattern{Week: 10, From: 2, To: 40, Skip: []int{10, 15, 22, 36}, Extra: []int{9, 28}}
	// In common: weekday 1. Of days 8, 15, 22 and 29 both run on 29 alone; beside it on 3 (Extra and weekday 3), 9 and 28.
	want := impl.Pattern{Week: 2, From: 2, To: 30, Skip: []int{8, 15, 22}, Extra: []int{3, 9, 28}}
	if got := impl.Both(p, q); !samePattern(got, want) {
		t.Errorf("Both is %v, wanted %v", got, want)
	}
	if got := impl.Both(q, p); !samePattern(got, want) {
		t.Errorf("Both the other way round is %v, wanted %v", got, want)
	}
}

func TestBothWithoutCommonDays(t *testing.T) {
	early, late := impl.Pattern{Week: 127, From: 3, To: 9}, impl.Pattern{Week: 127, From: 10, To: 12}
	if b := impl.Both(early, late); !samePattern(b, impl.Pattern{}) {
		t.Error("From beyond To", b)
	}
	late.From = 9
	if b := impl.Both(early, late); !samePattern(b, impl.Pattern{Week: 127, From: 9, To: 9}) {
		t.Error("one day in common", b)
	}
}

func TestBothOfFullLists(t *testing.T) {
	p := impl.Pattern{Week: 127, To: 99, Skip: numbers(0, impl.MaxSkips-2)}
	q := impl.Pattern{Week: 127, To: 99, Skip: []int{50}}
	if b := impl.Both(p, q); len(b.Skip) != impl.MaxSkips || b.Week != 127 {
		t.Error("a full Skip", b)
	}
	q.Skip = []int{50, 60}
	if b := impl.Both(p, q); !samePattern(b, impl.Pattern{}) {
		t.Error("one day of Skip too many", b)
	}
	q.Skip = []int{0, 60}
	if b := impl.Both(p, q); len(b.Skip) != impl.MaxSkips {
		t.Error("a day in both lists counts once", b)
	}
	p = impl.Pattern{Week: 0, To: 99, Extra: numbers(0, impl.MaxSkips-1)}
	q = impl.Pattern{Week: 127, To: 99}
	if b := impl.Both(p, q); len(b.Extra) != impl.MaxSkips || b.Week != 0 {
		t.Error("a full Extra", b)
	}
	// 13 days of weekdays 0 to 5 and 8 of weekday 6 are one more than the list takes.
	p = impl.Pattern{Week: 64, To: 99, Extra: []int{0, 1, 2, 3, 4, 5, 7, 8, 9, 10, 11, 12, 14}}
	q = impl.Pattern{Week: 63, To: 99, Extra: []int{6, 13, 20, 27, 34, 41, 48, 55}}
	if b := impl.Both(p, q); !samePattern(b, impl.Pattern{}) {
		t.Error("one day of Extra too many", b)
	}
	q.Extra = q.Extra[:7]
	if b := impl.Both(p, q); len(b.Extra) != impl.MaxSkips {
		t.Error("Extra from both sides", b)
	}
}

func checkLater(t *testing.T, p impl.Pattern, n int) {
	t.Helper()
	p0 := copyOf(p)
	l := impl.Later(p, n)
	if !samePattern(p, p0) {
		t.Fatalf("Later(%v, %d) wrote into its argument", p0, n)
	}
	if n < -impl.MaxDay || n > impl.MaxDay || p.From+n < 0 || p.To+n > impl.MaxDay {
		if !samePattern(l, impl.Pattern{}) {
			t.Fatalf("Later(%v, %d) is %v", p, n, l)
		}
		return
	}
	if !impl.PatternOk(l) || l.From != p.From+n || l.To != p.To+n || len(l.Skip) != len(p.Skip) || len(l.Extra) != len(p.Extra) {
		t.Fatalf("Later(%v, %d) is %v", p, n, l)
	}
	for k := range 7 {
		if l.Week>>(((k+n)%7+7)%7)&1 != p.Week>>k&1 {
			t.Fatalf("Later(%v, %d): bit %d of %d", p, n, k, l.Week)
		}
	}
	for day := max(0, p.From-8); day <= min(p.To+8, impl.MaxDay); day++ {
		if impl.RunsOn(l, day+n) != impl.RunsOn(p, day) {
			t.Fatalf("Later(%v, %d) on day %d", p, n, day+n)
		}
	}
	if back := impl.Later(l, -n); !samePattern(back, p) {
		t.Fatalf("Later(%v, %d) moved back is %v", p, n, back)
	}
}

func TestLaterAndBackIsAsItWas(t *testing.T) {
	d := &dice{state: 3}
	list := rightPatterns()
	for range 150 {
		list = append(list, somePattern(d, impl.MaxSkips))
	}
	for _, p := range list {
		for _, n := range []int{-impl.MaxDay, -8, -7, -6, -1, 0, 1, 6, 7, 8, impl.MaxDay, -p.From, impl.MaxDay - p.To, -p.From - 1, impl.MaxDay - p.To + 1, d.below(200) - 100} {
			checkLater(t, p, n)
		}
	}
}

func TestLaterAtTheLimits(t *testing.T) {
	first := impl.Pattern{Week: 3, Skip: []int{0}}
	last := impl.Later(first, impl.MaxDay)
	// MaxDay is 3 more than a multiple of 7.
	if !samePattern(last, impl.Pattern{Week: 24, From: impl.MaxDay, To: impl.MaxDay, Skip: []int{impl.MaxDay}}) {
		t.Error("from the first day to the last", last)
	}
	if !samePattern(impl.Later(last, -impl.MaxDay), first) {
		t.Error("from the last day to the first")
	}
	for _, n := range []int{math.MinInt, math.MinInt + 1, -impl.MaxDay - 1, -1, impl.MaxDay + 1, math.MaxInt} {
		if l := impl.Later(first, n); !samePattern(l, impl.Pattern{}) {
			t.Error("too far", n, l)
		}
	}
	for _, n := range []int{math.MinInt, -impl.MaxDay - 1, 1, impl.MaxDay + 1, math.MaxInt} {
		if l := impl.Later(last, n); !samePattern(l, impl.Pattern{}) {
			t.Error("too far from the last day", n, l)
		}
	}
	p := impl.Pattern{Week: 65, From: 7, To: 20}
	for n, want := range map[int]int{-7: 65, -1: 96, 0: 65, 1: 3, 2: 6, 6: 96, 7: 65, 8: 3} {
		if got := impl.Later(p, n).Week; got != want {
			t.Errorf("the week by %d later is %d, wanted %d", n, got, want)
		}
	}
}

func TestPatternsShareNoMemory(t *testing.T) {
	p := impl.Pattern{Week: 6, From: 0, To: 30, Skip: append(make([]int, 0, 30), 1, 8), Extra: append(make([]int, 0, 30), 0, 10)}
	q := impl.Pattern{Week: 127, From: 0, To: 30}
	p0 := copyOf(p)
	for _, a := range []impl.Pattern{impl.Later(p, 0), impl.Later(p, 7), impl.Both(p, q), impl.Both(q, p), impl.Both(p, p)} {
		a0 := copyOf(a)
		a.Skip = append(a.Skip, 99, 99, 99, 99)
		if !slices.Equal(a.Extra, a0.Extra) {
			t.Error("Skip and Extra share memory")
		}
		for i := range a.Skip {
			a.Skip[i] = -5
		}
		for i := range a.Extra {
			a.Extra[i] = -5
		}
		if !samePattern(p, p0) {
			t.Error("an answer shares memory with an argument")
		}
	}
}
