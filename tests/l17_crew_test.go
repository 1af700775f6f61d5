package tests

import (
	"math"
	"slices"
	"sync"
	"testing"

	"loop.example/g00075/impl"
)

func crewRule(spread, drive, rest, stretch int) impl.Rule {
	return impl.Rule{Spread: spread, Drive: drive, Rest: rest, Stretch: stretch}
}

// wideRule lets nearly everything through; of its numbers none is passed by what a day can hold.
func wideRule() impl.Rule {
	return crewRule(1440, 1440, 1, 1440)
}

// threeRides lead from node to node, an hour each, with pauses of 10 and 40 minutes.
func threeRides() []impl.Task {
	return jobs(job(0, 1, 0, 60, 0), job(1, 2, 70, 130, 0), job(2, 0, 170, 230, 0))
}

// ridesWithPauses gives tasks at one node, each of so many minutes, with the pauses between them; a pause below 0 lets
// a task begin ahead of the end of the one ahead.
func ridesWithPauses(start int, minutes []int, pauses ...int) []impl.Task {
	var list []impl.Task
	dep := start
	for k, length := range minutes {
		list = append(list, job(5, 5, dep, dep+length, 0))
		if k < len(pauses) {
			dep += length + pauses[k]
		}
	}
	return list
}

func ruleByWords(r impl.Rule) bool {
	for _, minutes := range []int{r.Spread, r.Drive, r.Rest, r.Stretch} {
		if minutes < 1 || minutes > 1440 {
			return false
		}
	}
	return true
}

func placesByWords(list []impl.Task, places []int) bool {
	for k, place := range places {
		if place < 0 || place >= len(list) || slices.Index(places, place) != k {
			return false
		}
	}
	return jobsByWords(list)
}

func dutyByWords(list []impl.Task, duty []int) bool {
	return len(duty) > 0 && len(duty) < 13 && placesByWords(list, duty)
}

func drivenByWords(list []impl.Task, duty []int) int {
	if !dutyByWords(list, duty) {
		return -1
	}
	ends, begins := 0, 0
	for _, place := range duty {
		ends += list[place].Arr
		begins += list[place].Dep
	}
	return ends - begins
}

// stretchedByWords asks every piece of the duty whether all of its pauses are too short.
func stretchedByWords(list []impl.Task, duty []int, rest int) int {
	if !dutyByWords(list, duty) || rest < 1 || rest > 1440 {
		return -1
	}
	greatest := 0
	for first := range duty {
		for last := first; last < len(duty); last++ {
			short := true
			for k := first + 1; k <= last; k++ {
				short = short && list[duty[k]].Dep-list[duty[k-1]].Arr < rest
			}
			if short {
				greatest = max(greatest, drivenByWords(list, duty[first:last+1]))
			}
		}
	}
	return greatest
}

func dutySpreadByWords(list []impl.Task, duty []int) int {
	return list[duty[len(duty)-1]].Arr - list[duty[0]].Dep
}

func dutyCodeByWords(list []impl.Task, duty []int, r impl.Rule) int {
	if !dutyByWords(list, duty) || !ruleByWords(r) {
		return 1
	}
	for k := 1; k < len(duty); k++ {
		a, b := list[duty[k-1]], list[duty[k]]
		if b.From != a.To || b.Dep < a.Arr {
			return 2
		}
	}
	if dutySpreadByWords(list, duty) > r.Spread {
		return 3
	}
	if drivenByWords(list, duty) > r.Drive {
		return 4
	}
	if stretchedByWords(list, duty, r.Rest) > r.Stretch {
		return 5
	}
	return 0
}

func wageByWords(list []impl.Task, duty []int, r impl.Rule, rate int) int {
	if dutyCodeByWords(list, duty, r) != 0 || rate < 0 || rate > 1000 {
		return -1
	}
	half := r.Drive / 2
	wage := rate * dutySpreadByWords(list, duty)
	for minute := range drivenByWords(list, duty) {
		if minute >= half {
			wage += rate
		}
	}
	return wage
}

// reliefByWords tries one duty, then two and so on, and of each number the ways in the order in which they compare.
func reliefByWords(list []impl.Task, chain []int, r impl.Rule) ([]int, bool) {
	if len(chain) > 40 || !placesByWords(list, chain) || !ruleByWords(r) {
		return nil, false
	}
	// What has failed once fails again: a place from which so many duties don't reach the end.
	failed := map[[2]int]bool{}
	var cover func(from, duties int) ([]int, bool)
	cover = func(from, duties int) ([]int, bool) {
		if from == len(chain) || duties == 0 || failed[[2]int{from, duties}] {
			return nil, from == len(chain) && duties == 0
		}
		for next := from + 1; next <= len(chain); next++ {
			if dutyCodeByWords(list, chain[from:next], r) != 0 {
				continue
			}
			if rest, ok := cover(next, duties-1); ok {
				return append([]int{from}, rest...), true
			}
		}
		failed[[2]int{from, duties}] = true
		return nil, false
	}
	for duties := range len(chain) + 1 {
		if begins, ok := cover(0, duties); ok {
			return begins, true
		}
	}
	return nil, false
}

// reliefOfAllWays goes through every way to cut the chain.
func reliefOfAllWays(list []impl.Task, chain []int, r impl.Rule) ([]int, bool) {
	var best []int
	found := false
	for cuts := range 1 << max(len(chain)-1, 0) {
		begins := []int{0}
		for k := 1; k < len(chain); k++ {
			if cuts>>(k-1)&1 == 1 {
				begins = append(begins, k)
			}
		}
		if fineDuties(list, chain, r, begins) && (!found || len(begins) < len(best) || len(begins) == len(best) && slices.Compare(begins, best) < 0) {
			best, found = begins, true
		}
	}
	return best, found
}

// dutiesFrom cuts a chain at the places at which its duties begin.
func dutiesFrom(chain, begins []int) [][]int {
	var duties [][]int
	for k, from := range begins {
		to := len(chain)
		if k+1 < len(begins) {
			to = begins[k+1]
		}
		duties = append(duties, chain[from:to])
	}
	return duties
}

func fineDuties(list []impl.Task, chain []int, r impl.Rule, begins []int) bool {
	for _, duty := range dutiesFrom(chain, begins) {
		if impl.DutyCode(list, duty, r) != impl.DutyFine {
			return false
		}
	}
	return true
}

// checkDuty holds all that is told of a duty against the words, and answers its code.
func checkDuty(t *testing.T, list []impl.Task, duty []int, r impl.Rule, rate int) int {
	t.Helper()
	was, duty0 := slices.Clone(list), slices.Clone(duty)
	if got, want := impl.RuleOk(r), ruleByWords(r); got != want {
		t.Fatalf("RuleOk(%v): %v", r, got)
	}
	if got, want := impl.Driven(list, duty), drivenByWords(list, duty); got != want {
		t.Fatalf("Driven(%v, %v): %d, not %d", list, duty, got, want)
	}
	checkStretched(t, list, duty, r.Rest)
	code := impl.DutyCode(list, duty, r)
	if want := dutyCodeByWords(list, duty, r); code != want {
		t.Fatalf("DutyCode(%v, %v, %v): %d, not %d", list, duty, r, code, want)
	}
	if got, want := impl.Wage(list, duty, r, rate), wageByWords(list, duty, r, rate); got != want {
		t.Fatalf("Wage(%v, %v, %v, %d): %d, not %d", list, duty, r, rate, got, want)
	}
	if !slices.Equal(list, was) || !slices.Equal(duty, duty0) {
		t.Fatalf("%v was %v, %v was %v", list, was, duty, duty0)
	}
	return code
}

func checkStretched(t *testing.T, list []impl.Task, duty []int, rest int) int {
	t.Helper()
	got := impl.Stretched(list, duty, rest)
	if want := stretchedByWords(list, duty, rest); got != want {
		t.Fatalf("Stretched(%v, %v, %d): %d, not %d", list, duty, rest, got, want)
	}
	return got
}

func checkRelief(t *testing.T, list []impl.Task, chain []int, r impl.Rule) ([]int, bool) {
	t.Helper()
	was, chain0 := slices.Clone(list), slices.Clone(chain)
	begins, ok := impl.Relieve(list, chain, r)
	if want, wantOk := reliefByWords(list, chain, r); ok != wantOk || !slices.Equal(begins, want) {
		t.Fatalf("Relieve(%v, %v, %v): %v %v, not %v %v", list, chain, r, begins, ok, want, wantOk)
	}
	if !slices.Equal(list, was) || !slices.Equal(chain, chain0) {
		t.Fatalf("%v was %v, %v was %v", list, was, chain, chain0)
	}
	return begins, ok
}

// crewLine gives tasks of which each one begins where the one ahead ends, with pauses of 0 to most minutes.
func crewLine(d *dice, count, most, ride int) []impl.Task {
	var list []impl.Task
	node, dep := d.below(3), d.below(50)
	for range count {
		next, arr := d.below(3), dep+1+d.below(ride)
		list = append(list, job(node, next, dep, arr, 0))
		node, dep = next, arr+d.below(most+1)
	}
	return list
}

func someRule(d *dice, most int) impl.Rule {
	return crewRule(1+d.below(most), 1+d.below(most), 1+d.below(most), 1+d.below(most))
}

// shuffled gives the numbers 0 .. count - 1 in any order.
func shuffled(d *dice, count int) []int {
	list := numbers(0, count-1)
	for k := range list {
		other := k + d.below(count-k)
		list[k], list[other] = list[other], list[k]
	}
	return list
}

// mixed tells the tasks in any order, and the chain that leads through them as they were.
func mixed(d *dice, list []impl.Task) ([]impl.Task, []int) {
	chain := shuffled(d, len(list))
	moved := make([]impl.Task, len(list))
	for k, place := range chain {
		moved[place] = list[k]
	}
	return moved, chain
}

func wrongRules() []impl.Rule {
	var rules []impl.Rule
	for _, bad := range []int{math.MinInt, -1440, -1, 0, 1441, 1442, math.MaxInt} {
		for field := range 4 {
			parts := [4]int{1440, 1440, 30, 1440}
			parts[field] = bad
			rules = append(rules, crewRule(parts[0], parts[1], parts[2], parts[3]))
		}
	}
	return append(rules, impl.Rule{})
}

// wrongDuties are none of the three rides.
func wrongDuties() map[string][]int {
	return map[string][]int{
		"none":                    nil,
		"an empty one":            {},
		"-1":                      {-1},
		"behind the last":         {3},
		"-1 at last":              {0, 1, -1},
		"-1 first":                {-1, 0, 1},
		"behind the last, last":   {0, 1, 3},
		"behind the last, first":  {3, 0, 1},
		"twice":                   {0, 0},
		"twice, not side by side": {0, 1, 0},
		"the last twice":          {2, 2},
		"all twice":               {0, 1, 2, 0, 1, 2},
		"the greatest int":        {math.MaxInt},
		"the least int":           {math.MinInt},
		"far too many":            slices.Repeat([]int{0}, 1000),
	}
}

func TestCrewConstants(t *testing.T) {
	if impl.MaxDuty != 12 {
		t.Error(impl.MaxDuty)
	}
	codes := []int{impl.DutyFine, impl.DutyBad, impl.DutyOrder, impl.DutySpread, impl.DutyDrive, impl.DutyStretch}
	checkInts(t, "codes", codes, []int{0, 1, 2, 3, 4, 5})
}

func TestRuleOkOfAllEdges(t *testing.T) {
	edges := []int{-1, 0, 1, 2, 1439, 1440, 1441, 1442}
	list, day := threeRides(), jobs(job(0, 1, 0, 1440, 0))
	for _, spread := range edges {
		for _, drive := range edges {
			for _, rest := range edges {
				for _, stretch := range edges {
					r := crewRule(spread, drive, rest, stretch)
					want := true
					for _, part := range []int{spread, drive, rest, stretch} {
						want = want && part >= 1 && part <= 1440
					}
					if got := impl.RuleOk(r); got != want {
						t.Errorf("RuleOk(%v): %v", r, got)
					}
					checkDuty(t, list, []int{0, 1, 2}, r, 3)
					checkDuty(t, day, []int{0}, r, 3)
					checkRelief(t, list, []int{0, 1, 2}, r)
				}
			}
		}
	}
	for _, r := range wrongRules() {
		if impl.RuleOk(r) {
			t.Error(r)
		}
	}
	for _, r := range []impl.Rule{wideRule(), crewRule(1, 1, 1, 1), crewRule(1440, 1440, 1440, 1440), crewRule(600, 500, 30, 300)} {
		if !impl.RuleOk(r) {
			t.Error(r)
		}
	}
}

func TestDrivenByHand(t *testing.T) {
	list := threeRides()
	twelve := shuttleJobs(40, 5)
	cases := map[string]struct {
		list []impl.Task
		duty []int
		want int
	}{
		"all":                      {list, []int{0, 1, 2}, 180},
		"the first":                {list, []int{0}, 60},
		"the last":                 {list, []int{2}, 60},
		"one is left out":          {list, []int{0, 2}, 120},
		"the other way round":      {list, []int{2, 1, 0}, 180},
		"a single minute":          {jobs(job(0, 1, 9, 10, 0)), []int{0}, 1},
		"the whole time":           {jobs(job(0, 1, 0, 100000, 0)), []int{0}, 100000},
		"at once":                  {jobs(job(0, 1, 0, 7, 0), job(0, 1, 0, 9, 0)), []int{0, 1}, 16},
		"the Km make no odds":      {jobs(job(0, 1, 10, 17, 2000)), []int{0}, 7},
		"past midnight":            {jobs(job(0, 1, 1430, 1450, 0)), []int{0}, 20},
		"MaxDuty":                  {twelve, numbers(0, 11), 120},
		"MaxDuty, the last of all": {twelve, numbers(28, 39), 120},
		"one more than MaxDuty":    {twelve, numbers(0, 12), -1},
		"all of the tasks":         {twelve, numbers(0, 39), -1},
		"the last place":           {twelve, []int{39}, 10},
		"behind the last place":    {twelve, []int{40}, -1},
		"a wrong list":             {jobs(list[0], job(0, 1, 20, 20, 0)), []int{0}, -1},
		"a list too long":          {shuttleJobs(41, 5), []int{0}, -1},
		"no list":                  {nil, []int{0}, -1},
		"no list and no duty":      {nil, nil, -1},
	}
	for name, c := range cases {
		if got := impl.Driven(c.list, c.duty); got != c.want {
			t.Errorf("%s: %d, not %d", name, got, c.want)
		}
		checkDuty(t, c.list, c.duty, wideRule(), 1)
	}
	for name, duty := range wrongDuties() {
		if got := impl.Driven(list, duty); got != -1 {
			t.Errorf("%s: %d", name, got)
		}
	}
}

func TestStretchedByHand(t *testing.T) {
	list := threeRides()
	four := ridesWithPauses(100, []int{10, 20, 40, 80}, 5, 6, 7)
	cases := map[string]struct {
		list []impl.Task
		duty []int
		rest int
		want int
	}{
		"the first two":               {list, []int{0, 1, 2}, 30, 120},
		"none to another":             {list, []int{0, 1, 2}, 10, 60},
		"just too short":              {list, []int{0, 1, 2}, 11, 120},
		"one minute shorter":          {list, []int{0, 1, 2}, 9, 60},
		"the second just enough":      {list, []int{0, 1, 2}, 40, 120},
		"the second one too short":    {list, []int{0, 1, 2}, 41, 180},
		"the second to spare":         {list, []int{0, 1, 2}, 39, 120},
		"one task":                    {list, []int{1}, 1440, 60},
		"one is left out":             {list, []int{0, 2}, 110, 60},
		"one is left out, too short":  {list, []int{0, 2}, 111, 120},
		"all four":                    {four, []int{0, 1, 2, 3}, 8, 150},
		"the first three":             {four, []int{0, 1, 2, 3}, 7, 80},
		"the first two, not the most": {four, []int{0, 1, 2, 3}, 6, 80},
		"each by itself":              {four, []int{0, 1, 2, 3}, 5, 80},
		"the first three alone":       {four, []int{0, 1, 2}, 7, 70},
		"the first two and a third":   {four, []int{0, 1, 2}, 6, 40},
		"no pause at all":             {ridesWithPauses(0, []int{3, 4}, 0), []int{0, 1}, 1, 7},
		"a pause of one minute":       {ridesWithPauses(0, []int{3, 4}, 1), []int{0, 1}, 1, 4},
		"the greatest in the middle":  {ridesWithPauses(0, []int{9, 5, 6, 8}, 10, 2, 10), []int{0, 1, 2, 3}, 10, 11},
		"the greatest first":          {ridesWithPauses(0, []int{9, 5, 6, 6}, 1, 10, 1), []int{0, 1, 2, 3}, 10, 14},
		"the greatest last":           {ridesWithPauses(0, []int{5, 5, 6, 6}, 1, 10, 1), []int{0, 1, 2, 3}, 10, 12},
		"ahead of the end":            {ridesWithPauses(0, []int{9, 5}, -1), []int{0, 1}, 1, 14},
		"far ahead of the end":        {ridesWithPauses(500, []int{9, 5}, -400), []int{0, 1}, 1, 14},
		"at once":                     {jobs(list[0], list[0]), []int{0, 1}, 1, 120},
		"the other way round":         {list, []int{2, 1, 0}, 1, 180},
		"in the duty's own order":     {list, []int{0, 2, 1}, 30, 120},
		"in its own order, longer":    {list, []int{0, 2, 1}, 111, 180},
		"the later one first":         {list, []int{1, 0, 2}, 110, 120},
		"the later one first, all":    {list, []int{1, 0, 2}, 111, 180},
		"nodes make no difference":    {jobs(job(0, 1, 0, 60, 0), job(7, 8, 70, 130, 0)), []int{0, 1}, 11, 120},
		"the longest rest":            {jobs(job(0, 1, 0, 60, 0), job(1, 0, 1500, 1510, 0)), []int{0, 1}, 1440, 60},
		"the longest rest, too short": {jobs(job(0, 1, 0, 60, 0), job(1, 0, 1499, 1510, 0)), []int{0, 1}, 1440, 71},
		"MaxDuty":                     {shuttleJobs(40, 5), numbers(0, 11), 6, 120},
		"MaxDuty, with rests":         {shuttleJobs(40, 5), numbers(0, 11), 5, 10},
		"one more than MaxDuty":       {shuttleJobs(40, 5), numbers(0, 12), 5, -1},
		"a rest of 0":                 {list, []int{0, 1, 2}, 0, -1},
		"a rest of 1":                 {list, []int{0, 1, 2}, 1, 60},
		"a rest of 1440":              {list, []int{0, 1, 2}, 1440, 180},
		"a rest of 1441":              {list, []int{0, 1, 2}, 1441, -1},
		"a rest below 0":              {list, []int{0, 1, 2}, -1, -1},
		"the greatest int":            {list, []int{0, 1, 2}, math.MaxInt, -1},
		"the least int":               {list, []int{0, 1, 2}, math.MinInt, -1},
		"a wrong list":                {jobs(list[0], job(0, 1, 20, 20, 0)), []int{0}, 5, -1},
		"a list too long":             {shuttleJobs(41, 5), []int{0}, 5, -1},
		"no list":                     {nil, []int{0}, 5, -1},
	}
	for name, c := range cases {
		if got := checkStretched(t, c.list, c.duty, c.rest); got != c.want {
			t.Errorf("%s: %d, not %d", name, got, c.want)
		}
	}
	for name, duty := range wrongDuties() {
		for _, rest := range []int{0, 1, 30, 1440, 1441} {
			if got := impl.Stretched(list, duty, rest); got != -1 {
				t.Errorf("%s, %d: %d", name, rest, got)
			}
		}
	}
}

// TestStretchedAtEveryPause lets the pause be around every rest.
func TestStretchedAtEveryPause(t *testing.T) {
	for rest := -2; rest <= 1443; rest++ {
		for more := -1; more <= 1; more++ {
			list := ridesWithPauses(5, []int{7, 6}, rest+more)
			if !impl.TasksOk(list) {
				t.Fatal(list)
			}
			want := 13
			switch {
			case rest < 1 || rest > 1440:
				want = -1
			case more >= 0:
				want = 7
			}
			if got := impl.Stretched(list, []int{0, 1}, rest); got != want {
				t.Fatalf("a rest of %d, and %d: %d, not %d", rest, more, got, want)
			}
			checkDuty(t, list, []int{0, 1}, crewRule(1440, 1440, rest, 12), 1)
			checkDuty(t, list, []int{0, 1}, crewRule(1440, 1440, rest, 13), 1)
		}
	}
}

func TestDutyCodeByHand(t *testing.T) {
	list := threeRides()
	all := []int{0, 1, 2}
	right := crewRule(230, 180, 30, 120)
	cases := map[string]struct {
		list []impl.Task
		duty []int
		rule impl.Rule
		want int
	}{
		"fine, all limits met":            {list, all, right, impl.DutyFine},
		"one minute of Spread too few":    {list, all, crewRule(229, 180, 30, 120), impl.DutySpread},
		"one minute of Drive too few":     {list, all, crewRule(230, 179, 30, 120), impl.DutyDrive},
		"one minute of Stretch too few":   {list, all, crewRule(230, 180, 30, 119), impl.DutyStretch},
		"one minute more of each":         {list, all, crewRule(231, 181, 30, 121), impl.DutyFine},
		"a rest just long enough":         {list, all, crewRule(230, 180, 40, 120), impl.DutyFine},
		"a rest one minute too short":     {list, all, crewRule(230, 180, 41, 120), impl.DutyStretch},
		"too short, but never mind":       {list, all, crewRule(230, 180, 41, 180), impl.DutyFine},
		"both rests long enough":          {list, all, crewRule(230, 180, 10, 60), impl.DutyFine},
		"one of them not":                 {list, all, crewRule(230, 180, 11, 60), impl.DutyStretch},
		"at another node":                 {list, []int{0, 2}, right, impl.DutyOrder},
		"at another node, one by one":     {list, []int{0}, right, impl.DutyFine},
		"at the very Arr":                 {jobs(job(0, 1, 0, 60, 0), job(1, 0, 60, 70, 0)), []int{0, 1}, wideRule(), impl.DutyFine},
		"one minute ahead of it":          {jobs(job(0, 1, 0, 60, 0), job(1, 0, 59, 70, 0)), []int{0, 1}, wideRule(), impl.DutyOrder},
		"one minute behind it":            {jobs(job(0, 1, 0, 60, 0), job(1, 0, 61, 70, 0)), []int{0, 1}, wideRule(), impl.DutyFine},
		"at once, on the spot":            {jobs(job(3, 3, 5, 9, 0), job(3, 3, 5, 9, 0)), []int{0, 1}, wideRule(), impl.DutyOrder},
		"the last is elsewhere":           {jobs(list[0], list[1], job(1, 2, 170, 230, 0)), all, right, impl.DutyOrder},
		"the last is too early":           {jobs(list[0], list[1], job(2, 0, 129, 189, 0)), all, right, impl.DutyOrder},
		"the middle one is elsewhere":     {jobs(list[0], job(0, 2, 70, 130, 0), list[2]), all, right, impl.DutyOrder},
		"the other way round":             {list, []int{2, 1, 0}, right, impl.DutyOrder},
		"there and back, turned":          {jobs(job(0, 1, 0, 60, 0), job(1, 0, 70, 130, 0)), []int{1, 0}, wideRule(), impl.DutyOrder},
		"places turned, times in order":   {jobs(list[2], list[1], list[0]), []int{2, 1, 0}, right, impl.DutyFine},
		"places in order, times turned":   {jobs(list[2], list[1], list[0]), all, right, impl.DutyOrder},
		"one task":                        {list, []int{1}, crewRule(60, 60, 1, 60), impl.DutyFine},
		"one task, too far":               {list, []int{1}, crewRule(59, 60, 1, 60), impl.DutySpread},
		"one task, too long":              {list, []int{1}, crewRule(60, 59, 1, 60), impl.DutyDrive},
		"one task, stretched":             {list, []int{1}, crewRule(60, 60, 1, 59), impl.DutyStretch},
		"a day":                           {jobs(job(0, 1, 500, 1940, 0)), []int{0}, crewRule(1440, 1440, 1440, 1440), impl.DutyFine},
		"a day and a minute":              {jobs(job(0, 1, 500, 1941, 0)), []int{0}, crewRule(1440, 1440, 1440, 1440), impl.DutySpread},
		"the strictest rule":              {jobs(job(0, 1, 500, 501, 0)), []int{0}, crewRule(1, 1, 1, 1), impl.DutyFine},
		"the strictest rule, two minutes": {jobs(job(0, 1, 500, 502, 0)), []int{0}, crewRule(1, 1, 1, 1), impl.DutySpread},
		"MaxDuty":                         {shuttleJobs(40, 5), numbers(0, 11), wideRule(), impl.DutyFine},
		"MaxDuty from the end":            {shuttleJobs(40, 5), numbers(28, 39), wideRule(), impl.DutyFine},
		"one more than MaxDuty":           {shuttleJobs(40, 5), numbers(0, 12), wideRule(), impl.DutyBad},
		"the zero rule":                   {list, all, impl.Rule{}, impl.DutyBad},
		"a wrong list":                    {jobs(list[0], job(0, 1, 20, 20, 0)), []int{0}, right, impl.DutyBad},
		"a list too long":                 {shuttleJobs(41, 5), []int{0}, wideRule(), impl.DutyBad},
		"no list":                         {nil, nil, right, impl.DutyBad},

		// Several would fit: the first that the chapter names counts.
		"order and all others":   {list, []int{2, 1, 0}, crewRule(1, 1, 1440, 1), impl.DutyOrder},
		"bad and all others":     {list, []int{2, 1, 0}, crewRule(1, 0, 1440, 1), impl.DutyBad},
		"twice and out of order": {list, []int{2, 1, 1}, crewRule(1, 1, 1440, 1), impl.DutyBad},
		"spread, drive, stretch": {list, all, crewRule(1, 1, 1440, 1), impl.DutySpread},
		"spread and drive":       {list, all, crewRule(229, 179, 30, 120), impl.DutySpread},
		"spread and stretch":     {list, all, crewRule(229, 180, 30, 119), impl.DutySpread},
		"drive and stretch":      {list, all, crewRule(230, 179, 30, 119), impl.DutyDrive},
		"order and spread":       {list, []int{0, 2}, crewRule(229, 180, 30, 120), impl.DutyOrder},
		"order and drive":        {list, []int{0, 2}, crewRule(230, 119, 30, 120), impl.DutyOrder},
		"order and stretch":      {list, []int{0, 2}, crewRule(230, 180, 111, 119), impl.DutyOrder},
	}
	for name, c := range cases {
		if got := checkDuty(t, c.list, c.duty, c.rule, 7); got != c.want {
			t.Errorf("%s: %d, not %d", name, got, c.want)
		}
	}
}

func TestDutyCodeRefuses(t *testing.T) {
	list, all := threeRides(), []int{0, 1, 2}
	for name, duty := range wrongDuties() {
		if impl.DutyCode(list, duty, wideRule()) != impl.DutyBad || impl.Wage(list, duty, wideRule(), 1) != -1 {
			t.Error(name)
		}
		checkDuty(t, list, duty, crewRule(1, 1, 1, 1), 1)
	}
	for _, r := range wrongRules() {
		if impl.DutyCode(list, all, r) != impl.DutyBad || impl.Wage(list, all, r, 1) != -1 {
			t.Error(r)
		}
		if begins, ok := impl.Relieve(list, all, r); ok || begins != nil {
			t.Error(r, begins)
		}
		if begins, ok := impl.Relieve(list, nil, r); ok || begins != nil {
			t.Errorf("%v, no chain: %v", r, begins)
		}
	}
	for name, list := range wrongLists() {
		for _, duty := range [][]int{nil, {0}, {0, 1}, {len(list) - 1}} {
			if impl.Driven(list, duty) != -1 || impl.Stretched(list, duty, 5) != -1 || impl.Wage(list, duty, wideRule(), 1) != -1 {
				t.Errorf("%s, %v", name, duty)
			}
			if impl.DutyCode(list, duty, wideRule()) != impl.DutyBad {
				t.Errorf("%s, %v: not bad", name, duty)
			}
			if begins, ok := impl.Relieve(list, duty, wideRule()); ok || begins != nil {
				t.Errorf("%s, %v: relieved", name, duty)
			}
		}
	}
}

// TestDutyCodeAroundEveryLimit lets each number of the rule be one less than, just and one more than what the duty has.
func TestDutyCodeAroundEveryLimit(t *testing.T) {
	d := &dice{state: 170}
	for range 300 {
		list := crewLine(d, 1+d.below(12), 20, 30)
		duty := numbers(0, len(list)-1)
		rest := 1 + d.below(22)
		spread, drive := list[len(list)-1].Arr-list[0].Dep, impl.Driven(list, duty)
		stretch := impl.Stretched(list, duty, rest)
		for more := range 27 {
			r := crewRule(spread+more%3-1, drive+more/3%3-1, rest, stretch+more/9-1)
			want := impl.DutyFine
			switch {
			case !ruleByWords(r):
				want = impl.DutyBad
			case r.Spread < spread:
				want = impl.DutySpread
			case r.Drive < drive:
				want = impl.DutyDrive
			case r.Stretch < stretch:
				want = impl.DutyStretch
			}
			if got := checkDuty(t, list, duty, r, d.below(1001)); got != want {
				t.Fatalf("%v, %v: %d, not %d", list, r, got, want)
			}
		}
	}
}

func TestRelieveByHand(t *testing.T) {
	list := threeRides()
	all := []int{0, 1, 2}
	shuttle := shuttleJobs(40, 5)
	cases := map[string]struct {
		list  []impl.Task
		chain []int
		rule  impl.Rule
		want  []int
		ok    bool
	}{
		"one duty":                          {list, all, crewRule(230, 180, 30, 120), []int{0}, true},
		"two, the first way":                {list, all, crewRule(230, 120, 30, 120), []int{0, 1}, true},
		"two by Spread, the first way":      {list, all, crewRule(229, 180, 30, 120), []int{0, 1}, true},
		"two by Spread, one way":            {list, all, crewRule(159, 180, 30, 120), []int{0, 2}, true},
		"three by Spread":                   {list, all, crewRule(129, 180, 30, 120), []int{0, 1, 2}, true},
		"three by Drive":                    {list, all, crewRule(230, 119, 30, 120), []int{0, 1, 2}, true},
		"two by Stretch":                    {list, all, crewRule(230, 180, 30, 119), []int{0, 1}, true},
		"three by Stretch":                  {list, all, crewRule(230, 180, 41, 119), []int{0, 1, 2}, true},
		"one by its rest":                   {list, all, crewRule(230, 180, 10, 60), []int{0}, true},
		"each just fits":                    {list, all, crewRule(60, 60, 1, 60), []int{0, 1, 2}, true},
		"no way by Spread":                  {list, all, crewRule(59, 120, 30, 120), nil, false},
		"no way by Drive":                   {list, all, crewRule(230, 59, 30, 120), nil, false},
		"no way by Stretch":                 {list, all, crewRule(230, 180, 30, 59), nil, false},
		"no way of the last":                {jobs(list[0], list[1], job(2, 0, 170, 231, 0)), all, crewRule(230, 60, 30, 120), nil, false},
		"no way of the first":               {jobs(job(0, 1, 0, 61, 0), list[1], list[2]), all, crewRule(230, 60, 30, 120), nil, false},
		"no way of the middle one":          {jobs(list[0], job(1, 2, 70, 131, 0), list[2]), all, crewRule(230, 60, 30, 120), nil, false},
		"no chain":                          {list, nil, wideRule(), nil, true},
		"an empty chain":                    {list, []int{}, crewRule(1, 1, 1, 1), nil, true},
		"no chain and no task":              {nil, nil, wideRule(), nil, true},
		"no chain of a wrong list":          {jobs(job(0, 1, 20, 20, 0)), nil, wideRule(), nil, false},
		"no chain of a list too long":       {shuttleJobs(41, 5), nil, wideRule(), nil, false},
		"a chain of no task":                {nil, []int{0}, wideRule(), nil, false},
		"a chain of one":                    {list, []int{2}, wideRule(), []int{0}, true},
		"a chain of one, no way":            {list, []int{2}, crewRule(59, 60, 1, 60), nil, false},
		"another node between":              {list, []int{0, 2}, wideRule(), []int{0, 1}, true},
		"the other way round":               {list, []int{2, 1, 0}, wideRule(), []int{0, 1, 2}, true},
		"the last two first":                {list, []int{1, 2, 0}, wideRule(), []int{0, 2}, true},
		"the first last":                    {list, []int{2, 0, 1}, wideRule(), []int{0, 1}, true},
		"too early by a minute":             {jobs(job(0, 1, 0, 60, 0), job(1, 0, 59, 70, 0)), []int{0, 1}, wideRule(), []int{0, 1}, true},
		"at the very minute":                {jobs(job(0, 1, 0, 60, 0), job(1, 0, 60, 70, 0)), []int{0, 1}, wideRule(), []int{0}, true},
		"MaxDuty":                           {shuttle, numbers(0, 11), wideRule(), []int{0}, true},
		"one more than MaxDuty":             {shuttle, numbers(0, 12), wideRule(), []int{0, 1}, true},
		"two of MaxDuty":                    {shuttle, numbers(3, 26), wideRule(), []int{0, 12}, true},
		"two of MaxDuty less one":           {shuttle, numbers(3, 25), wideRule(), []int{0, 11}, true},
		"two of MaxDuty and one":            {shuttle, numbers(3, 27), wideRule(), []int{0, 1, 13}, true},
		"three of MaxDuty":                  {shuttle, numbers(0, 35), wideRule(), []int{0, 12, 24}, true},
		"MaxTasks":                          {shuttle, numbers(0, 39), wideRule(), []int{0, 4, 16, 28}, true},
		"MaxTasks, in threes":               {shuttle, numbers(0, 39), crewRule(40, 30, 5, 10), []int{0, 1, 4, 7, 10, 13, 16, 19, 22, 25, 28, 31, 34, 37}, true},
		"MaxTasks, in twos":                 {shuttle, numbers(0, 39), crewRule(39, 30, 5, 10), []int{0, 2, 4, 6, 8, 10, 12, 14, 16, 18, 20, 22, 24, 26, 28, 30, 32, 34, 36, 38}, true},
		"MaxTasks, each by itself":          {shuttle, numbers(0, 39), crewRule(24, 30, 5, 10), numbers(0, 39), true},
		"MaxTasks, no way":                  {shuttle, numbers(0, 39), crewRule(24, 9, 5, 10), nil, false},
		"one more than MaxTasks":            {shuttle, append(numbers(0, 39), 0), wideRule(), nil, false},
		"one more, behind the last":         {shuttle, numbers(0, 40), wideRule(), nil, false},
		"a place twice":                     {shuttle, []int{0, 1, 0}, wideRule(), nil, false},
		"a place twice, side by side":       {shuttle, []int{0, 0}, wideRule(), nil, false},
		"a place twice, far apart":          {shuttle, append(numbers(0, 20), 3), wideRule(), nil, false},
		"-1":                                {shuttle, []int{0, -1}, wideRule(), nil, false},
		"the last place":                    {shuttle, []int{39}, wideRule(), []int{0}, true},
		"behind the last place":             {shuttle, []int{40}, wideRule(), nil, false},
		"not the longest duty first":        {ridesWithPauses(0, []int{1, 1, 1, 1}, 0, 0, 0), numbers(0, 3), crewRule(3, 3, 1, 3), []int{0, 1}, true},
		"as few, though the first is short": {ridesWithPauses(0, []int{2, 2, 5, 1}, 0, 0, 0), numbers(0, 3), crewRule(7, 7, 1, 7), []int{0, 2}, true},
		"the first way of many":             {ridesWithPauses(0, []int{2, 2, 2, 2, 2}, 0, 0, 0, 0), numbers(0, 4), crewRule(4, 4, 1, 4), []int{0, 1, 3}, true},
		"the rest belongs to both sides":    {ridesWithPauses(0, []int{5, 5, 5, 5}, 3, 10, 3), numbers(0, 3), crewRule(1440, 1440, 10, 10), []int{0}, true},
		"a cut takes the place of a rest":   {ridesWithPauses(0, []int{5, 5, 5, 5}, 3, 9, 3), numbers(0, 3), crewRule(1440, 1440, 10, 10), []int{0, 2}, true},
	}
	for name, c := range cases {
		begins, ok := checkRelief(t, c.list, c.chain, c.rule)
		checkInts(t, name, begins, c.want)
		if ok != c.ok {
			t.Errorf("%s: %v", name, ok)
		}
	}
	for name, chain := range wrongDuties() {
		begins, ok := impl.Relieve(list, chain, wideRule())
		if ok != (len(chain) == 0) || begins != nil {
			t.Errorf("%s: %v %v", name, begins, ok)
		}
	}
}

// TestRelieveOfEveryLength cuts chains in duties of MaxDuty, or of as many as Drive lets through.
func TestRelieveOfEveryLength(t *testing.T) {
	list := shuttleJobs(40, 0)
	for length := range 41 {
		for from := 0; from+length <= 40; from += 13 {
			for most := 1; most <= 14; most++ {
				chain := numbers(from, from+length-1)
				begins, ok := checkRelief(t, list, chain, crewRule(1440, 10*most+9, 1, 1440))
				fit := min(most, 12)
				if !ok || len(begins) != (length+fit-1)/fit {
					t.Fatalf("%d of %d: %v %v", length, most, begins, ok)
				}
			}
		}
	}
}

func TestWageByHand(t *testing.T) {
	list := threeRides()
	all := []int{0, 1, 2}
	right := crewRule(230, 180, 30, 120)
	cases := map[string]struct {
		list []impl.Task
		duty []int
		rule impl.Rule
		rate int
		want int
	}{
		"two a minute":                {list, all, right, 2, 640},
		"one a minute":                {list, all, right, 1, 320},
		"nothing a minute":            {list, all, right, 0, 0},
		"as much as may be":           {list, all, right, 1000, 320000},
		"a rate too great":            {list, all, right, 1001, -1},
		"a rate below 0":              {list, all, right, -1, -1},
		"the greatest int":            {list, all, right, math.MaxInt, -1},
		"the least int":               {list, all, right, math.MinInt, -1},
		"Driven is half of Drive":     {list, all, crewRule(230, 360, 30, 120), 1, 230},
		"one more than half":          {list, all, crewRule(230, 358, 30, 120), 1, 231},
		"one less than half":          {list, all, crewRule(230, 362, 30, 120), 1, 230},
		"an odd Drive, half down":     {list, all, crewRule(230, 361, 30, 120), 1, 230},
		"an odd Drive, one more":      {list, all, crewRule(230, 359, 30, 120), 1, 231},
		"an odd Drive, two more":      {list, all, crewRule(230, 357, 30, 120), 3, 3 * 232},
		"far less than half":          {list, all, crewRule(230, 1440, 30, 120), 10, 2300},
		"one task":                    {list, []int{1}, crewRule(60, 60, 1, 60), 1, 90},
		"one task of a long Drive":    {list, []int{1}, crewRule(60, 120, 1, 60), 1, 60},
		"a single minute":             {jobs(job(0, 1, 5, 6, 0)), []int{0}, crewRule(1, 1, 1, 1), 1, 2},
		"a single minute of two":      {jobs(job(0, 1, 5, 6, 0)), []int{0}, crewRule(1, 2, 1, 1), 1, 1},
		"a single minute of three":    {jobs(job(0, 1, 5, 6, 0)), []int{0}, crewRule(1, 3, 1, 1), 1, 1},
		"a whole day":                 {jobs(job(0, 1, 5, 1445, 0)), []int{0}, crewRule(1440, 1440, 1, 1440), 1000, 2160000},
		"late at night":               {jobs(job(0, 1, 99990, 100000, 0)), []int{0}, wideRule(), 4, 40},
		"pauses are paid":             {jobs(job(0, 1, 0, 1, 0), job(1, 0, 1439, 1440, 0)), []int{0, 1}, wideRule(), 1, 1440},
		"places turned":               {jobs(list[2], list[1], list[0]), []int{2, 1, 0}, right, 2, 640},
		"out of order":                {list, []int{2, 1, 0}, right, 2, -1},
		"spread too far":              {list, all, crewRule(229, 180, 30, 120), 2, -1},
		"driven too long":             {list, all, crewRule(230, 179, 30, 120), 2, -1},
		"stretched too far":           {list, all, crewRule(230, 180, 30, 119), 2, -1},
		"stretched too far, for free": {list, all, crewRule(230, 180, 30, 119), 0, -1},
		"no duty":                     {list, nil, right, 2, -1},
		"the zero rule":               {list, all, impl.Rule{}, 2, -1},
		"a wrong list":                {jobs(list[0], job(0, 1, 20, 20, 0)), []int{0}, right, 2, -1},
		"MaxDuty":                     {shuttleJobs(40, 5), numbers(0, 11), crewRule(175, 120, 5, 10), 1, 175 + 60},
		"one more than MaxDuty":       {shuttleJobs(40, 5), numbers(0, 12), wideRule(), 1, -1},
	}
	for name, c := range cases {
		if got := impl.Wage(c.list, c.duty, c.rule, c.rate); got != c.want {
			t.Errorf("%s: %d, not %d", name, got, c.want)
		}
		checkDuty(t, c.list, c.duty, c.rule, c.rate)
	}
}

func TestWageAtEveryRateAndDrive(t *testing.T) {
	list, all := threeRides(), []int{0, 1, 2}
	for rate := -3; rate <= 1003; rate++ {
		want := 320 * rate
		if rate < 0 || rate > 1000 {
			want = -1
		}
		if got := impl.Wage(list, all, crewRule(230, 180, 30, 120), rate); got != want {
			t.Errorf("a rate of %d: %d, not %d", rate, got, want)
		}
	}
	for drive := 170; drive <= 1441; drive++ {
		checkDuty(t, list, all, crewRule(230, drive, 30, 120), 1)
	}
}

// TestAllSmallDuties goes through all duties and chains of a few chosen tasks, wrong places among them.
func TestAllSmallDuties(t *testing.T) {
	list := jobs(job(0, 1, 1, 3, 0), job(1, 0, 3, 7, 0), job(0, 1, 8, 9, 0), job(1, 1, 2, 10, 0))
	var rules []impl.Rule
	for _, limit := range []int{0, 2, 4, 6, 8} {
		rules = append(rules, crewRule(limit, 9, 1, 9), crewRule(9, limit, 1, 9), crewRule(9, 9, limit, 6), crewRule(9, 9, 2, limit))
	}
	manyLists(4, numbers(-1, 4), func(places []int) {
		for _, r := range rules {
			checkDuty(t, list, places, r, 2)
			begins, ok := checkRelief(t, list, places, r)
			if !ok || len(places) == 0 {
				continue
			}
			if want, _ := reliefOfAllWays(list, places, r); !slices.Equal(begins, want) {
				t.Fatalf("Relieve(%v, %v, %v): %v, not %v", list, places, r, begins, want)
			}
		}
	})
}

func TestManyDuties(t *testing.T) {
	d := &dice{state: 171}
	codes := map[int]int{}
	for range 6000 {
		list := crewLine(d, 1+d.below(14), d.below(20), 1+d.below(20))
		if d.below(4) == 0 {
			list = someJobs(d, 1+d.below(14), 1+d.below(3), 100, 20, 9)
		}
		from := d.below(len(list))
		duty := numbers(from, min(len(list)-1, from+d.below(14)))
		if d.below(4) == 0 {
			duty = shuffled(d, len(list))[:d.below(len(list)+1)]
		}
		codes[checkDuty(t, list, duty, someRule(d, 1+d.below(300)), d.below(1003)-1)]++
		checkStretched(t, list, duty, d.below(40))
	}
	for code := range 6 {
		if codes[code] < 50 {
			t.Errorf("code %d came only %d times", code, codes[code])
		}
	}
}

// TestRelieveOfAllWays holds Relieve against every way to cut a chain of a few places.
func TestRelieveOfAllWays(t *testing.T) {
	d := &dice{state: 172}
	for range 1500 {
		list, chain := mixed(d, crewLine(d, 1+d.below(9), d.below(12), 1+d.below(12)))
		if d.below(5) == 0 {
			chain = shuffled(d, len(list))
		}
		r := someRule(d, 10+d.below(70))
		begins, ok := checkRelief(t, list, chain, r)
		if want, wantOk := reliefOfAllWays(list, chain, r); ok != wantOk || !slices.Equal(begins, want) {
			t.Fatalf("Relieve(%v, %v, %v): %v %v, not %v %v", list, chain, r, begins, ok, want, wantOk)
		}
	}
}

func TestRelieveOfLongChains(t *testing.T) {
	d := &dice{state: 173}
	for range 300 {
		list, chain := mixed(d, crewLine(d, 13+d.below(28), d.below(30), 1+d.below(10)))
		checkRelief(t, list, chain, someRule(d, 60+d.below(400)))
		checkRelief(t, list, chain, crewRule(100+d.below(500), 30+d.below(200), 1+d.below(30), 20+d.below(100)))
		checkRelief(t, list, chain[d.below(len(chain)):], wideRule())
	}
}

// checkPromise19 asks only what the promise says: fine duties that cover the chain in its order.
func checkPromise19(t *testing.T, list []impl.Task, chain []int, r impl.Rule) (int, bool) {
	t.Helper()
	begins, ok := impl.Relieve(list, chain, r)
	if !ok {
		if begins != nil {
			t.Fatalf("%v, %v, %v: false, but %v", list, chain, r, begins)
		}
		return 0, false
	}
	var covered []int
	for k, from := range begins {
		if k == 0 && from != 0 || k > 0 && from <= begins[k-1] || from >= len(chain) {
			t.Fatalf("%v, %v, %v: begins %v", list, chain, r, begins)
		}
	}
	for _, duty := range dutiesFrom(chain, begins) {
		if code := impl.DutyCode(list, duty, r); code != impl.DutyFine {
			t.Fatalf("%v, %v, %v: %v has code %d", list, duty, r, begins, code)
		}
		if impl.Wage(list, duty, r, 1) < impl.Driven(list, duty) {
			t.Fatalf("%v, %v, %v: less wage than minutes driven", list, duty, r)
		}
		covered = append(covered, duty...)
	}
	if !slices.Equal(covered, chain) {
		t.Fatalf("%v, %v, %v: %v covers %v", list, chain, r, begins, covered)
	}
	return len(begins), true
}

func TestPromise19(t *testing.T) {
	d := &dice{state: 174}
	relieved, parted := 0, 0
	for range 4000 {
		list, chain := mixed(d, crewLine(d, d.below(41), d.below(30), 1+d.below(15)))
		r := crewRule(1+d.below(600), 1+d.below(300), 1+d.below(30), 1+d.below(120))
		duties, ok := checkPromise19(t, list, chain, r)
		if ok {
			relieved++
		}
		if duties > 1 {
			parted++
		}
		// Stricter rules never need fewer duties, and find no way where there was none.
		strict := crewRule(max(1, r.Spread-d.below(30)), max(1, r.Drive-d.below(30)), r.Rest+d.below(10), max(1, r.Stretch-d.below(30)))
		if more, strictOk := checkPromise19(t, list, chain, strict); strictOk && (!ok || more < duties) {
			t.Fatalf("%v, %v: %d duties by %v, %d by %v", list, chain, duties, r, more, strict)
		}
	}
	if relieved < 500 || parted < 500 {
		t.Errorf("only %d relieved, %d of them in several duties", relieved, parted)
	}
}

// TestChainsAreRelieved takes the chains of the units, as chapter 16 deals them.
func TestChainsAreRelieved(t *testing.T) {
	d := &dice{state: 175}
	for range 300 {
		list := someJobs(d, d.below(41), 1+d.below(3), 400, 20, 9)
		turn := d.below(10)
		for _, chain := range dutiesByWords(list, turn) {
			r := crewRule(20+d.below(300), 20+d.below(100), 1+d.below(30), 20+d.below(60))
			checkRelief(t, list, chain, r)
			if _, ok := checkPromise19(t, list, chain, r); !ok {
				t.Fatalf("%v, %v, %v: every task fits by itself", list, chain, r)
			}
		}
	}
}

// TestCrewSharesNoMemory spoils each answer, and then what it came from.
func TestCrewSharesNoMemory(t *testing.T) {
	roomy := append(make([]impl.Task, 0, 9), threeRides()...)
	chain := append(make([]int, 0, 9), 0, 1, 2)
	was, chain0 := slices.Clone(roomy[:9]), slices.Clone(chain[:9])
	r := crewRule(60, 60, 1, 60)
	first, _ := impl.Relieve(roomy, chain, r)
	second, _ := impl.Relieve(roomy, chain, r)
	checkInts(t, "begins", first, []int{0, 1, 2})
	for k := range first {
		first[k] = 77
	}
	_ = append(first, 77, 77)
	checkInts(t, "the second answer", second, []int{0, 1, 2})
	for _, duty := range [][]int{chain, chain[:1], chain[:0]} {
		impl.Driven(roomy, duty)
		impl.Stretched(roomy, duty, 30)
		impl.DutyCode(roomy, duty, crewRule(230, 180, 30, 120))
		impl.Wage(roomy, duty, crewRule(230, 180, 30, 120), 2)
		impl.Relieve(roomy[:len(duty)], duty, r)
	}
	if !slices.Equal(roomy[:9], was) || !slices.Equal(chain[:9], chain0) {
		t.Errorf("%v was %v, %v was %v", roomy[:9], was, chain[:9], chain0)
	}
	for k := range 9 {
		roomy[:9][k], chain[:9][k] = job(29, 29, 7, 8, 9), 55
	}
	checkInts(t, "the lists spoilt", second, []int{0, 1, 2})
}

// TestCrewIsTheSameHoweverOften lets many ask at once, with other questions between.
func TestCrewIsTheSameHoweverOften(t *testing.T) {
	d := &dice{state: 176}
	for range 30 {
		list, chain := mixed(d, crewLine(d, 12+d.below(28), 15, 12))
		r := crewRule(100+d.below(200), 60+d.below(60), 1+d.below(15), 30+d.below(60))
		duty := chain[:12]
		begins, ok := impl.Relieve(list, chain, r)
		driven, stretched := impl.Driven(list, duty), impl.Stretched(list, duty, r.Rest)
		code, wage := impl.DutyCode(list, duty, r), impl.Wage(list, duty, r, 3)
		var group sync.WaitGroup
		for k := range 8 {
			group.Go(func() {
				for range 5 {
					impl.Relieve(shuttleJobs(40, k), numbers(k, 39), wideRule())
					impl.Wage(threeRides(), []int{0, 1, 2}, wideRule(), k)
					got, gotOk := impl.Relieve(list, chain, r)
					if !slices.Equal(got, begins) || gotOk != ok {
						t.Errorf("%v, %v, %v: %v, then %v", list, chain, r, begins, got)
					}
					if impl.Driven(list, duty) != driven || impl.Stretched(list, duty, r.Rest) != stretched || impl.DutyCode(list, duty, r) != code || impl.Wage(list, duty, r, 3) != wage {
						t.Errorf("%v, %v, %v: other answers", list, duty, r)
					}
				}
			})
		}
		group.Wait()
	}
}

func TestCrewNeverPanics(t *testing.T) {
	extremes := []int{math.MinInt, math.MinInt + 1, -1, 0, 1, 2, 11, 12, 29, 30, 39, 40, 1000, 1001, 1440, 1441, 100000, 100001, math.MaxInt - 1, math.MaxInt}
	d := &dice{state: 177}
	pick := func() int { return extremes[d.below(len(extremes))] }
	for range 10000 {
		var list []impl.Task
		for range d.below(5) {
			list = append(list, job(pick(), pick(), pick(), pick(), pick()))
		}
		if d.below(3) > 0 {
			list = crewLine(d, d.below(44), 20, 30)
		}
		var places []int
		for range d.below(6) {
			places = append(places, pick())
		}
		if d.below(2) == 0 {
			places = shuffled(d, len(list))
		}
		r := crewRule(pick(), pick(), pick(), pick())
		if d.below(2) == 0 {
			r = someRule(d, 1440)
		}
		rest, rate := pick(), pick()
		if panicsIn(func() {
			checkDuty(t, list, places, r, rate)
			checkStretched(t, list, places, rest)
			checkRelief(t, list, places, r)
		}) {
			t.Fatalf("%v, %v, %v, %d, %d", list, places, r, rest, rate)
		}
	}
	if panicsIn(func() {
		impl.RuleOk(impl.Rule{})
		impl.Driven(nil, nil)
		impl.Stretched(nil, nil, 0)
		impl.Stretched(nil, nil, 1)
		impl.DutyCode(nil, nil, impl.Rule{})
		impl.DutyCode(nil, nil, wideRule())
		impl.Relieve(nil, nil, impl.Rule{})
		impl.Relieve(nil, []int{math.MaxInt}, wideRule())
		impl.Wage(nil, nil, impl.Rule{}, 0)
		impl.Wage(nil, nil, wideRule(), 1)
	}) {
		t.Error("nothing at all")
	}
}
