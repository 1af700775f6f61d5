package tests

import (
	"math"
	"slices"
	"sync"
	"testing"

	"loop.example/g00075/impl"
)

func job(from, to, dep, arr, km int) impl.Task {
	return impl.Task{From: from, To: to, Dep: dep, Arr: arr, Km: km}
}

func jobs(list ...impl.Task) []impl.Task {
	return list
}

// fourJobs go there and back, twice at once: two units come to node 1, at 20 and at 22.
func fourJobs() []impl.Task {
	return jobs(job(0, 1, 10, 20, 30), job(1, 0, 25, 35, 30), job(0, 1, 12, 22, 40), job(1, 0, 27, 37, 40))
}

// shuttleJobs go from node 0 to node 1 and back, one behind the other, with a pause between.
func shuttleJobs(count, pause int) []impl.Task {
	var list []impl.Task
	for k := range count {
		dep := k * (10 + pause)
		list = append(list, job(k%2, (k+1)%2, dep, dep+10, 100))
	}
	return list
}

func jobByWords(x impl.Task) bool {
	for _, node := range []int{x.From, x.To} {
		if node < 0 || node > 29 {
			return false
		}
	}
	return minuteByWords(x.Dep) && minuteByWords(x.Arr) && x.Arr > x.Dep && x.Km > -1 && x.Km < 2001
}

func jobsByWords(list []impl.Task) bool {
	for _, x := range list {
		if !jobByWords(x) {
			return false
		}
	}
	return len(list) < 41
}

func turnoverByWords(turn int) bool { return turn > -1 && turn < 121 }

func followsByWords(a, b impl.Task, turn int) bool {
	if !jobByWords(a) || !jobByWords(b) || !turnoverByWords(turn) {
		return false
	}
	return a.To == b.From && b.Dep-a.Arr >= turn
}

// leaversByWords tells the places of the tasks in the order of Dep and then of place.
func leaversByWords(list []impl.Task) []int {
	var order []int
	for len(order) < len(list) {
		next := -1
		for place, x := range list {
			if !slices.Contains(order, place) && (next == -1 || x.Dep < list[next].Dep) {
				next = place
			}
		}
		order = append(order, next)
	}
	return order
}

// unitsByWords goes over the units from the last to the first, so that of those with one Arr the first is kept.
func unitsByWords(list []impl.Task, turn int) []int {
	if !jobsByWords(list) || !turnoverByWords(turn) {
		return nil
	}
	units := slices.Repeat([]int{-1}, len(list))
	var lasts []impl.Task
	for _, place := range leaversByWords(list) {
		got := -1
		for unit := len(lasts) - 1; unit >= 0; unit-- {
			if followsByWords(lasts[unit], list[place], turn) && (got == -1 || lasts[unit].Arr <= lasts[got].Arr) {
				got = unit
			}
		}
		if got == -1 {
			got = len(lasts)
			lasts = append(lasts, impl.Task{})
		}
		lasts[got] = list[place]
		units[place] = got
	}
	return units
}

func chainedByWords(list []impl.Task, turn int, units []int) bool {
	if !jobsByWords(list) || !turnoverByWords(turn) || len(units) != len(list) {
		return false
	}
	for _, unit := range units {
		if unit < 0 || unit > 39 {
			return false
		}
	}
	for unit := range 40 {
		var ahead []int
		for _, place := range leaversByWords(list) {
			if units[place] != unit {
				continue
			}
			if len(ahead) > 0 && !followsByWords(list[ahead[len(ahead)-1]], list[place], turn) {
				return false
			}
			ahead = append(ahead, place)
		}
	}
	return true
}

// fleetByWords joins as many tasks as can be, each to at most one that follows, and asks those that are joined already
// to take another one: every task that follows none needs a unit of its own.
func fleetByWords(list []impl.Task, turn int) int {
	if !jobsByWords(list) || !turnoverByWords(turn) {
		return -1
	}
	ahead := slices.Repeat([]int{-1}, len(list))
	var tried []bool
	var join func(a int) bool
	join = func(a int) bool {
		for b := range list {
			if tried[b] || !followsByWords(list[a], list[b], turn) {
				continue
			}
			tried[b] = true
			if ahead[b] == -1 || join(ahead[b]) {
				ahead[b] = a
				return true
			}
		}
		return false
	}
	fleet := len(list)
	for a := range list {
		tried = make([]bool, len(list))
		if join(a) {
			fleet--
		}
	}
	return fleet
}

// fewestUnits goes through all ways to give the tasks to units, each new unit with the next number.
func fewestUnits(list []impl.Task, turn int) int {
	fewest := len(list)
	units := make([]int, len(list))
	var give func(place, count int)
	give = func(place, count int) {
		if place == len(list) {
			if count < fewest && impl.ChainOk(list, turn, units) {
				fewest = count
			}
			return
		}
		for unit := range count + 1 {
			units[place] = unit
			give(place+1, max(count, unit+1))
		}
	}
	give(0, 0)
	return fewest
}

func balancedByWords(list []impl.Task) bool {
	if !jobsByWords(list) {
		return false
	}
	for node := range 30 {
		begin, end := 0, 0
		for _, x := range list {
			if x.From == node {
				begin++
			}
			if x.To == node {
				end++
			}
		}
		if begin != end {
			return false
		}
	}
	return true
}

// dutiesByWords tells for each unit of Chains the places of its tasks, in the order of Dep.
func dutiesByWords(list []impl.Task, turn int) [][]int {
	units := unitsByWords(list, turn)
	if len(units) == 0 {
		return nil
	}
	duties := make([][]int, slices.Max(units)+1)
	for _, place := range leaversByWords(list) {
		duties[units[place]] = append(duties[units[place]], place)
	}
	return duties
}

func mileageByWords(list []impl.Task, turn int) []int {
	var sums []int
	for _, duty := range dutiesByWords(list, turn) {
		sum := 0
		for _, place := range duty {
			sum += list[place].Km
		}
		sums = append(sums, sum)
	}
	return sums
}

// dueByWords goes over the tasks of a unit from the last to the first, so that the first is kept.
func dueByWords(list []impl.Task, turn, limit int) []int {
	if limit < 0 || limit > 1000000 {
		return nil
	}
	sums := mileageByWords(list, turn)
	var due []int
	for unit, duty := range dutiesByWords(list, turn) {
		first, sum := -1, sums[unit]
		for _, place := range slices.Backward(duty) {
			if sum > limit {
				first = place
			}
			sum -= list[place].Km
		}
		due = append(due, first)
	}
	return due
}

func nightByWords(list []impl.Task, turn int) []int {
	var nodes []int
	for _, duty := range dutiesByWords(list, turn) {
		nodes = append(nodes, list[duty[len(duty)-1]].To)
	}
	return nodes
}

// checkCirculation holds what asks for no limit and no units against the words, and answers what Chains does.
func checkCirculation(t *testing.T, list []impl.Task, turn int) []int {
	t.Helper()
	was := slices.Clone(list)
	if got, want := impl.TasksOk(list), jobsByWords(list); got != want {
		t.Fatalf("TasksOk(%v): %v", list, got)
	}
	units := impl.Chains(list, turn)
	if want := unitsByWords(list, turn); !slices.Equal(units, want) {
		t.Fatalf("Chains(%v, %d): %v, not %v", list, turn, units, want)
	}
	if got, want := impl.Fleet(list, turn), fleetByWords(list, turn); got != want {
		t.Fatalf("Fleet(%v, %d): %d, not %d", list, turn, got, want)
	}
	if got, want := impl.Balanced(list), balancedByWords(list); got != want {
		t.Fatalf("Balanced(%v): %v", list, got)
	}
	if got, want := impl.Mileage(list, turn), mileageByWords(list, turn); !slices.Equal(got, want) {
		t.Fatalf("Mileage(%v, %d): %v, not %v", list, turn, got, want)
	}
	if got, want := impl.Night(list, turn), nightByWords(list, turn); !slices.Equal(got, want) {
		t.Fatalf("Night(%v, %d): %v, not %v", list, turn, got, want)
	}
	if !slices.Equal(list, was) {
		t.Fatalf("%v was %v", list, was)
	}
	return units
}

func checkDue(t *testing.T, list []impl.Task, turn, limit int) []int {
	t.Helper()
	was := slices.Clone(list)
	due := impl.Due(list, turn, limit)
	if want := dueByWords(list, turn, limit); !slices.Equal(due, want) {
		t.Fatalf("Due(%v, %d, %d): %v, not %v", list, turn, limit, due, want)
	}
	if !slices.Equal(list, was) {
		t.Fatalf("%v was %v", list, was)
	}
	return due
}

func checkChained(t *testing.T, list []impl.Task, turn int, units []int) bool {
	t.Helper()
	was, units0 := slices.Clone(list), slices.Clone(units)
	ok := impl.ChainOk(list, turn, units)
	if ok != chainedByWords(list, turn, units) {
		t.Fatalf("ChainOk(%v, %d, %v): %v", list, turn, units, ok)
	}
	if !slices.Equal(list, was) || !slices.Equal(units, units0) {
		t.Fatalf("%v was %v, %v was %v", list, was, units, units0)
	}
	return ok
}

func checkFollows(t *testing.T, a, b impl.Task, turn int) bool {
	t.Helper()
	got := impl.Follows(a, b, turn)
	if got != followsByWords(a, b, turn) {
		t.Fatalf("Follows(%v, %v, %d): %v", a, b, turn, got)
	}
	return got
}

func rightJobs() map[string]impl.Task {
	return map[string]impl.Task{
		"an ordinary one":     job(3, 7, 100, 160, 80),
		"the least of all":    job(0, 0, 0, 1, 0),
		"the greatest of all": job(impl.MaxNodes-1, impl.MaxNodes-1, impl.MaxMinute-1, impl.MaxMinute, 2000),
		"the whole time":      job(0, 29, 0, 100000, 2000),
		"a single minute":     job(4, 5, 60, 61, 1),
		"From and To alike":   job(4, 4, 60, 70, 5),
		"no kilometre":        job(4, 5, 60, 70, 0),
		"2000 kilometres":     job(4, 5, 60, 70, 2000),
		"past midnight":       job(4, 5, 1400, 1500, 90),
	}
}

func wrongJobs() map[string]impl.Task {
	return map[string]impl.Task{
		"all at nought":           {},
		"From below 0":            job(-1, 5, 60, 70, 5),
		"From too great":          job(impl.MaxNodes, 5, 60, 70, 5),
		"To below 0":              job(4, -1, 60, 70, 5),
		"To too great":            job(4, impl.MaxNodes, 60, 70, 5),
		"both too great":          job(30, 30, 60, 70, 5),
		"Dep below 0":             job(4, 5, -1, 70, 5),
		"both minutes below 0":    job(4, 5, -2, -1, 5),
		"Dep below 0, Arr 0":      job(4, 5, -1, 0, 5),
		"Arr below 0":             job(4, 5, 0, -1, 5),
		"Arr equal to Dep":        job(4, 5, 60, 60, 5),
		"Arr ahead of Dep":        job(4, 5, 60, 59, 5),
		"both at 0":               job(4, 5, 0, 0, 5),
		"both at MaxMinute":       job(4, 5, 100000, 100000, 5),
		"Arr beyond the minutes":  job(4, 5, 60, impl.MaxMinute+1, 5),
		"both beyond the minutes": job(4, 5, 100001, 100002, 5),
		"Dep at MaxMinute":        job(4, 5, 100000, 100001, 5),
		"Km below 0":              job(4, 5, 60, 70, -1),
		"Km too great":            job(4, 5, 60, 70, 2001),
		"the greatest Km":         job(4, 5, 60, 70, math.MaxInt),
		"the least Km":            job(4, 5, 60, 70, math.MinInt),
		"the greatest nodes":      job(math.MaxInt, math.MaxInt, 60, 70, 5),
		"the least nodes":         job(math.MinInt, math.MinInt, 60, 70, 5),
		"the greatest minutes":    job(4, 5, math.MaxInt-1, math.MaxInt, 5),
		"the least minutes":       job(4, 5, math.MinInt, math.MinInt+1, 5),
		"from least to greatest":  job(4, 5, math.MinInt, math.MaxInt, 5),
		"from greatest to least":  job(4, 5, math.MaxInt, math.MinInt, 5),
	}
}

// wrongLists has each wrong task alone, first, last and in between, and lists that are too long.
func wrongLists() map[string][]impl.Task {
	good := job(4, 5, 60, 70, 5)
	lists := map[string][]impl.Task{
		"one too many":           slices.Repeat(jobs(good), impl.MaxTasks+1),
		"far too many":           slices.Repeat(jobs(good), 1000),
		"one too many, shuttles": shuttleJobs(41, 5),
	}
	for name, bad := range wrongJobs() {
		lists[name] = jobs(bad)
		lists[name+", first"] = jobs(bad, good, good)
		lists[name+", last"] = jobs(good, good, bad)
		lists[name+", between"] = jobs(good, bad, good)
	}
	return lists
}

func wrongTurnovers() []int {
	return []int{-1, -2, -120, impl.MaxTurnover + 1, 1000, math.MaxInt, math.MaxInt - 1, math.MinInt, math.MinInt + 1}
}

func someJobs(d *dice, count, nodes, span, most, km int) []impl.Task {
	var list []impl.Task
	for range count {
		dep := d.below(span)
		list = append(list, job(d.below(nodes), d.below(nodes), dep, dep+1+d.below(most), d.below(km)))
	}
	return list
}

// roundTrips gives tasks that lead from node to node and at last to the first one again, in any order of time.
func roundTrips(d *dice, trips, nodes, span, most int) []impl.Task {
	var list []impl.Task
	for range trips {
		first := d.below(nodes)
		node := first
		for range d.below(5) {
			next, dep := d.below(nodes), d.below(span)
			list = append(list, job(node, next, dep, dep+1+d.below(most), d.below(100)))
			node = next
		}
		dep := d.below(span)
		list = append(list, job(node, first, dep, dep+1+d.below(most), d.below(100)))
	}
	return list
}

func TestTurnConstants(t *testing.T) {
	if impl.MaxTasks != 40 || impl.MaxTurnover != 120 || impl.MaxKm != 1000000 {
		t.Error(impl.MaxTasks, impl.MaxTurnover, impl.MaxKm)
	}
}

func TestTasksOk(t *testing.T) {
	if !impl.TasksOk(nil) || !impl.TasksOk([]impl.Task{}) {
		t.Error("no task")
	}
	var all []impl.Task
	for name, x := range rightJobs() {
		if !impl.TasksOk(jobs(x)) || !impl.TasksOk(jobs(x, x)) || !impl.TasksOk(slices.Repeat(jobs(x), impl.MaxTasks)) {
			t.Error(name)
		}
		if impl.TasksOk(slices.Repeat(jobs(x), impl.MaxTasks+1)) {
			t.Errorf("%s: one too many", name)
		}
		all = append(all, x)
	}
	if !impl.TasksOk(all) {
		t.Error("all of them")
	}
	for name, list := range wrongLists() {
		if impl.TasksOk(list) {
			t.Error(name)
		}
	}
	for count := range 60 {
		if got := impl.TasksOk(shuttleJobs(count, 3)); got != (count <= 40) {
			t.Errorf("%d tasks: %v", count, got)
		}
	}
}

func TestTasksOkOfAllEdges(t *testing.T) {
	nodes := []int{-1, 0, 1, impl.MaxNodes - 1, impl.MaxNodes}
	minutes := []int{-1, 0, 1, 2, impl.MaxMinute - 1, impl.MaxMinute, impl.MaxMinute + 1}
	good := job(1, 1, 1, 2, 1)
	for _, from := range nodes {
		for _, to := range nodes {
			for _, dep := range minutes {
				for _, arr := range minutes {
					for _, km := range []int{-1, 0, 1, 1999, 2000, 2001} {
						x := job(from, to, dep, arr, km)
						want := jobByWords(x)
						if impl.TasksOk(jobs(x)) != want || impl.TasksOk(jobs(x, good)) != want || impl.TasksOk(jobs(good, x)) != want {
							t.Errorf("%v is not %v", x, want)
						}
						checkFollows(t, x, good, 0)
						checkFollows(t, good, x, 0)
					}
				}
			}
		}
	}
}

func TestFollowsByHand(t *testing.T) {
	a := job(0, 1, 10, 20, 30)
	cases := map[string]struct {
		a, b impl.Task
		turn int
		want bool
	}{
		"in time":                        {a, job(1, 0, 40, 50, 0), 5, true},
		"just in time":                   {a, job(1, 0, 25, 35, 0), 5, true},
		"a minute too late":              {a, job(1, 0, 24, 35, 0), 5, false},
		"a minute to spare":              {a, job(1, 0, 26, 35, 0), 5, true},
		"no turn, in the very minute":    {a, job(1, 0, 20, 35, 0), 0, true},
		"no turn, a minute too late":     {a, job(1, 0, 19, 35, 0), 0, false},
		"a long turn":                    {a, job(1, 0, 140, 150, 0), 120, true},
		"a long turn, too late":          {a, job(1, 0, 139, 150, 0), 120, false},
		"a turn too long":                {a, job(1, 0, 500, 510, 0), 121, false},
		"a turn below 0":                 {a, job(1, 0, 500, 510, 0), -1, false},
		"a turn below 0, too early":      {a, job(1, 0, 15, 510, 0), -10, false},
		"at another node":                {a, job(2, 0, 40, 50, 0), 5, false},
		"from where a begins":            {a, job(0, 1, 40, 50, 0), 5, false},
		"to the same node":               {a, job(1, 1, 40, 50, 0), 5, true},
		"the other way round":            {job(1, 0, 40, 50, 0), a, 5, false},
		"itself":                         {a, a, 0, false},
		"itself, on the spot":            {job(3, 3, 10, 20, 0), job(3, 3, 10, 20, 0), 0, false},
		"the next on the spot":           {job(3, 3, 10, 20, 0), job(3, 3, 20, 30, 0), 0, true},
		"at the first minutes":           {job(0, 29, 0, 1, 0), job(29, 0, 1, 2, 0), 0, true},
		"at the last minutes":            {job(0, 29, 0, 99998, 0), job(29, 0, 99999, 100000, 0), 1, true},
		"at the last minutes, late":      {job(0, 29, 0, 99998, 0), job(29, 0, 99999, 100000, 0), 2, false},
		"past the last minute":           {job(0, 29, 0, 100000, 0), job(29, 0, 99999, 100000, 0), 120, false},
		"the Km make no difference":      {job(0, 1, 10, 20, 2000), job(1, 0, 25, 35, 2000), 5, true},
		"too many Km of a":               {job(0, 1, 10, 20, 2001), job(1, 0, 25, 35, 2000), 5, false},
		"too many Km of b":               {job(0, 1, 10, 20, 2000), job(1, 0, 25, 35, 2001), 5, false},
		"the node is none of both":       {job(0, 30, 10, 20, 0), job(30, 0, 25, 35, 0), 5, false},
		"the node is below 0":            {job(0, -1, 10, 20, 0), job(-1, 0, 25, 35, 0), 5, false},
		"a has no time":                  {job(0, 1, 20, 20, 0), job(1, 0, 25, 35, 0), 5, false},
		"b has no time":                  {a, job(1, 0, 25, 25, 0), 5, false},
		"the sum would wrap round":       {job(0, 1, 10, math.MaxInt, 0), job(1, 0, 25, 35, 0), 5, false},
		"the turn would make it wrap":    {a, job(1, 0, 25, 35, 0), math.MaxInt, false},
		"the turn is the least number":   {a, job(1, 0, 25, 35, 0), math.MinInt, false},
		"Dep of b beyond the last one":   {a, job(1, 0, 100000, 100001, 0), 5, false},
		"Dep of a ahead of the first":    {job(0, 1, -1, 20, 0), job(1, 0, 25, 35, 0), 5, false},
		"both wrong, and alike":          {impl.Task{}, impl.Task{}, 0, false},
		"From of a wrong":                {job(-1, 1, 10, 20, 0), job(1, 0, 25, 35, 0), 5, false},
		"To of b wrong":                  {a, job(1, 30, 25, 35, 0), 5, false},
		"as long a pause as there is":    {job(5, 6, 0, 1, 0), job(6, 5, 99999, 100000, 0), 120, true},
		"Arr and turn past the last one": {job(5, 6, 0, 99999, 0), job(6, 5, 99999, 100000, 0), 2, false},
	}
	for name, c := range cases {
		if got := checkFollows(t, c.a, c.b, c.turn); got != c.want {
			t.Errorf("%s: %v", name, got)
		}
	}
}

func TestFollowsAtEveryGap(t *testing.T) {
	a := job(0, 1, 10, 500, 30)
	for turn := -3; turn <= impl.MaxTurnover+3; turn++ {
		for late := -3; late <= 3; late++ {
			b := job(1, 2, a.Arr+turn+late, 900, 0)
			if got := checkFollows(t, a, b, turn); got != (late >= 0 && turn >= 0 && turn <= 120) {
				t.Errorf("a turn of %d, and %d: %v", turn, late, got)
			}
		}
	}
	for name, bad := range wrongJobs() {
		for _, turn := range []int{-1, 0, 5, 120, 121} {
			if impl.Follows(bad, job(5, 4, 200, 210, 1), turn) || impl.Follows(job(3, 4, 0, 1, 1), bad, turn) || impl.Follows(bad, bad, turn) {
				t.Errorf("%s, %d", name, turn)
			}
		}
	}
}

func TestChainsByHand(t *testing.T) {
	cases := map[string]struct {
		list  []impl.Task
		turn  int
		units []int
	}{
		"none":                            {nil, 0, nil},
		"one":                             {jobs(job(0, 1, 10, 20, 5)), 120, []int{0}},
		"there and back":                  {jobs(job(0, 1, 10, 20, 5), job(1, 0, 40, 50, 5)), 5, []int{0, 0}},
		"just in time":                    {jobs(job(0, 1, 10, 20, 5), job(1, 0, 25, 50, 5)), 5, []int{0, 0}},
		"a minute late":                   {jobs(job(0, 1, 10, 20, 5), job(1, 0, 24, 50, 5)), 5, []int{0, 1}},
		"a minute to spare":               {jobs(job(0, 1, 10, 20, 5), job(1, 0, 26, 50, 5)), 5, []int{0, 0}},
		"no turn":                         {jobs(job(0, 1, 10, 20, 5), job(1, 0, 20, 50, 5)), 0, []int{0, 0}},
		"no turn, a minute late":          {jobs(job(0, 1, 10, 20, 5), job(1, 0, 19, 50, 5)), 0, []int{0, 1}},
		"MaxTurnover":                     {jobs(job(0, 1, 10, 20, 5), job(1, 0, 140, 150, 5)), 120, []int{0, 0}},
		"MaxTurnover, a minute late":      {jobs(job(0, 1, 10, 20, 5), job(1, 0, 139, 150, 5)), 120, []int{0, 1}},
		"from another node":               {jobs(job(0, 1, 10, 20, 5), job(0, 1, 40, 50, 5)), 5, []int{0, 1}},
		"the later one first":             {jobs(job(1, 0, 40, 50, 5), job(0, 1, 10, 20, 5)), 5, []int{0, 0}},
		"the later one first, two units":  {jobs(job(1, 0, 22, 50, 5), job(0, 1, 10, 20, 5)), 5, []int{1, 0}},
		"numbers come in the order":       {jobs(job(0, 1, 30, 31, 0), job(0, 1, 20, 21, 0), job(0, 1, 10, 11, 0)), 0, []int{2, 1, 0}},
		"one Dep, place tells":            {jobs(job(0, 1, 30, 31, 0), job(2, 1, 30, 31, 0), job(1, 1, 30, 31, 0)), 0, []int{0, 1, 2}},
		"one Dep, the first gets it":      {jobs(job(0, 1, 10, 20, 0), job(1, 0, 30, 90, 0), job(1, 0, 30, 40, 0)), 5, []int{0, 0, 1}},
		"one Dep, not by Arr":             {jobs(job(1, 0, 30, 90, 0), job(0, 1, 10, 20, 0), job(1, 0, 30, 40, 0)), 5, []int{0, 0, 1}},
		"one Dep, not by To":              {jobs(job(1, 9, 30, 40, 0), job(1, 0, 30, 40, 0), job(0, 1, 10, 20, 0)), 5, []int{0, 1, 0}},
		"the least Arr":                   {jobs(job(0, 1, 10, 30, 0), job(0, 1, 12, 20, 0), job(1, 0, 40, 50, 0)), 5, []int{0, 1, 1}},
		"the least Arr, and the other":    {jobs(job(0, 1, 10, 30, 0), job(0, 1, 12, 20, 0), job(1, 0, 40, 50, 0), job(1, 0, 41, 50, 0)), 5, []int{0, 1, 1, 0}},
		"the least Arr, one too late":     {jobs(job(0, 1, 10, 30, 0), job(0, 1, 12, 20, 0), job(1, 0, 30, 50, 0)), 5, []int{0, 1, 1}},
		"the least Arr is elsewhere":      {jobs(job(0, 2, 10, 15, 0), job(0, 1, 12, 20, 0), job(1, 0, 30, 50, 0)), 5, []int{0, 1, 1}},
		"Arr alike, the least number":     {jobs(job(0, 1, 12, 20, 0), job(0, 1, 10, 20, 0), job(1, 0, 30, 50, 0)), 5, []int{1, 0, 0}},
		"Arr alike of three":              {jobs(job(1, 0, 30, 50, 0), job(0, 1, 12, 20, 0), job(0, 1, 10, 20, 0), job(0, 1, 10, 19, 0)), 5, []int{1, 2, 0, 1}},
		"Arr alike, two are wanted":       {jobs(job(1, 0, 31, 50, 0), job(1, 0, 30, 50, 0), job(0, 1, 12, 20, 0), job(0, 1, 10, 20, 0)), 5, []int{1, 0, 1, 0}},
		"the last task counts":            {jobs(job(0, 1, 10, 20, 0), job(1, 1, 25, 40, 0), job(0, 1, 12, 30, 0), job(1, 0, 50, 60, 0)), 5, []int{0, 0, 1, 1}},
		"used in between":                 {jobs(job(0, 1, 10, 20, 0), job(1, 2, 25, 30, 0), job(1, 0, 35, 40, 0)), 5, []int{0, 0, 1}},
		"used in between, and back":       {jobs(job(0, 1, 10, 20, 0), job(1, 2, 25, 30, 0), job(2, 1, 35, 40, 0), job(1, 0, 45, 50, 0)), 5, []int{0, 0, 0, 0}},
		"used in between, not yet back":   {jobs(job(0, 1, 10, 20, 0), job(1, 2, 25, 30, 0), job(2, 1, 35, 41, 0), job(1, 0, 45, 50, 0)), 5, []int{0, 0, 0, 1}},
		"a new one though one comes":      {jobs(job(0, 1, 10, 20, 0), job(1, 0, 21, 22, 0), job(1, 0, 30, 31, 0)), 5, []int{0, 1, 0}},
		"on the spot":                     {jobs(job(3, 3, 10, 20, 0), job(3, 3, 20, 30, 0), job(3, 3, 15, 25, 0), job(3, 3, 25, 26, 0)), 0, []int{0, 0, 1, 1}},
		"at the last minutes":             {jobs(job(29, 0, 99999, 100000, 0), job(0, 29, 0, 99879, 0)), 120, []int{0, 0}},
		"at the last minutes, late":       {jobs(job(29, 0, 99999, 100000, 0), job(0, 29, 0, 99880, 0)), 120, []int{1, 0}},
		"the Km make no difference":       {jobs(job(0, 1, 10, 20, 2000), job(0, 1, 10, 20, 0), job(1, 0, 30, 40, 7)), 5, []int{0, 1, 0}},
		"five minutes":                    {fourJobs(), 5, []int{0, 0, 1, 1}},
		"six minutes":                     {fourJobs(), 6, []int{0, 2, 1, 0}},
		"seven minutes":                   {fourJobs(), 7, []int{0, 2, 1, 0}},
		"eight minutes":                   {fourJobs(), 8, []int{0, 2, 1, 3}},
		"as many as may be, one unit":     {shuttleJobs(40, 5), 5, slices.Repeat([]int{0}, 40)},
		"as many as may be, of their own": {slices.Repeat(jobs(job(0, 0, 5, 6, 0)), 40), 0, numbers(0, 39)},
		"one too many":                    {shuttleJobs(41, 5), 5, nil},
	}
	for name, c := range cases {
		units := checkCirculation(t, c.list, c.turn)
		checkInts(t, name, units, c.units)
		if len(c.list) <= 40 && !checkChained(t, c.list, c.turn, units) {
			t.Errorf("%s: not ChainOk", name)
		}
	}
}

func TestTurnRefuses(t *testing.T) {
	list := fourJobs()
	for turn, want := range map[int]int{-1: -1, 0: 2, 5: 2, 6: 3, 120: 4, 121: -1} {
		if got := impl.Fleet(list, turn); got != want {
			t.Errorf("a turn of %d: %d, not %d", turn, got, want)
		}
	}
	for _, turn := range wrongTurnovers() {
		for _, list := range [][]impl.Task{nil, list, jobs(list[0])} {
			if impl.Chains(list, turn) != nil || impl.Fleet(list, turn) != -1 || impl.Mileage(list, turn) != nil {
				t.Errorf("%d tasks, a turn of %d", len(list), turn)
			}
			if impl.Due(list, turn, 0) != nil || impl.Night(list, turn) != nil || impl.ChainOk(list, turn, numbers(0, len(list)-1)) {
				t.Errorf("%d tasks, a turn of %d", len(list), turn)
			}
		}
	}
	for name, list := range wrongLists() {
		for _, turn := range []int{-1, 0, 5, 120, 121} {
			if impl.Chains(list, turn) != nil || impl.Fleet(list, turn) != -1 || impl.Mileage(list, turn) != nil || impl.Balanced(list) {
				t.Errorf("%s, a turn of %d", name, turn)
			}
			if impl.Due(list, turn, 0) != nil || impl.Night(list, turn) != nil {
				t.Errorf("%s, a turn of %d", name, turn)
			}
			if impl.ChainOk(list, turn, numbers(0, len(list)-1)) || impl.ChainOk(list, turn, make([]int, len(list))) || impl.ChainOk(list, turn, nil) {
				t.Errorf("%s, a turn of %d: ChainOk", name, turn)
			}
		}
	}
}

func TestNoTaskAtAll(t *testing.T) {
	for _, list := range [][]impl.Task{nil, {}} {
		for _, turn := range []int{0, 5, 120} {
			if len(impl.Chains(list, turn)) != 0 || impl.Fleet(list, turn) != 0 || !impl.Balanced(list) || !impl.TasksOk(list) {
				t.Errorf("a turn of %d", turn)
			}
			if len(impl.Mileage(list, turn)) != 0 || len(impl.Due(list, turn, 0)) != 0 || len(impl.Night(list, turn)) != 0 {
				t.Errorf("a turn of %d: units", turn)
			}
			if !impl.ChainOk(list, turn, nil) || !impl.ChainOk(list, turn, []int{}) || impl.ChainOk(list, turn, []int{0}) {
				t.Errorf("a turn of %d: ChainOk", turn)
			}
		}
	}
}

func TestChainOkByHand(t *testing.T) {
	line := jobs(job(0, 1, 10, 20, 0), job(1, 2, 25, 30, 0), job(2, 0, 35, 40, 0))
	cases := map[string]struct {
		list  []impl.Task
		turn  int
		units []int
		want  bool
	}{
		"one unit":                        {line, 5, []int{0, 0, 0}, true},
		"one unit with another number":    {line, 5, []int{7, 7, 7}, true},
		"the greatest number":             {line, 5, []int{39, 39, 39}, true},
		"a number too great":              {line, 5, []int{40, 40, 40}, false},
		"one of them too great":           {line, 5, []int{0, 0, 40}, false},
		"a number below 0":                {line, 5, []int{-1, -1, -1}, false},
		"one of them below 0":             {line, 5, []int{-1, 0, 0}, false},
		"the greatest int":                {line, 5, []int{0, math.MaxInt, 0}, false},
		"the least int":                   {line, 5, []int{0, math.MinInt, 0}, false},
		"numbers with gaps":               {line, 5, []int{39, 0, 20}, true},
		"numbers not in order":            {line, 5, []int{2, 1, 0}, true},
		"more units than are needed":      {line, 5, []int{0, 1, 1}, true},
		"one is left out in between":      {line, 5, []int{0, 1, 0}, false},
		"too few numbers":                 {line, 5, []int{0, 0}, false},
		"too many numbers":                {line, 5, []int{0, 0, 0, 0}, false},
		"no numbers":                      {line, 5, nil, false},
		"an empty list of numbers":        {line, 5, []int{}, false},
		"a minute too short":              {line, 6, []int{0, 0, 0}, false},
		"a minute too short, of its own":  {line, 6, []int{0, 1, 2}, true},
		"no turn":                         {line, 0, []int{0, 0, 0}, true},
		"a turn of MaxTurnover":           {line, 120, []int{0, 1, 2}, true},
		"a turn too long":                 {line, 121, []int{0, 1, 2}, false},
		"a turn below 0":                  {line, -1, []int{0, 1, 2}, false},
		"not in the order of place":       {jobs(line[2], line[0], line[1]), 5, []int{3, 3, 3}, true},
		"the other way round":             {jobs(line[2], line[1], line[0]), 5, []int{0, 0, 0}, true},
		"in the order of place, not time": {jobs(job(0, 1, 50, 60, 0), job(1, 0, 10, 20, 0)), 5, []int{0, 0}, true},
		"two of one Dep":                  {jobs(job(1, 1, 10, 20, 0), job(1, 1, 10, 20, 0)), 0, []int{0, 0}, false},
		"two of one Dep, of their own":    {jobs(job(1, 1, 10, 20, 0), job(1, 1, 10, 20, 0)), 0, []int{1, 0}, true},
		"they overlap":                    {jobs(job(1, 1, 10, 20, 0), job(1, 1, 19, 21, 0)), 0, []int{0, 0}, false},
		"they touch":                      {jobs(job(1, 1, 10, 20, 0), job(1, 1, 20, 21, 0)), 0, []int{0, 0}, true},
		"at another node":                 {jobs(job(0, 1, 10, 20, 0), job(2, 1, 30, 40, 0)), 5, []int{0, 0}, false},
		"at another node, of their own":   {jobs(job(0, 1, 10, 20, 0), job(2, 1, 30, 40, 0)), 5, []int{0, 1}, true},
		"at last another node":            {jobs(line[0], line[1], line[2], job(1, 0, 90, 95, 0)), 5, []int{0, 0, 0, 0}, false},
		"not the choice of Chains":        {fourJobs(), 5, []int{1, 0, 0, 1}, false},
		"nor this one":                    {fourJobs(), 5, []int{0, 1, 1, 0}, false},
		"but in the end this one":         {fourJobs(), 3, []int{0, 1, 1, 0}, true},
		"one after the other":             {fourJobs(), 5, []int{3, 3, 0, 0}, true},
		"all on one":                      {fourJobs(), 5, []int{0, 0, 0, 0}, false},
		"as many as may be, one unit":     {shuttleJobs(40, 5), 5, make([]int, 40), true},
		"as many as may be, a turn more":  {shuttleJobs(40, 5), 6, make([]int, 40), false},
		"as many units as may be":         {shuttleJobs(40, 5), 6, numbers(0, 39), true},
		"one task too many":               {shuttleJobs(41, 5), 5, make([]int, 41), false},
		"a number for one too many":       {shuttleJobs(40, 5), 5, make([]int, 41), false},
		"a number for one too few":        {shuttleJobs(40, 5), 5, make([]int, 39), false},
	}
	for name, c := range cases {
		if got := checkChained(t, c.list, c.turn, c.units); got != c.want {
			t.Errorf("%s: %v", name, got)
		}
	}
}

func TestFleetByHand(t *testing.T) {
	cases := map[string]struct {
		list []impl.Task
		turn int
		want int
	}{
		"none":                      {nil, 0, 0},
		"one":                       {jobs(job(0, 1, 10, 20, 0)), 120, 1},
		"two that follow":           {jobs(job(0, 1, 10, 20, 0), job(1, 0, 25, 30, 0)), 5, 1},
		"two that don't":            {jobs(job(0, 1, 10, 20, 0), job(1, 0, 25, 30, 0)), 6, 2},
		"the later one first":       {jobs(job(1, 0, 25, 30, 0), job(0, 1, 10, 20, 0)), 5, 1},
		"two come, one leaves":      {jobs(job(0, 1, 10, 20, 0), job(0, 1, 11, 21, 0), job(1, 0, 90, 95, 0)), 5, 2},
		"one comes, two leave":      {jobs(job(0, 1, 10, 20, 0), job(1, 0, 90, 95, 0), job(1, 0, 91, 96, 0)), 5, 2},
		"who comes late is kept":    {jobs(job(0, 1, 10, 20, 0), job(0, 1, 10, 40, 0), job(1, 0, 30, 95, 0), job(1, 0, 45, 96, 0)), 5, 2},
		"five minutes":              {fourJobs(), 5, 2},
		"six minutes":               {fourJobs(), 6, 3},
		"seven minutes":             {fourJobs(), 7, 3},
		"eight minutes":             {fourJobs(), 8, 4},
		"as many as may be":         {shuttleJobs(40, 5), 5, 1},
		"a minute too short":        {shuttleJobs(40, 5), 6, 3},
		"each of its own":           {slices.Repeat(jobs(job(0, 0, 5, 6, 0)), 40), 0, 40},
		"one too many":              {shuttleJobs(41, 5), 5, -1},
		"a wrong one":               {jobs(job(0, 1, 10, 20, 0), job(1, 30, 25, 30, 0)), 5, -1},
		"a turn too long":           {fourJobs(), 121, -1},
		"a turn below 0":            {fourJobs(), -1, -1},
		"no task, a turn below 0":   {nil, -1, -1},
		"no task, a turn too long":  {nil, 121, -1},
		"the longest turn":          {shuttleJobs(40, 120), 120, 1},
		"the longest turn, less":    {shuttleJobs(40, 119), 120, 3},
		"at nodes of their own":     {jobs(job(0, 0, 1, 2, 0), job(1, 1, 3, 4, 0), job(2, 2, 5, 6, 0), job(0, 0, 7, 8, 0)), 0, 3},
		"round by all of the nodes": {jobs(job(0, 1, 1, 2, 0), job(1, 2, 3, 4, 0), job(2, 29, 5, 6, 0), job(29, 0, 7, 8, 0), job(0, 0, 9, 10, 0)), 1, 1},
	}
	for name, c := range cases {
		if got := impl.Fleet(c.list, c.turn); got != c.want {
			t.Errorf("%s: %d, not %d", name, got, c.want)
		}
		checkCirculation(t, c.list, c.turn)
	}
}

func TestBalancedByHand(t *testing.T) {
	cases := map[string]struct {
		list []impl.Task
		want bool
	}{
		"none":                        {nil, true},
		"one":                         {jobs(job(0, 1, 10, 20, 0)), false},
		"on the spot":                 {jobs(job(7, 7, 10, 20, 0)), true},
		"there and back":              {jobs(job(0, 1, 10, 20, 0), job(1, 0, 10, 20, 0)), true},
		"there and back, not in time": {jobs(job(0, 1, 50, 60, 0), job(1, 0, 10, 20, 0)), true},
		"twice there":                 {jobs(job(0, 1, 10, 20, 0), job(0, 1, 10, 20, 0)), false},
		"two there, one back":         {jobs(job(0, 1, 10, 20, 0), job(0, 1, 10, 20, 0), job(1, 0, 30, 40, 0)), false},
		"one there, two back":         {jobs(job(0, 1, 10, 20, 0), job(1, 0, 10, 20, 0), job(1, 0, 30, 40, 0)), false},
		"two and two":                 {fourJobs(), true},
		"one of four is missing":      {fourJobs()[:3], false},
		"and another":                 {fourJobs()[1:], false},
		"in a ring":                   {jobs(job(0, 1, 10, 20, 0), job(1, 29, 10, 20, 0), job(29, 0, 10, 20, 0)), true},
		"a ring that is not closed":   {jobs(job(0, 1, 10, 20, 0), job(1, 29, 10, 20, 0), job(29, 2, 10, 20, 0)), false},
		"the middle is balanced":      {jobs(job(0, 1, 10, 20, 0), job(1, 2, 10, 20, 0)), false},
		"too many here, too few there": {
			jobs(job(0, 1, 10, 20, 0), job(0, 1, 10, 20, 0), job(2, 3, 10, 20, 0), job(3, 2, 10, 20, 0), job(1, 0, 10, 20, 0), job(1, 2, 10, 20, 0)), false},
		"at the last node":        {jobs(job(29, 29, 10, 20, 0), job(0, 29, 10, 20, 0), job(29, 0, 10, 20, 0)), true},
		"at the last node, wrong": {jobs(job(30, 30, 10, 20, 0)), false},
		"a wrong one, balanced":   {jobs(job(0, 1, 10, 20, 0), job(1, 0, 20, 20, 0)), false},
		"as many as may be":       {shuttleJobs(40, 1), true},
		"one fewer":               {shuttleJobs(39, 1), false},
		"too many":                {shuttleJobs(42, 1), false},
	}
	for name, c := range cases {
		if got := impl.Balanced(c.list); got != c.want {
			t.Errorf("%s: %v", name, got)
		}
		checkCirculation(t, c.list, 0)
	}
}

func TestMileageAndNightByHand(t *testing.T) {
	cases := map[string]struct {
		list  []impl.Task
		turn  int
		km    []int
		night []int
	}{
		"none":                         {nil, 5, nil, nil},
		"one":                          {jobs(job(0, 1, 10, 20, 5)), 5, []int{5}, []int{1}},
		"one without kilometres":       {jobs(job(0, 29, 10, 20, 0)), 5, []int{0}, []int{29}},
		"five minutes":                 {fourJobs(), 5, []int{60, 80}, []int{0, 0}},
		"six minutes":                  {fourJobs(), 6, []int{70, 40, 30}, []int{0, 1, 0}},
		"eight minutes":                {fourJobs(), 8, []int{30, 40, 30, 40}, []int{1, 1, 0, 0}},
		"the later one first":          {jobs(job(1, 2, 40, 50, 7), job(0, 1, 10, 20, 5)), 5, []int{12}, []int{2}},
		"the numbers, not the places":  {jobs(job(1, 2, 22, 50, 7), job(0, 1, 10, 20, 5)), 5, []int{5, 7}, []int{1, 2}},
		"the last by time, not by Arr": {jobs(job(0, 3, 12, 90, 1), job(0, 4, 13, 20, 2), job(4, 5, 30, 40, 4)), 5, []int{1, 6}, []int{3, 5}},
		"the most kilometres":          {[]impl.Task{job(0, 0, 0, 1, 2000), job(0, 0, 1, 2, 2000), job(0, 0, 2, 3, 2000)}, 0, []int{6000}, []int{0}},
		"as many as may be":            {shuttleJobs(40, 5), 5, []int{4000}, []int{0}},
		"as many, a minute too short":  {shuttleJobs(40, 5), 6, []int{1400, 1300, 1300}, []int{0, 0, 1}},
		"a wrong one":                  {jobs(job(0, 1, 10, 20, 5), job(1, 0, 25, 35, 2001)), 5, nil, nil},
		"a turn below 0":               {fourJobs(), -1, nil, nil},
		"a turn too long":              {fourJobs(), 121, nil, nil},
		"one too many":                 {shuttleJobs(41, 5), 5, nil, nil},
	}
	for name, c := range cases {
		checkInts(t, name, impl.Mileage(c.list, c.turn), c.km)
		checkInts(t, name, impl.Night(c.list, c.turn), c.night)
		checkCirculation(t, c.list, c.turn)
	}
}

func TestDueByHand(t *testing.T) {
	three := jobs(job(0, 1, 10, 20, 5), job(1, 2, 25, 30, 0), job(2, 0, 35, 40, 3))
	turned := jobs(three[2], three[1], three[0])
	most := slices.Clone(shuttleJobs(40, 5))
	for k := range most {
		most[k].Km = 2000
	}
	cases := map[string]struct {
		list  []impl.Task
		turn  int
		limit int
		want  []int
	}{
		"none":                        {nil, 5, 0, nil},
		"at once":                     {three, 5, 0, []int{0}},
		"passed by one":               {three, 5, 4, []int{0}},
		"just met":                    {three, 5, 5, []int{2}},
		"just met at the end":         {three, 5, 8, []int{-1}},
		"passed by one at the end":    {three, 5, 7, []int{2}},
		"never":                       {three, 5, 9, []int{-1}},
		"the greatest limit":          {three, 5, impl.MaxKm, []int{-1}},
		"a limit too great":           {three, 5, impl.MaxKm + 1, nil},
		"a limit below 0":             {three, 5, -1, nil},
		"in the order of Dep":         {turned, 5, 0, []int{2}},
		"in the order of Dep, later":  {turned, 5, 5, []int{0}},
		"of two units":                {fourJobs(), 5, 65, []int{-1, 3}},
		"of two units, both":          {fourJobs(), 5, 59, []int{1, 3}},
		"of two units, the first met": {fourJobs(), 5, 60, []int{-1, 3}},
		"of two units, soon":          {fourJobs(), 5, 30, []int{1, 2}},
		"of two units, at once":       {fourJobs(), 5, 29, []int{0, 2}},
		"of three units":              {fourJobs(), 6, 30, []int{3, 2, -1}},
		"no kilometre at all":         {jobs(job(0, 1, 10, 20, 0), job(1, 0, 30, 40, 0)), 5, 0, []int{-1}},
		"the first kilometre":         {jobs(job(0, 1, 10, 20, 0), job(1, 0, 30, 40, 1)), 5, 0, []int{1}},
		"the most, met":               {most, 5, 80000, []int{-1}},
		"the most, passed":            {most, 5, 79999, []int{39}},
		"the most, half":              {most, 5, 40000, []int{20}},
		"the most, half less one":     {most, 5, 39999, []int{19}},
		"a wrong list":                {jobs(job(0, 1, 20, 20, 5)), 5, 0, nil},
		"a turn below 0":              {three, -1, 0, nil},
		"a turn too long":             {three, 121, 0, nil},
		"one too many":                {shuttleJobs(41, 5), 5, 0, nil},
		"the greatest int":            {three, 5, math.MaxInt, nil},
		"the least int":               {three, 5, math.MinInt, nil},
	}
	for name, c := range cases {
		checkInts(t, name, checkDue(t, c.list, c.turn, c.limit), c.want)
	}
}

func TestDueAtEveryLimit(t *testing.T) {
	d := &dice{state: 160}
	for range 40 {
		list := someJobs(d, 1+d.below(12), 2, 100, 9, 6)
		for limit := -1; limit <= 70; limit++ {
			due := checkDue(t, list, d.below(4), limit)
			if limit < 0 && due != nil {
				t.Fatalf("a limit of %d: %v", limit, due)
			}
		}
		for _, limit := range []int{999999, 1000000, 1000001} {
			checkDue(t, list, 1, limit)
		}
	}
}

// TestAllSmallCirculations goes through all lists of a few chosen tasks, and all units for them.
func TestAllSmallCirculations(t *testing.T) {
	choices := jobs(job(0, 1, 1, 3, 2), job(0, 1, 2, 3, 1), job(1, 0, 3, 5, 4), job(1, 1, 4, 6, 3), job(1, 0, 6, 7, 0), job(0, 0, 0, 9, 1))
	manyLists(4, choices, func(list []impl.Task) {
		for turn := -1; turn <= 2; turn++ {
			units := checkCirculation(t, list, turn)
			checkDue(t, list, turn, len(list))
			if turn < 0 {
				continue
			}
			if fewest := fewestUnits(list, turn); impl.Fleet(list, turn) != fewest {
				t.Fatalf("Fleet(%v, %d) is not %d", list, turn, fewest)
			}
			if !checkChained(t, list, turn, units) {
				t.Fatalf("%v, %d, %v: not ChainOk", list, turn, units)
			}
		}
	})
	manyLists(3, choices, func(list []impl.Task) {
		manyLists(3, []int{-1, 0, 1, 39, 40}, func(units []int) {
			checkChained(t, list, 0, units)
			checkChained(t, list, 1, units)
		})
	})
}

func TestManyCirculations(t *testing.T) {
	d := &dice{state: 161}
	for range 3000 {
		nodes, span := 1+d.below(5), 20+d.below(300)
		list := someJobs(d, d.below(41), nodes, span, 1+d.below(40), 1+d.below(100))
		turn := d.below(20)
		units := checkCirculation(t, list, turn)
		if !checkChained(t, list, turn, units) {
			t.Fatalf("%v, %d, %v: not ChainOk", list, turn, units)
		}
		checkDue(t, list, turn, d.below(300))
		if len(list) == 0 {
			continue
		}
		// One task on another unit: seldom right, but sometimes.
		units[d.below(len(units))] = d.below(42) - 1
		checkChained(t, list, turn, units)
		checkFollows(t, list[d.below(len(list))], list[d.below(len(list))], turn)
	}
}

// TestFleetOfAllWays holds Fleet against every way to give a few tasks to units.
func TestFleetOfAllWays(t *testing.T) {
	d := &dice{state: 162}
	for range 150 {
		list := someJobs(d, 5+d.below(3), 1+d.below(2), 30, 8, 9)
		turn := d.below(4)
		if got, want := impl.Fleet(list, turn), fewestUnits(list, turn); got != want {
			t.Fatalf("Fleet(%v, %d): %d, not %d", list, turn, got, want)
		}
	}
}

// TestFleetWhateverTheOrder turns a list round: its places tell who gets which number, but not how many are needed.
func TestFleetWhateverTheOrder(t *testing.T) {
	d := &dice{state: 163}
	for range 500 {
		list := someJobs(d, d.below(41), 1+d.below(4), 20+d.below(100), 20, 9)
		turn := d.below(10)
		back := slices.Clone(list)
		slices.Reverse(back)
		if impl.Fleet(list, turn) != impl.Fleet(back, turn) || impl.Balanced(list) != impl.Balanced(back) {
			t.Fatalf("%v, %d", list, turn)
		}
		checkCirculation(t, back, turn)
		if turn > 0 && impl.Fleet(list, turn-1) > impl.Fleet(list, turn) {
			t.Fatalf("%v: a shorter turn than %d needs more", list, turn)
		}
	}
}

// countNodes tells how often each node comes in a list.
func countNodes(nodes []int) [30]int {
	var count [30]int
	for _, node := range nodes {
		count[node]++
	}
	return count
}

// morningNodes tells where the first task of each unit begins.
func morningNodes(list []impl.Task, units []int) []int {
	begun := map[int]bool{}
	var nodes []int
	for _, place := range leaversByWords(list) {
		if !begun[units[place]] {
			nodes = append(nodes, list[place].From)
		}
		begun[units[place]] = true
	}
	return nodes
}

func checkPromise18(t *testing.T, list []impl.Task, turn int) {
	t.Helper()
	units, fleet := impl.Chains(list, turn), impl.Fleet(list, turn)
	count := 0
	if len(units) > 0 {
		count = slices.Max(units) + 1
	}
	if len(units) != len(list) || count > fleet {
		t.Fatalf("%v, %d: %v, but a fleet of %d", list, turn, units, fleet)
	}
	for unit := range count {
		if !slices.Contains(units, unit) {
			t.Fatalf("%v, %d: %v leaves out %d", list, turn, units, unit)
		}
	}
	if !impl.ChainOk(list, turn, units) {
		t.Fatalf("%v, %d: %v is not ChainOk", list, turn, units)
	}
	night := impl.Night(list, turn)
	if len(night) != count || len(impl.Mileage(list, turn)) != count || len(impl.Due(list, turn, 0)) != count {
		t.Fatalf("%v, %d: not one for each of %d units", list, turn, count)
	}
	if same := countNodes(night) == countNodes(morningNodes(list, units)); same != impl.Balanced(list) {
		t.Fatalf("%v, %d: nights %v, mornings %v", list, turn, night, morningNodes(list, units))
	}
}

func TestPromise18(t *testing.T) {
	for turn := range impl.MaxTurnover + 1 {
		checkPromise18(t, nil, turn)
		checkPromise18(t, fourJobs(), turn)
		checkPromise18(t, shuttleJobs(40, turn), turn)
		checkPromise18(t, shuttleJobs(40, turn), max(turn-1, 0))
		checkPromise18(t, shuttleJobs(39, turn), min(turn+1, 120))
	}
	d := &dice{state: 164}
	for range 3000 {
		list := roundTrips(d, d.below(9), 1+d.below(30), 20+d.below(500), 1+d.below(30))
		if !impl.Balanced(list) {
			t.Fatalf("%v is balanced", list)
		}
		checkPromise18(t, list, d.below(121))
		checkPromise18(t, list, d.below(10))
		checkPromise18(t, someJobs(d, d.below(41), 1+d.below(3), 200, 20, 9), d.below(10))
		if len(list) > 0 {
			checkPromise18(t, list[1:], 3)
		}
	}
}

// TestTurnSharesNoMemory spoils each answer, and then what it came from.
func TestTurnSharesNoMemory(t *testing.T) {
	asks := map[string]func(list []impl.Task) []int{
		"Chains":         func(list []impl.Task) []int { return impl.Chains(list, 6) },
		"Mileage":        func(list []impl.Task) []int { return impl.Mileage(list, 6) },
		"Due":            func(list []impl.Task) []int { return impl.Due(list, 6, 30) },
		"Night":          func(list []impl.Task) []int { return impl.Night(list, 6) },
		"Chains of one":  func(list []impl.Task) []int { return impl.Chains(list[:1], 6) },
		"Chains of none": func(list []impl.Task) []int { return impl.Chains(list[:0], 6) },
		"a wrong turn":   func(list []impl.Task) []int { return impl.Chains(list, 121) },
	}
	for name, ask := range asks {
		roomy := append(make([]impl.Task, 0, 9), fourJobs()...)
		was := slices.Clone(roomy[:9])
		first, second := ask(roomy), ask(roomy)
		kept := slices.Clone(second)
		for k := range first {
			first[k] = 77
		}
		_ = append(first, 77, 77)
		if !slices.Equal(roomy[:9], was) || !slices.Equal(second, kept) {
			t.Errorf("%s, spoilt: %v was %v, %v was %v", name, roomy[:9], was, second, kept)
		}
		for k := range roomy[:9] {
			roomy[:9][k] = job(29, 29, 7, 8, 9)
		}
		if !slices.Equal(second, kept) {
			t.Errorf("%s, the list spoilt: %v was %v", name, second, kept)
		}
	}
	roomy, units := append(make([]impl.Task, 0, 9), fourJobs()...), append(make([]int, 0, 9), 3, 3, 0, 0)
	was := slices.Clone(roomy[:9])
	if !impl.ChainOk(roomy, 5, units) || impl.Fleet(roomy, 5) != 2 || !impl.Balanced(roomy) || !impl.TasksOk(roomy) {
		t.Error("four tasks")
	}
	checkInts(t, "units", units[:9], []int{3, 3, 0, 0, 0, 0, 0, 0, 0})
	if !slices.Equal(roomy[:9], was) {
		t.Errorf("%v was %v", roomy[:9], was)
	}
}

// TestTurnIsTheSameHoweverOften lets many ask at once, with other questions between.
func TestTurnIsTheSameHoweverOften(t *testing.T) {
	d := &dice{state: 165}
	for range 30 {
		list, turn := roundTrips(d, 1+d.below(8), 1+d.below(6), 300, 20), d.below(15)
		units, km := impl.Chains(list, turn), impl.Mileage(list, turn)
		due, night := impl.Due(list, turn, 60), impl.Night(list, turn)
		var group sync.WaitGroup
		for k := range 8 {
			group.Go(func() {
				impl.Chains(shuttleJobs(38+k, k), k)
				impl.Balanced(shuttleJobs(k, 1))
				if !slices.Equal(impl.Chains(list, turn), units) || !slices.Equal(impl.Mileage(list, turn), km) {
					t.Errorf("%v, %d: other answers", list, turn)
				}
				if !slices.Equal(impl.Due(list, turn, 60), due) || !slices.Equal(impl.Night(list, turn), night) {
					t.Errorf("%v, %d: other units", list, turn)
				}
				for range 20 {
					if !impl.Balanced(list) || !impl.ChainOk(list, turn, units) || impl.Fleet(list, turn) != len(km) {
						t.Errorf("%v, %d: not as it was", list, turn)
					}
				}
			})
		}
		group.Wait()
	}
}

func TestTurnNeverPanics(t *testing.T) {
	extremes := []int{math.MinInt, math.MinInt + 1, -1, 0, 1, 2, 29, 30, 39, 40, 120, 121, 2000, 2001, 99999, 100000, 100001, 1000000, 1000001, math.MaxInt - 1, math.MaxInt}
	d := &dice{state: 166}
	pick := func() int { return extremes[d.below(len(extremes))] }
	for range 10000 {
		var list []impl.Task
		for range d.below(5) {
			list = append(list, job(pick(), pick(), pick(), pick(), pick()))
		}
		if d.below(2) == 0 {
			list = someJobs(d, d.below(44), 3, 99990, 10, 2001)
		}
		var units []int
		for range list {
			units = append(units, pick())
		}
		turn, limit := pick(), pick()
		if panicsIn(func() {
			checkCirculation(t, list, turn)
			checkDue(t, list, turn, limit)
			checkChained(t, list, turn, units)
			checkChained(t, list, turn, units[:d.below(len(units)+1)])
			if len(list) > 1 {
				checkFollows(t, list[0], list[1], turn)
			}
		}) {
			t.Fatalf("%v, %d, %d, %v", list, turn, limit, units)
		}
	}
	if panicsIn(func() {
		impl.TasksOk(nil)
		impl.Follows(impl.Task{}, impl.Task{}, 0)
		impl.Chains(nil, 0)
		impl.ChainOk(nil, 0, nil)
		impl.ChainOk(nil, 0, []int{math.MaxInt})
		impl.ChainOk(fourJobs(), 0, nil)
		impl.Fleet(nil, 0)
		impl.Balanced(nil)
		impl.Mileage(nil, 0)
		impl.Due(nil, 0, 0)
		impl.Night(nil, 0)
	}) {
		t.Error("nothing at all")
	}
}
