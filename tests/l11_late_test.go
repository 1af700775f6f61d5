package tests

import (
	"math"
	"runtime"
	"slices"
	"sync"
	"testing"

	"loop.example/g00075/impl"
)

// must gives a link that must be kept, may a connection.
func must(from, to, least int) impl.Link {
	return impl.Link{From: from, To: to, Least: least}
}

func may(from, to, least int) impl.Link {
	return impl.Link{From: from, To: to, Least: least, Kind: 1}
}

func works(wait int, plan []int, links ...impl.Link) impl.Work {
	return impl.Work{Plan: plan, Links: links, Wait: wait}
}

func workByWords(w impl.Work) bool {
	if len(w.Plan) > 60 || len(w.Links) > 150 || w.Wait < 0 || w.Wait > 60 {
		return false
	}
	for _, plan := range w.Plan {
		if !minuteByWords(plan) {
			return false
		}
	}
	for _, l := range w.Links {
		if l.From < 0 || l.To < 0 || l.From > len(w.Plan)-1 || l.To > len(w.Plan)-1 || !(l.From < l.To) {
			return false
		}
		if l.Least < 0 || l.Least > 1000 || l.Kind != 0 && l.Kind != 1 || w.Plan[l.To] < w.Plan[l.From]+l.Least {
			return false
		}
	}
	return true
}

func lateByWords(w impl.Work, late []int) bool {
	for _, minutes := range late {
		if minutes < 0 || minutes > 10000 {
			return false
		}
	}
	return len(late) == len(w.Plan)
}

// dayByWords tells the time of every event and which links are kept; false where it isn't as the chapter wants it.
func dayByWords(w impl.Work, late []int) (times []int, kept []bool, ok bool) {
	if !workByWords(w) || !lateByWords(w, late) {
		return nil, nil, false
	}
	kept = make([]bool, len(w.Links))
	for e, plan := range w.Plan {
		bases, comings := []int{plan}, map[int]int{}
		for k, l := range w.Links {
			if l.To != e {
				continue
			}
			comings[k] = times[l.From] + l.Least
			if l.Kind == 0 {
				bases = append(bases, comings[k])
			}
		}
		base := slices.Max(bases)
		all := []int{base}
		for k, minute := range comings {
			kept[k] = w.Links[k].Kind == 0 || minute-base <= w.Wait
			if kept[k] {
				all = append(all, minute)
			}
		}
		times = append(times, slices.Max(all)+late[e])
	}
	return times, kept, true
}

// chainByWords goes over the links from the last to the first, so that the first is taken.
func chainByWords(w impl.Work, late []int, e int) []int {
	times, kept, ok := dayByWords(w, late)
	if !ok || e < 0 || e >= len(times) {
		return nil
	}
	due := times[e] - late[e]
	if due == w.Plan[e] {
		return []int{e}
	}
	cause := -1
	for k := len(w.Links) - 1; k >= 0; k-- {
		if l := w.Links[k]; l.To == e && kept[k] && times[l.From]+l.Least == due {
			cause = l.From
		}
	}
	return append(chainByWords(w, late, cause), e)
}

func slackByWords(w impl.Work, k int) int {
	if !workByWords(w) || k < 0 || k >= len(w.Links) {
		return -1
	}
	return w.Plan[w.Links[k].To] - w.Plan[w.Links[k].From] - w.Links[k].Least
}

func workCopy(w impl.Work) impl.Work {
	return impl.Work{Plan: slices.Clone(w.Plan), Links: slices.Clone(w.Links), Wait: w.Wait}
}

func sameWork(a, b impl.Work) bool {
	return slices.Equal(a.Plan, b.Plan) && slices.Equal(a.Links, b.Links) && a.Wait == b.Wait
}

// checkDay holds every function against the words, and answers the times.
func checkDay(t *testing.T, w impl.Work, late []int) []int {
	t.Helper()
	w0, late0 := workCopy(w), slices.Clone(late)
	times, kept, ok := dayByWords(w, late)
	if got := impl.Times(w, late); !slices.Equal(got, times) {
		t.Fatalf("Times(%v, %v): %v, not %v", w, late, got, times)
	}
	if got := impl.Kept(w, late); !slices.Equal(got, kept) {
		t.Fatalf("Kept(%v, %v): %v, not %v", w, late, got, kept)
	}
	var behind []int
	for e, minute := range times {
		behind = append(behind, minute-w.Plan[e])
	}
	if got := impl.Lateness(w, late); !slices.Equal(got, behind) {
		t.Fatalf("Lateness(%v, %v): %v, not %v", w, late, got, behind)
	}
	missed := -1
	if ok {
		missed = len(slices.DeleteFunc(slices.Clone(kept), func(k bool) bool { return k }))
	}
	if got := impl.Missed(w, late); got != missed {
		t.Fatalf("Missed(%v, %v): %d, not %d", w, late, got, missed)
	}
	if !sameWork(w, w0) || !slices.Equal(late, late0) {
		t.Fatalf("%v was %v, %v was %v", w, w0, late, late0)
	}
	return times
}

// checkChains holds the chain of every event, and of what is none, against the words.
func checkChains(t *testing.T, w impl.Work, late []int) {
	t.Helper()
	w0, late0 := workCopy(w), slices.Clone(late)
	for e := -2; e <= len(w.Plan)+1 && e < 70; e++ {
		if got, want := impl.Chain(w, late, e), chainByWords(w, late, e); !slices.Equal(got, want) {
			t.Fatalf("Chain(%v, %v, %d): %v, not %v", w, late, e, got, want)
		}
	}
	if !sameWork(w, w0) || !slices.Equal(late, late0) {
		t.Fatalf("%v was %v, %v was %v", w, w0, late, late0)
	}
}

func checkSlacks(t *testing.T, w impl.Work) {
	t.Helper()
	w0 := workCopy(w)
	for k := -2; k <= len(w.Links)+1 && k < 160; k++ {
		if got, want := impl.Slack(w, k), slackByWords(w, k); got != want {
			t.Fatalf("Slack(%v, %d): %d, not %d", w, k, got, want)
		}
	}
	if !sameWork(w, w0) {
		t.Fatalf("%v was %v", w, w0)
	}
}

func wrongWorks() map[string]impl.Work {
	return map[string]impl.Work{
		"one event too many":            works(0, make([]int, 61)),
		"far too many events":           works(0, make([]int, 10000)),
		"one link too many":             works(0, []int{0, 9}, slices.Repeat([]impl.Link{must(0, 1, 1)}, 151)...),
		"far too many links":            works(0, []int{0, 9}, slices.Repeat([]impl.Link{must(0, 1, 1)}, 10000)...),
		"a plan below 0":                works(0, []int{-1}),
		"a plan beyond the minutes":     works(0, []int{100001}),
		"a last plan below 0":           works(0, []int{5, 6, -1}),
		"a first plan beyond them":      works(0, []int{100001, 6, 7}),
		"a link to itself":              works(0, []int{5, 9}, must(0, 0, 0)),
		"a last link to itself":         works(0, []int{5, 9}, must(1, 1, 0)),
		"a link back":                   works(0, []int{5, 5}, must(1, 0, 0)),
		"a connection back":             works(0, []int{9, 5}, may(1, 0, 1)),
		"a To that is no place":         works(0, []int{5, 9}, must(0, 2, 0)),
		"both no places":                works(0, []int{5, 9}, must(2, 3, 0)),
		"a From of -1":                  works(0, []int{5, 9}, must(-1, 1, 0)),
		"a To of -1":                    works(0, []int{5, 9}, must(0, -1, 0)),
		"both below 0":                  works(0, []int{5, 9}, must(-2, -1, 0)),
		"a link without events":         works(0, nil, must(0, 1, 0)),
		"a Least below 0":               works(0, []int{5, 9}, must(0, 1, -1)),
		"a Least too great":             works(0, []int{5, 9000}, must(0, 1, 1001)),
		"a Kind below 0":                works(0, []int{5, 9}, impl.Link{From: 0, To: 1, Kind: -1}),
		"a Kind too great":              works(0, []int{5, 9}, impl.Link{From: 0, To: 1, Kind: 2}),
		"a Plan one minute too early":   works(0, []int{5, 8}, must(0, 1, 4)),
		"a Plan too early for it":       works(60, []int{5, 8}, may(0, 1, 4)),
		"a Plan ahead of the other":     works(0, []int{5, 4}, must(0, 1, 0)),
		"a Wait below 0":                works(-1, []int{5, 9}),
		"a Wait too great":              works(61, []int{5, 9}),
		"a Wait below 0, no event":      works(-1, nil),
		"a last link that is wrong":     works(0, []int{5, 9}, must(0, 1, 1), may(0, 1, 4), may(0, 1, 5)),
		"a first link that is wrong":    works(0, []int{5, 9}, may(0, 1, 5), must(0, 1, 1), may(0, 1, 4)),
		"the greatest plan":             works(0, []int{math.MaxInt}),
		"the least plan":                works(0, []int{math.MinInt}),
		"the greatest Least":            works(0, []int{5, 9}, must(0, 1, math.MaxInt)),
		"the least Least":               works(0, []int{5, 9}, must(0, 1, math.MinInt)),
		"the greatest To":               works(0, []int{5, 9}, must(0, math.MaxInt, 0)),
		"the least From":                works(0, []int{5, 9}, must(math.MinInt, 1, 0)),
		"from the least plan on":        works(0, []int{math.MinInt, math.MaxInt}, must(0, 1, 0)),
		"the greatest Kind":             works(0, []int{5, 9}, impl.Link{From: 0, To: 1, Kind: math.MaxInt}),
		"the greatest Wait":             works(math.MaxInt, []int{5, 9}),
		"the least Wait":                works(math.MinInt, []int{5, 9}),
		"as many events, one wrong":     works(0, append(make([]int, 59), -1)),
		"as many links, the last wrong": works(0, []int{0, 9}, append(slices.Repeat([]impl.Link{must(0, 1, 1)}, 149), must(0, 1, 10))...),
	}
}

func rightWorks() map[string]impl.Work {
	return map[string]impl.Work{
		"nil":                          {},
		"none":                         works(0, []int{}),
		"one event":                    works(0, []int{5}),
		"at minute 0":                  works(0, []int{0}),
		"at MaxMinute":                 works(0, []int{impl.MaxMinute}),
		"the whole time":               works(0, []int{0, impl.MaxMinute}, must(0, 1, 1000)),
		"as many events as may be":     works(0, numbers(1, impl.MaxEvents)),
		"as many links as may be":      works(0, []int{0, 9}, slices.Repeat([]impl.Link{must(0, 1, 9)}, impl.MaxLinks)...),
		"not in their order":           works(0, []int{9, 5, 7}, must(1, 2, 2)),
		"a Least of 0":                 works(0, []int{5, 5}, must(0, 1, 0)),
		"a Least of 1000":              works(0, []int{5, 1005}, must(0, 1, 1000)),
		"a connection":                 works(0, []int{5, 9}, may(0, 1, 4)),
		"exactly Least":                works(0, []int{5, 9}, must(0, 1, 4)),
		"one minute of slack":          works(0, []int{5, 9}, must(0, 1, 3)),
		"two between the same":         works(0, []int{5, 9}, must(0, 1, 3), must(0, 1, 4)),
		"the last place":               works(0, []int{5, 9, 9}, may(1, 2, 0), may(0, 2, 4)),
		"a Wait of 1":                  works(1, []int{5, 9}),
		"a Wait of MaxWait":            works(impl.MaxWait, []int{5, 9}),
		"a Wait of MaxWait, no events": works(impl.MaxWait, nil),
	}
}

// someWork plans so many events, not all in the order of their places, and links those that may be linked.
func someWork(d *dice, events, links, kinds int) impl.Work {
	w := impl.Work{Wait: d.below(1 + []int{0, 5, 60}[d.below(3)])}
	pace := 1 + d.below(20)
	for e := range events {
		w.Plan = append(w.Plan, e*pace+d.below(1+3*pace))
	}
	for try := 0; len(w.Links) < links && events > 1 && try < 10*links; try++ {
		to := 1 + d.below(events-1)
		from := max(0, to-1-d.below(min(to, 1+d.below(20))))
		room := w.Plan[to] - w.Plan[from]
		if room >= 0 {
			least := min(room, 1000)
			w.Links = append(w.Links, impl.Link{From: from, To: to, Least: max(0, least-d.below(1+pace)), Kind: d.below(kinds)})
		}
	}
	return w
}

// someLate makes few events late, or many.
func someLate(d *dice, w impl.Work, most int) []int {
	late, one := make([]int, len(w.Plan)), 1+d.below(8)
	for e := range late {
		if d.below(one) == 0 {
			late[e] = d.below(1 + most)
		}
	}
	return late
}

func TestLateConstants(t *testing.T) {
	if impl.MaxEvents != 60 || impl.MaxLinks != 150 || impl.MaxLate != 10000 || impl.MaxWait != 60 {
		t.Error(impl.MaxEvents, impl.MaxLinks, impl.MaxLate, impl.MaxWait)
	}
}

func TestWorkOk(t *testing.T) {
	for name, w := range rightWorks() {
		if !impl.WorkOk(w) {
			t.Error(name)
		}
	}
	for name, w := range wrongWorks() {
		if impl.WorkOk(w) {
			t.Error(name)
		}
	}
	for events := range 70 {
		if got := impl.WorkOk(works(0, numbers(1, events))); got != (events <= 60) {
			t.Errorf("%d events: %v", events, got)
		}
	}
	for links := range 160 {
		if got := impl.WorkOk(works(0, []int{5, 9}, slices.Repeat([]impl.Link{must(0, 1, 1)}, links)...)); got != (links <= 150) {
			t.Errorf("%d links: %v", links, got)
		}
	}
	for wait := -3; wait <= 70; wait++ {
		if got := impl.WorkOk(works(wait, []int{5, 9}, must(0, 1, 1))); got != (wait >= 0 && wait <= 60) {
			t.Errorf("a Wait of %d: %v", wait, got)
		}
	}
}

func TestWorkOkOfOneLink(t *testing.T) {
	plans := [][]int{nil, {5}, {5, 5}, {0, 1000}, {1000, 0}, {0, 1001, 2000}, {3, 1002, 1003}, {2, 1, 0}}
	for _, plan := range plans {
		for from := -2; from <= 4; from++ {
			for to := -2; to <= 4; to++ {
				for _, least := range []int{-1, 0, 1, 2, 999, 1000, 1001} {
					for kind := -1; kind <= 2; kind++ {
						w := works(3, plan, impl.Link{From: from, To: to, Least: least, Kind: kind})
						if got := impl.WorkOk(w); got != workByWords(w) {
							t.Errorf("%v: %v", w, got)
						}
						checkSlacks(t, w)
					}
				}
			}
		}
	}
	for place := range 5 {
		for _, minute := range []int{-1, 0, 99999, 100000, 100001} {
			plan := []int{50, 50, 50, 50, 50}
			plan[place] = minute
			if w := works(0, plan); impl.WorkOk(w) != workByWords(w) {
				t.Errorf("%v: %v", w, impl.WorkOk(w))
			}
		}
	}
}

func TestDelaysByHand(t *testing.T) {
	cases := map[string]struct {
		work   impl.Work
		late   []int
		times  []int
		missed int
	}{
		"no event":                      {works(0, nil), nil, nil, 0},
		"one event in time":             {works(0, []int{5}), []int{0}, []int{5}, 0},
		"one event that is late":        {works(0, []int{5}), []int{7}, []int{12}, 0},
		"as late as may be":             {works(0, []int{100000}), []int{10000}, []int{110000}, 0},
		"no link":                       {works(9, []int{5, 6}), []int{7, 0}, []int{12, 6}, 0},
		"the slack is enough":           {works(0, []int{5, 10}, must(0, 1, 3)), []int{2, 0}, []int{7, 10}, 0},
		"one minute more":               {works(0, []int{5, 10}, must(0, 1, 3)), []int{3, 0}, []int{8, 11}, 0},
		"both are late":                 {works(0, []int{5, 10}, must(0, 1, 3)), []int{3, 4}, []int{8, 15}, 0},
		"the later of two":              {works(0, []int{5, 6, 10}, must(0, 2, 3), must(1, 2, 3)), []int{5, 6, 0}, []int{10, 12, 15}, 0},
		"the later of two, it is first": {works(0, []int{5, 6, 10}, must(1, 2, 3), must(0, 2, 3)), []int{5, 6, 0}, []int{10, 12, 15}, 0},
		"along three":                   {works(0, []int{0, 5, 10}, must(0, 1, 5), must(1, 2, 5)), []int{9, 0, 0}, []int{9, 14, 19}, 0},
		"along three, with slack":       {works(0, []int{0, 5, 10}, must(0, 1, 3), must(1, 2, 4)), []int{9, 0, 0}, []int{9, 12, 16}, 0},
		"over one that is in time":      {works(0, []int{0, 5, 10}, must(0, 2, 10)), []int{9, 0, 0}, []int{9, 5, 19}, 0},
		"a Least of 0":                  {works(0, []int{5, 5}, must(0, 1, 0)), []int{3, 0}, []int{8, 8}, 0},
		"Plans not in their order":      {works(0, []int{50, 5, 50}, must(1, 2, 3), must(0, 2, 0)), []int{0, 48, 0}, []int{50, 53, 56}, 0},

		"a connection in time":                  {works(3, []int{5, 10}, may(0, 1, 4)), []int{1, 0}, []int{6, 10}, 0},
		"a connection for which it waits":       {works(3, []int{5, 10}, may(0, 1, 4)), []int{2, 0}, []int{7, 11}, 0},
		"exactly at base + Wait":                {works(3, []int{5, 10}, may(0, 1, 4)), []int{4, 0}, []int{9, 13}, 0},
		"one minute later":                      {works(3, []int{5, 10}, may(0, 1, 4)), []int{5, 0}, []int{10, 10}, 1},
		"without a Wait":                        {works(0, []int{5, 10}, may(0, 1, 4)), []int{1, 0}, []int{6, 10}, 0},
		"without a Wait, one minute later":      {works(0, []int{5, 10}, may(0, 1, 4)), []int{2, 0}, []int{7, 10}, 1},
		"MaxWait":                               {works(60, []int{5, 10}, may(0, 1, 4)), []int{61, 0}, []int{66, 70}, 0},
		"MaxWait, one minute later":             {works(60, []int{5, 10}, may(0, 1, 4)), []int{62, 0}, []int{67, 10}, 1},
		"it waits, and is late":                 {works(3, []int{5, 10}, may(0, 1, 4)), []int{4, 9}, []int{9, 22}, 0},
		"its own late makes it wait no longer":  {works(3, []int{5, 10}, may(0, 1, 4)), []int{5, 9}, []int{10, 19}, 1},
		"from a base that is later than Plan":   {works(3, []int{5, 5, 10}, must(0, 2, 5), may(1, 2, 5)), []int{4, 7, 0}, []int{9, 12, 17}, 0},
		"and one minute later":                  {works(3, []int{5, 5, 10}, must(0, 2, 5), may(1, 2, 5)), []int{4, 8, 0}, []int{9, 13, 14}, 1},
		"the link of the base is the last":      {works(3, []int{5, 5, 10}, may(1, 2, 5), must(0, 2, 5)), []int{4, 7, 0}, []int{9, 12, 17}, 0},
		"and one minute later, again":           {works(3, []int{5, 5, 10}, may(1, 2, 5), must(0, 2, 5)), []int{4, 8, 0}, []int{9, 13, 14}, 1},
		"kept, but ahead of the base":           {works(3, []int{5, 5, 10}, may(0, 2, 5), must(1, 2, 5)), []int{4, 7, 0}, []int{9, 12, 17}, 0},
		"a connection makes no other one wait":  {works(3, []int{5, 5, 10}, may(0, 2, 5), may(1, 2, 5)), []int{3, 4, 0}, []int{8, 9, 13}, 1},
		"nor one ahead of it":                   {works(3, []int{5, 5, 10}, may(1, 2, 5), may(0, 2, 5)), []int{3, 4, 0}, []int{8, 9, 13}, 1},
		"some are kept, and some are not":       {works(5, []int{0, 0, 0, 0, 9}, may(0, 4, 9), may(1, 4, 9), may(2, 4, 9), may(3, 4, 9)), []int{6, 4, 9, 5, 0}, []int{6, 4, 9, 5, 14}, 2},
		"none is kept":                          {works(5, []int{0, 0, 0, 9}, may(0, 3, 9), may(1, 3, 9), may(2, 3, 9)), []int{6, 7, 8, 1}, []int{6, 7, 8, 10}, 3},
		"two between the same events":           {works(2, []int{0, 9}, may(0, 1, 9), may(0, 1, 8)), []int{3, 0}, []int{3, 11}, 1},
		"two between them, one of which must":   {works(2, []int{0, 9}, may(0, 1, 9), must(0, 1, 8)), []int{3, 0}, []int{3, 12}, 0},
		"the one that must be kept comes later": {works(2, []int{0, 9}, may(0, 1, 7), must(0, 1, 9)), []int{9, 0}, []int{9, 18}, 0},
		"it waits, and the next one for it":     {works(3, []int{0, 10, 20}, may(0, 1, 10), may(1, 2, 10)), []int{3, 0, 0}, []int{3, 13, 23}, 0},
		"it waits no more, the next one either": {works(3, []int{0, 10, 20}, may(0, 1, 10), may(1, 2, 10)), []int{4, 0, 0}, []int{4, 10, 20}, 1},
		"the second one is missed":              {works(3, []int{0, 10, 20}, may(0, 1, 10), may(1, 2, 10)), []int{3, 1, 0}, []int{3, 14, 20}, 1},
		"both are missed":                       {works(3, []int{0, 10, 20}, may(0, 1, 10), may(1, 2, 10)), []int{4, 4, 0}, []int{4, 14, 20}, 2},
	}
	for name, c := range cases {
		checkInts(t, name, impl.Times(c.work, c.late), c.times)
		if got := impl.Missed(c.work, c.late); got != c.missed {
			t.Errorf("%s: %d are missed, not %d", name, got, c.missed)
		}
		checkDay(t, c.work, c.late)
		checkChains(t, c.work, c.late)
		checkSlacks(t, c.work)
	}
}

func TestKeptByHand(t *testing.T) {
	w := works(5, []int{0, 0, 0, 0, 9}, may(0, 4, 9), may(1, 4, 9), must(2, 4, 4), may(2, 4, 9), may(3, 4, 9))
	for _, c := range []struct {
		late []int
		kept []bool
	}{
		{[]int{0, 0, 0, 0, 0}, []bool{true, true, true, true, true}},
		{[]int{6, 4, 5, 5, 0}, []bool{false, true, true, true, true}},
		{[]int{6, 5, 6, 7, 0}, []bool{true, true, true, true, false}},
		{[]int{12, 10, 100, 9, 50}, []bool{true, true, true, true, true}},
		{[]int{10000, 10000, 0, 0, 10000}, []bool{false, false, true, true, true}},
		{[]int{5, 6, 0, 6, 0}, []bool{true, false, true, true, false}},
	} {
		if got := impl.Kept(w, c.late); !slices.Equal(got, c.kept) {
			t.Errorf("%v: %v, not %v", c.late, got, c.kept)
		}
		checkDay(t, w, c.late)
		checkChains(t, w, c.late)
	}
	if got := impl.Kept(works(0, []int{5, 6}), []int{1, 2}); len(got) != 0 {
		t.Error("no link", got)
	}
	if got := impl.Kept(works(0, []int{5, 9}, must(0, 1, 4)), []int{10000, 0}); !slices.Equal(got, []bool{true}) {
		t.Error("what must be kept is kept", got)
	}
}

func TestLatenessByHand(t *testing.T) {
	w := works(3, []int{10, 20, 22, 40}, must(0, 1, 8), may(1, 2, 2), must(2, 3, 15))
	checkInts(t, "in time", impl.Lateness(w, []int{0, 0, 0, 0}), []int{0, 0, 0, 0})
	checkInts(t, "it waits", impl.Lateness(w, []int{5, 0, 0, 0}), []int{5, 3, 3, 0})
	checkInts(t, "it does not", impl.Lateness(w, []int{6, 0, 0, 0}), []int{6, 4, 0, 0})
	checkInts(t, "all are late", impl.Lateness(w, []int{5, 0, 1, 10000}), []int{5, 3, 4, 10001})
	checkInts(t, "no event", impl.Lateness(works(0, nil), nil), nil)
}

func TestSlackByHand(t *testing.T) {
	w := works(3, []int{10, 20, 22, 40}, must(0, 1, 8), may(1, 2, 2), must(2, 3, 15))
	for k, want := range map[int]int{math.MinInt: -1, -1: -1, 0: 2, 1: 0, 2: 3, 3: -1, 4: -1, math.MaxInt: -1} {
		if got := impl.Slack(w, k); got != want {
			t.Errorf("%d: %d, not %d", k, got, want)
		}
	}
	if got := impl.Slack(works(0, []int{0, 100000}, must(0, 1, 0)), 0); got != 100000 {
		t.Error("the whole time", got)
	}
	if got := impl.Slack(works(0, []int{0, 9}, slices.Repeat([]impl.Link{must(0, 1, 4)}, 150)...), 149); got != 5 {
		t.Error("the last of as many as may be", got)
	}
	for k := -1; k <= 1; k++ {
		if impl.Slack(impl.Work{}, k) != -1 || impl.Slack(works(0, []int{5, 6}), k) != -1 {
			t.Error("no link", k)
		}
		for name, wrong := range wrongWorks() {
			if impl.Slack(wrong, k) != -1 {
				t.Error(name, k)
			}
		}
	}
}

func TestChainByHand(t *testing.T) {
	cases := map[string]struct {
		work impl.Work
		late []int
		e    int
		want []int
	}{
		"without a cause":                   {works(0, []int{5, 9}, must(0, 1, 4)), []int{0, 0}, 1, []int{1}},
		"its own late is no cause":          {works(0, []int{5, 9}, must(0, 1, 4)), []int{0, 7}, 1, []int{1}},
		"no link at all":                    {works(0, []int{5, 9}), []int{8, 0}, 1, []int{1}},
		"the slack was just enough":         {works(0, []int{5, 9}, must(0, 1, 3)), []int{1, 0}, 1, []int{1}},
		"one minute more":                   {works(0, []int{5, 9}, must(0, 1, 3)), []int{2, 0}, 1, []int{0, 1}},
		"one cause and its own late":        {works(0, []int{5, 9}, must(0, 1, 4)), []int{1, 7}, 1, []int{0, 1}},
		"two links, the first is taken":     {works(0, []int{5, 5, 9}, must(1, 2, 4), must(0, 2, 4)), []int{3, 3, 0}, 2, []int{1, 2}},
		"the other way round":               {works(0, []int{5, 5, 9}, must(0, 2, 4), must(1, 2, 4)), []int{3, 3, 0}, 2, []int{0, 2}},
		"a connection may be the cause":     {works(3, []int{5, 5, 9}, may(1, 2, 4), must(0, 2, 4)), []int{3, 3, 0}, 2, []int{1, 2}},
		"the later one is the cause":        {works(0, []int{5, 5, 9}, must(0, 2, 4), must(1, 2, 4)), []int{2, 3, 0}, 2, []int{1, 2}},
		"it waits for a connection":         {works(3, []int{5, 5, 9}, must(0, 2, 4), may(1, 2, 4)), []int{2, 4, 0}, 2, []int{1, 2}},
		"a connection that is not kept":     {works(1, []int{5, 5, 9}, may(1, 2, 4), must(0, 2, 4)), []int{2, 4, 0}, 2, []int{0, 2}},
		"not kept, at the time it is late":  {works(1, []int{5, 5, 9}, may(1, 2, 4), must(0, 2, 4)), []int{2, 4, 2}, 2, []int{0, 2}},
		"not kept, no cause is left":        {works(1, []int{5, 9}, may(0, 1, 4)), []int{2, 2}, 1, []int{1}},
		"two between the same":              {works(0, []int{5, 9}, must(0, 1, 3), must(0, 1, 4)), []int{3, 0}, 1, []int{0, 1}},
		"along three":                       {works(0, []int{0, 5, 10}, must(0, 1, 5), must(1, 2, 5)), []int{1, 0, 0}, 2, []int{0, 1, 2}},
		"along four":                        {works(0, []int{0, 5, 10, 15}, must(2, 3, 5), must(0, 1, 5), must(1, 2, 5)), []int{1, 0, 2, 0}, 3, []int{0, 1, 2, 3}},
		"of one in the middle":              {works(0, []int{0, 5, 10, 15}, must(2, 3, 5), must(0, 1, 5), must(1, 2, 5)), []int{1, 0, 2, 0}, 1, []int{0, 1}},
		"it begins in the middle":           {works(0, []int{0, 5, 10, 15}, must(2, 3, 5), must(0, 1, 5), must(1, 2, 5)), []int{0, 0, 2, 0}, 3, []int{2, 3}},
		"past one that is in time":          {works(0, []int{0, 5, 10}, must(0, 2, 10)), []int{9, 0, 0}, 2, []int{0, 2}},
		"the first event":                   {works(0, []int{0, 5}, must(0, 1, 5)), []int{9, 0}, 0, []int{0}},
		"e is -1":                           {works(0, []int{0, 5}, must(0, 1, 5)), []int{9, 0}, -1, nil},
		"e is one beyond":                   {works(0, []int{0, 5}, must(0, 1, 5)), []int{9, 0}, 2, nil},
		"e is the greatest":                 {works(0, []int{0, 5}, must(0, 1, 5)), []int{9, 0}, math.MaxInt, nil},
		"e is the least":                    {works(0, []int{0, 5}, must(0, 1, 5)), []int{9, 0}, math.MinInt, nil},
		"no event":                          {works(0, nil), nil, 0, nil},
		"a kept one ahead of the base":      {works(9, []int{0, 0, 9}, may(0, 2, 9), must(1, 2, 9)), []int{2, 3, 0}, 2, []int{1, 2}},
		"along connections, to one missed":  {works(2, []int{0, 5, 10, 15}, may(0, 1, 5), may(1, 2, 5), may(2, 3, 5)), []int{3, 1, 1, 0}, 3, []int{1, 2, 3}},
		"along connections, all kept":       {works(4, []int{0, 5, 10, 15}, may(0, 1, 5), may(1, 2, 5), may(2, 3, 5)), []int{1, 1, 1, 0}, 3, []int{0, 1, 2, 3}},
		"a link to another event is nobody": {works(0, []int{0, 0, 5, 5}, must(0, 2, 5), must(1, 3, 5)), []int{2, 2, 0, 0}, 3, []int{1, 3}},
	}
	for name, c := range cases {
		checkInts(t, name, impl.Chain(c.work, c.late, c.e), c.want)
		checkDay(t, c.work, c.late)
		checkChains(t, c.work, c.late)
	}
}

// TestALongChain goes through every event that there may be.
func TestALongChain(t *testing.T) {
	for events := 1; events <= impl.MaxEvents; events++ {
		w, late := impl.Work{Plan: make([]int, events)}, make([]int, events)
		for e := range w.Plan {
			w.Plan[e] = 1000 * e
		}
		for e := events - 1; e > 0; e-- {
			w.Links = append(w.Links, must(e-1, e, 1000))
		}
		late[0] = 1
		checkInts(t, "the whole chain", impl.Chain(w, late, events-1), numbers(0, events-1))
		checkInts(t, "all are late", impl.Lateness(w, late), alike(events, 1))
		for e := range late {
			late[e] = 10000
		}
		times := checkDay(t, w, late)
		if times[events-1] != 1000*(events-1)+10000*events {
			t.Error("the latest time", times[events-1])
		}
		checkChains(t, w, late)
	}
}

func TestDelaysRefuse(t *testing.T) {
	refused := func(name string, w impl.Work, late []int) {
		t.Helper()
		if len(impl.Times(w, late)) != 0 || len(impl.Kept(w, late)) != 0 || len(impl.Lateness(w, late)) != 0 || impl.Missed(w, late) != -1 {
			t.Error(name, late)
		}
		for _, e := range []int{-1, 0, 1, 60, 61} {
			if len(impl.Chain(w, late, e)) != 0 {
				t.Error(name, late, e)
			}
		}
	}
	for name, w := range wrongWorks() {
		refused(name, w, make([]int, len(w.Plan)))
		refused(name, w, nil)
	}
	w := works(3, []int{10, 20, 22, 40}, must(0, 1, 8), may(1, 2, 2), must(2, 3, 15))
	for _, late := range [][]int{nil, {}, {0}, {0, 0, 0}, {0, 0, 0, 0, 0}, make([]int, 1000)} {
		refused("a list that is too short or too long", w, late)
	}
	refused("a list for no event", works(0, nil), []int{0})
	for place := range 4 {
		for minutes, ok := range map[int]bool{math.MinInt: false, -1: false, 0: true, 1: true, 10000: true, 10001: false, math.MaxInt: false} {
			late := make([]int, 4)
			late[place] = minutes
			if !ok {
				refused("a late that is not so", w, late)
				continue
			}
			if got := checkDay(t, w, late); len(got) != 4 || impl.Missed(w, late) == -1 {
				t.Error("a late that is so", late, got)
			}
			checkChains(t, w, late)
		}
	}
	for name, w := range rightWorks() {
		if late := make([]int, len(w.Plan)); impl.Missed(w, late) != 0 || !slices.Equal(impl.Times(w, late), w.Plan) {
			t.Error(name)
		}
	}
}

// TestDelaysOfEverySmallWork throws nothing: three events, with every link between two of them or none.
func TestDelaysOfEverySmallWork(t *testing.T) {
	between := func(from, to int) [][]impl.Link {
		return [][]impl.Link{nil, {must(from, to, 0)}, {must(from, to, 1)}, {may(from, to, 0)}, {may(from, to, 1)}}
	}
	for _, plan := range [][]int{{0, 0, 0}, {0, 1, 1}, {0, 1, 2}, {1, 2, 4}, {1, 0, 2}} {
		for _, ab := range between(0, 1) {
			for _, ac := range between(0, 2) {
				for _, bc := range between(1, 2) {
					links := slices.Concat(bc, ac, ab)
					for wait := range 3 {
						w := works(wait, plan, links...)
						manyLists(3, []int{0, 1, 3}, func(late []int) {
							if len(late) == 3 {
								checkDay(t, w, late)
								if got, want := impl.Chain(w, late, 2), chainByWords(w, late, 2); !slices.Equal(got, want) {
									t.Fatalf("Chain(%v, %v, 2): %v, not %v", w, late, got, want)
								}
							}
						})
					}
				}
			}
		}
	}
}

func TestDelaysThrown(t *testing.T) {
	d := &dice{state: 111}
	missed, long := 0, 0
	for round := range 1200 {
		w := someWork(d, d.below(61), d.below([]int{30, 151}[round%2]), 2)
		late := someLate(d, w, []int{3, 20, 10000}[d.below(3)])
		checkDay(t, w, late)
		checkChains(t, w, late)
		checkSlacks(t, w)
		missed += max(0, impl.Missed(w, late))
		if len(impl.Chain(w, late, len(w.Plan)-1)) > 3 {
			long++
		}
	}
	if missed < 2000 || long < 100 {
		t.Error("too few links are missed, or too few chains are long", missed, long)
	}
}

// checkChainAddsUp walks along the chain of an event: the leasts and the lates lead from the first one's Plan to its time.
func checkChainAddsUp(t *testing.T, w impl.Work, late []int, e int) {
	t.Helper()
	times, kept, chain := impl.Times(w, late), impl.Kept(w, late), impl.Chain(w, late, e)
	if len(chain) == 0 || chain[len(chain)-1] != e {
		t.Fatalf("the chain of %d: %v", e, chain)
	}
	minute := w.Plan[chain[0]] + late[chain[0]]
	for i, next := range chain[1:] {
		if minute != times[chain[i]] {
			t.Fatalf("%v, %v: event %d of chain %v at %d, not %d", w, late, chain[i], chain, minute, times[chain[i]])
		}
		due := -1
		for k, l := range w.Links {
			if kept[k] && l.From == chain[i] && l.To == next {
				due = max(due, minute+l.Least)
			}
		}
		if due <= w.Plan[next] {
			t.Fatalf("%v, %v: event %d of chain %v has no cause", w, late, next, chain)
		}
		minute = due + late[next]
	}
	if minute != times[e] {
		t.Fatalf("%v, %v: chain %v adds up to %d, not %d", w, late, chain, minute, times[e])
	}
}

func TestPromise13(t *testing.T) {
	d := &dice{state: 112}
	for round := range 600 {
		w := someWork(d, 1+d.below(60), d.below(151), 1+round%2)
		none := make([]int, len(w.Plan))
		if !slices.Equal(impl.Times(w, none), w.Plan) || impl.Missed(w, none) != 0 || slices.Max(impl.Lateness(w, none)) != 0 {
			t.Fatalf("%v: not as planned without lateness", w)
		}
		late := someLate(d, w, 30)
		times := impl.Times(w, late)
		for e := range times {
			if times[e] < w.Plan[e]+late[e] || impl.Lateness(w, late)[e] != times[e]-w.Plan[e] {
				t.Fatalf("%v, %v: event %d at %d", w, late, e, times[e])
			}
			checkChainAddsUp(t, w, late, e)
		}
		if round%2 == 1 {
			continue
		}
		for range 5 {
			more := slices.Clone(late)
			for range 1 + d.below(3) {
				more[d.below(len(more))] += d.below(20)
			}
			for e, minute := range impl.Times(w, more) {
				if minute < times[e] {
					t.Fatalf("%v: by %v event %d is earlier than by %v", w, more, e, late)
				}
			}
			if impl.Missed(w, more) != 0 {
				t.Fatalf("%v: %v", w, more)
			}
		}
	}
	// With a connection more late may make an event earlier, when it is given up.
	w := works(3, []int{5, 10}, may(0, 1, 4))
	if impl.Times(w, []int{4, 0})[1] != 13 || impl.Times(w, []int{5, 0})[1] != 10 {
		t.Error("a connection that is given up")
	}
}

func TestDelaysShareNoMemory(t *testing.T) {
	// Room behind the lists: what is put there would be seen.
	plan, links, late := []int{10, 20, 22, 7, 7}, []impl.Link{must(0, 1, 8), may(1, 2, 2), must(7, 7, 7), must(7, 7, 7)}, []int{5, 0, 0, 7, 7}
	room := impl.Work{Plan: plan, Links: links}
	room0, late0 := workCopy(room), slices.Clone(late)
	w := impl.Work{Plan: plan[:3], Links: links[:2], Wait: 3}
	for range 3 {
		times, kept, behind, chain := impl.Times(w, late[:3]), impl.Kept(w, late[:3]), impl.Lateness(w, late[:3]), impl.Chain(w, late[:3], 2)
		checkInts(t, "Times", times, []int{15, 23, 25})
		checkInts(t, "Lateness", behind, []int{5, 3, 3})
		checkInts(t, "Chain", chain, []int{0, 1, 2})
		if !slices.Equal(kept, []bool{true, true}) || impl.Missed(w, late[:3]) != 0 || impl.Slack(w, 0) != 2 || !impl.WorkOk(w) {
			t.Error("Kept", kept)
		}
		for e := range 3 {
			times[e], behind[e], chain[e] = -9, -9, -9
		}
		kept[0], kept[1] = false, false
		_, _, _, _ = append(times, -8), append(kept, false), append(behind, -8), append(chain, -8)
		if !sameWork(room, room0) || !slices.Equal(late, late0) {
			t.Fatal(room, late)
		}
	}
}

// TestDelaysAreOne asks for the same day often, and by many at once: however the stages run, the outcome is one.
func TestDelaysAreOne(t *testing.T) {
	before := runtime.NumGoroutine()
	d := &dice{state: 113}
	w := someWork(d, impl.MaxEvents, impl.MaxLinks, 2)
	late := someLate(d, w, 40)
	times, kept, _ := dayByWords(w, late)
	var all sync.WaitGroup
	for range 16 {
		all.Go(func() {
			for range 60 {
				if !slices.Equal(impl.Times(w, late), times) || !slices.Equal(impl.Kept(w, late), kept) || !slices.Equal(impl.Chain(w, late, 59), chainByWords(w, late, 59)) {
					t.Error("another outcome")
				}
			}
		})
	}
	all.Wait()
	// Whoever has told that it is done may still be on its way out.
	for try := 0; try < 10000 && runtime.NumGoroutine() > before; try++ {
		runtime.Gosched()
	}
	if after := runtime.NumGoroutine(); after > before {
		t.Error("goroutines are left", before, after)
	}
}

func TestDelaysNeverPanic(t *testing.T) {
	extremes := []int{math.MinInt, math.MinInt + 1, -2, -1, 0, 1, 2, 59, 60, 61, 1000, 1001, 10000, 10001, 100000, 100001, math.MaxInt - 1, math.MaxInt}
	d := &dice{state: 114}
	pick := func() int { return extremes[d.below(len(extremes))] }
	for range 8000 {
		plan := []int{d.below(9), 10 + d.below(9), pick(), pick()}[:d.below(5)]
		links := []impl.Link{must(0, 1, d.below(3)), {From: pick(), To: pick(), Least: d.below(3), Kind: d.below(2)}, {From: d.below(2), To: 2, Least: pick(), Kind: pick()}}[:d.below(4)]
		w := works([]int{pick(), d.below(61)}[d.below(2)], plan, links...)
		late := []int{d.below(9), pick(), d.below(10001), pick(), 0}[:d.below(6)]
		e := pick()
		if panicsIn(func() {
			impl.WorkOk(w)
			for _, list := range [][]int{late, make([]int, len(plan))} {
				checkDay(t, w, list)
				checkChains(t, w, list)
				impl.Chain(w, list, e)
			}
			checkSlacks(t, w)
			impl.Slack(w, e)
		}) {
			t.Fatalf("%v, %v, %d", w, late, e)
		}
	}
	if !impl.WorkOk(impl.Work{}) || impl.Missed(impl.Work{}, nil) != 0 || impl.Missed(impl.Work{}, []int{0}) != -1 || impl.Slack(impl.Work{}, 0) != -1 {
		t.Error("nil lists")
	}
	if len(impl.Times(impl.Work{}, nil)) != 0 || len(impl.Kept(impl.Work{}, nil)) != 0 || len(impl.Lateness(impl.Work{}, nil)) != 0 || len(impl.Chain(impl.Work{}, nil, 0)) != 0 {
		t.Error("nil lists")
	}
	huge := impl.Work{Plan: make([]int, 100000), Links: make([]impl.Link, 100000)}
	if impl.WorkOk(huge) || impl.Times(huge, make([]int, 100000)) != nil || impl.Missed(huge, make([]int, 100000)) != -1 || impl.Slack(huge, 5) != -1 {
		t.Error("a huge list")
	}
}
