package impl

import (
	"slices"
	"strconv"
	"strings"
)

const (
	MaxMinute = 100000
	MaxDay    = 3650
	MaxSkips  = 20
)

const minutesPerHour = 60

// The weekdays have numbers only: which of them is a Sunday hangs on the day that is called 0.
const (
	weekday0 = iota
	weekday1
	weekday2
	weekday3
	weekday4
	weekday5
	weekday6
	weekLength
)

const everyWeekday = 1<<weekLength - 1

type Pattern struct {
	Week  int
	From  int
	To    int
	Skip  []int
	Extra []int
}

// week is a set of weekdays: weekday k is in it when bit k is set.
type week int

func (w week) names(day int) bool {
	return w>>weekdayOf(day)&1 == 1
}

// turned moves every weekday on by n; what leaves the set at one end comes in at the other.
func (w week) turned(n int) week {
	by := weekdayOf(n)
	return (w<<by | w>>(weekLength-by)) & everyWeekday
}

// weekdayOf is never below 0, as a remainder by % would be for a day below 0.
func weekdayOf(day int) int {
	return (day%weekLength + weekLength) % weekLength
}

func TimeText(m int) string {
	if m < 0 || m > MaxMinute {
		return ""
	}
	return twoDigits(m/minutesPerHour) + ":" + twoDigits(m%minutesPerHour)
}

func twoDigits(x int) string {
	if x < 10 {
		return "0" + strconv.Itoa(x)
	}
	return strconv.Itoa(x)
}

func ReadTime(text string) int {
	hours, minutes, _ := strings.Cut(text, ":")
	h, err := strconv.Atoi(hours)
	if err != nil || h < 0 || h > MaxMinute/minutesPerHour {
		return -1
	}
	m, err := strconv.Atoi(minutes)
	if err != nil || m < 0 || m >= minutesPerHour {
		return -1
	}
	// Atoi also takes signs and any number of noughts: only the printed form tells them apart.
	minute := h*minutesPerHour + m
	if TimeText(minute) != text {
		return -1
	}
	return minute
}

func PatternOk(p Pattern) bool {
	if p.Week < 0 || p.Week > everyWeekday {
		return false
	}
	if p.From < 0 || p.From > p.To || p.To > MaxDay {
		return false
	}
	return daysOk(p, p.Skip, true) && daysOk(p, p.Extra, false)
}

// daysOk says whether list may be Skip (named) or Extra (not named) of p.
func daysOk(p Pattern, list []int, named bool) bool {
	if len(list) > MaxSkips {
		return false
	}
	for i, day := range list {
		if day < p.From || day > p.To || week(p.Week).names(day) != named {
			return false
		}
		if i > 0 && day <= list[i-1] {
			return false
		}
	}
	return true
}

func RunsOn(p Pattern, day int) bool {
	return PatternOk(p) && runsIfOk(p, day)
}

// runsIfOk spares those who ask for many days the check of the pattern on each of them.
func runsIfOk(p Pattern, day int) bool {
	if day < p.From || day > p.To {
		return false
	}
	if week(p.Week).names(day) {
		return !slices.Contains(p.Skip, day)
	}
	return slices.Contains(p.Extra, day)
}

// daysOf gives the days on which p runs, ascending; none when p is not PatternOk.
func daysOf(p Pattern) func(yield func(int) bool) {
	return func(yield func(int) bool) {
		if !PatternOk(p) {
			return
		}
		for day := p.From; day <= p.To; day++ {
			if runsIfOk(p, day) && !yield(day) {
				return
			}
		}
	}
}

func Runs(p Pattern) int {
	count := 0
	for range daysOf(p) {
		count++
	}
	return count
}

func NextRun(p Pattern, day int) int {
	for d := range daysOf(p) {
		if d >= day {
			return d
		}
	}
	return -1
}

func Both(p Pattern, q Pattern) Pattern {
	if !PatternOk(p) || !PatternOk(q) {
		return Pattern{}
	}
	both := Pattern{Week: p.Week & q.Week, From: max(p.From, q.From), To: min(p.To, q.To)}
	if both.From > both.To {
		return Pattern{}
	}
	for day := both.From; day <= both.To; day++ {
		named := week(both.Week).names(day)
		runs := runsIfOk(p, day) && runsIfOk(q, day)
		if named && !runs {
			both.Skip = append(both.Skip, day)
		}
		if !named && runs {
			both.Extra = append(both.Extra, day)
		}
	}
	if len(both.Skip) > MaxSkips || len(both.Extra) > MaxSkips {
		return Pattern{}
	}
	return both
}

func Later(p Pattern, n int) Pattern {
	if !PatternOk(p) || n < -MaxDay || n > MaxDay {
		return Pattern{}
	}
	if p.From+n < 0 || p.To+n > MaxDay {
		return Pattern{}
	}
	return Pattern{
		Week:  int(week(p.Week).turned(n)),
		From:  p.From + n,
		To:    p.To + n,
		Skip:  daysLater(p.Skip, n),
		Extra: daysLater(p.Extra, n),
	}
}

func daysLater(list []int, n int) []int {
	var later []int
	for _, day := range list {
		later = append(later, day+n)
	}
	return later
}
