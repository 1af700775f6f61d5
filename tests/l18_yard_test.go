package tests

import (
	"math"
	"slices"
	"strconv"
	"sync"
	"testing"

	"loop.example/g00075/impl"
)

func yardWith(room []int, rows ...[]int) impl.Sidings {
	return impl.Sidings{Room: room, Rows: rows}
}

func shuntOf(from, to, many int) impl.Shunt {
	return impl.Shunt{From: from, To: to, Many: many}
}

// threeRows has one row with room, one that is just full, and one that is empty.
func threeRows() impl.Sidings {
	return yardWith([]int{5, 2, 3}, []int{7, 3, 5, 1}, []int{9, 2}, nil)
}

// fullYard has all rows that may be, each with all wagons that fit.
func fullYard() impl.Sidings {
	var s impl.Sidings
	for row := range 6 {
		s.Room = append(s.Room, 40)
		s.Rows = append(s.Rows, numbers(40*row+1, 40*row+40))
	}
	return s
}

func yardCopy(s impl.Sidings) impl.Sidings {
	then := impl.Sidings{Room: slices.Clone(s.Room)}
	for _, wagons := range s.Rows {
		then.Rows = append(then.Rows, slices.Clone(wagons))
	}
	return then
}

func sameYard(a, b impl.Sidings) bool {
	return slices.Equal(a.Room, b.Room) && slices.EqualFunc(a.Rows, b.Rows, slices.Equal[[]int])
}

// yardByWords holds every two wagons against each other.
func yardByWords(s impl.Sidings) bool {
	if len(s.Rows) < 1 || len(s.Rows) > 6 || len(s.Room) != len(s.Rows) {
		return false
	}
	var all []int
	for row, room := range s.Room {
		if room < 1 || room > 40 || len(s.Rows[row]) > room {
			return false
		}
		all = append(all, s.Rows[row]...)
	}
	for k, wagon := range all {
		if wagon < 1 || wagon > 9999 || slices.Index(all, wagon) != k {
			return false
		}
	}
	return true
}

// shuntByWords rolls wagon after wagon: first onto the engine's track, and from there into the other row.
func shuntByWords(s impl.Sidings, m impl.Shunt) (impl.Sidings, int) {
	then := yardCopy(s)
	if !yardByWords(s) || m.From < 0 || m.From >= len(s.Rows) || m.To < 0 || m.To >= len(s.Rows) || m.From == m.To || m.Many < 1 {
		return then, 1
	}
	if m.Many > len(s.Rows[m.From]) {
		return then, 2
	}
	if m.Many > s.Room[m.To]-len(s.Rows[m.To]) {
		return then, 3
	}
	var engine []int
	for range m.Many {
		last := len(then.Rows[m.From]) - 1
		engine = append(engine, then.Rows[m.From][last])
		then.Rows[m.From] = then.Rows[m.From][:last]
	}
	for k := len(engine) - 1; k >= 0; k-- {
		then.Rows[m.To] = append(then.Rows[m.To], engine[k])
	}
	return then, 0
}

func shuntsByWords(s impl.Sidings, list []impl.Shunt) (impl.Sidings, []int) {
	then := yardCopy(s)
	if !yardByWords(s) || len(list) > 200 {
		return then, nil
	}
	var codes []int
	for _, m := range list {
		var code int
		then, code = shuntByWords(then, m)
		codes = append(codes, code)
	}
	return then, codes
}

func wagonsByWords(train []int) bool {
	return len(train) <= 40 && !slices.ContainsFunc(train, func(wagon int) bool { return wagon < 1 || wagon > 9999 })
}

// digitByWords reads the digit off the wagon's text in that base.
func digitByWords(wagon, base, digit int) int {
	text := strconv.FormatInt(int64(wagon), base)
	if digit >= len(text) {
		return 0
	}
	return int(text[len(text)-1-digit] - '0')
}

func passByWords(train []int, base, digit int) []int {
	if !wagonsByWords(train) || base < 2 || base > 10 || digit < 0 || digit > 13 {
		return nil
	}
	var coupled []int
	for track := range base {
		for _, wagon := range train {
			if digitByWords(wagon, base, digit) == track {
				coupled = append(coupled, wagon)
			}
		}
	}
	return coupled
}

func humpByWords(train []int, base int) ([]int, int) {
	if !wagonsByWords(train) || base < 2 || base > 10 {
		return nil, -1
	}
	if len(train) == 0 {
		return nil, 0
	}
	sorted := slices.Clone(train)
	slices.Sort(sorted)
	return sorted, len(strconv.FormatInt(int64(slices.Max(train)), base))
}

// inversionsByWords counts how often two neighbours change places until all stand in order.
func inversionsByWords(train []int) int {
	if !wagonsByWords(train) {
		return -1
	}
	order, changes := slices.Clone(train), 0
	for !slices.IsSorted(order) {
		for k := 1; k < len(order); k++ {
			if order[k-1] > order[k] {
				order[k-1], order[k] = order[k], order[k-1]
				changes++
			}
		}
	}
	return changes
}

func checkShunt(t *testing.T, s impl.Sidings, m impl.Shunt) (impl.Sidings, int) {
	t.Helper()
	was := yardCopy(s)
	if got, want := impl.SidingsOk(s), yardByWords(s); got != want {
		t.Fatalf("SidingsOk(%v): %v", s, got)
	}
	got, code := impl.ShuntOne(s, m)
	if want, wantCode := shuntByWords(s, m); !sameYard(got, want) || code != wantCode {
		t.Fatalf("ShuntOne(%v, %v): %v, %d, not %v, %d", s, m, got, code, want, wantCode)
	}
	if !sameYard(s, was) {
		t.Fatalf("%v was %v", s, was)
	}
	return got, code
}

func checkShunts(t *testing.T, s impl.Sidings, list []impl.Shunt) (impl.Sidings, []int) {
	t.Helper()
	was, list0 := yardCopy(s), slices.Clone(list)
	got, codes := impl.PlayShunts(s, list)
	if want, wantCodes := shuntsByWords(s, list); !sameYard(got, want) || !slices.Equal(codes, wantCodes) {
		t.Fatalf("PlayShunts(%v, %v): %v, %v, not %v, %v", s, list, got, codes, want, wantCodes)
	}
	if !sameYard(s, was) || !slices.Equal(list, list0) {
		t.Fatalf("%v was %v, %v was %v", s, was, list, list0)
	}
	return got, codes
}

func checkPass(t *testing.T, train []int, base, digit int) []int {
	t.Helper()
	was := slices.Clone(train)
	got := impl.HumpPass(train, base, digit)
	if want := passByWords(train, base, digit); !slices.Equal(got, want) {
		t.Fatalf("HumpPass(%v, %d, %d): %v, not %v", train, base, digit, got, want)
	}
	if !slices.Equal(train, was) {
		t.Fatalf("%v was %v", train, was)
	}
	return got
}

// checkHump holds HumpSort and Inversions against the words.
func checkHump(t *testing.T, train []int, base int) ([]int, int) {
	t.Helper()
	was := slices.Clone(train)
	got, passes := impl.HumpSort(train, base)
	if want, wantPasses := humpByWords(train, base); !slices.Equal(got, want) || passes != wantPasses {
		t.Fatalf("HumpSort(%v, %d): %v, %d, not %v, %d", train, base, got, passes, want, wantPasses)
	}
	if pairs, want := impl.Inversions(train), inversionsByWords(train); pairs != want {
		t.Fatalf("Inversions(%v): %d, not %d", train, pairs, want)
	}
	if !slices.Equal(train, was) {
		t.Fatalf("%v was %v", train, was)
	}
	return got, passes
}

// wrongYards are each wrong in one thing alone.
func wrongYards() map[string]impl.Sidings {
	seven := fullYard()
	seven.Room, seven.Rows = append(seven.Room, 40), append(seven.Rows, []int{500})
	return map[string]impl.Sidings{
		"the zero value":                {},
		"empty lists":                   {Room: []int{}, Rows: [][]int{}},
		"one row too many":              seven,
		"one empty row too many":        yardWith([]int{1, 1, 1, 1, 1, 1, 1}, nil, nil, nil, nil, nil, nil, nil),
		"a huge list of rows":           {Room: make([]int, 10000), Rows: make([][]int, 10000)},
		"no room":                       yardWith(nil, []int{1}, []int{2}),
		"no rows":                       yardWith([]int{2, 2}),
		"a room fewer":                  yardWith([]int{2}, []int{1}, []int{2}),
		"a room more":                   yardWith([]int{2, 2, 2}, []int{1}, []int{2}),
		"a room more, empty rows":       yardWith([]int{2, 2}, nil),
		"a room fewer, empty rows":      yardWith([]int{2}, nil, nil),
		"a room of 0":                   yardWith([]int{2, 0}, []int{1}, nil),
		"the first room of 0":           yardWith([]int{0, 2}, nil, []int{1}),
		"a room of -1":                  yardWith([]int{-1, 2}, nil, []int{1}),
		"a room of one more":            yardWith([]int{2, 41}, []int{1}, nil),
		"the first room of one more":    yardWith([]int{41, 2}, []int{1}, nil),
		"the least room":                yardWith([]int{2, math.MinInt}, []int{1}, nil),
		"the greatest room":             yardWith([]int{math.MaxInt, 2}, []int{1}, nil),
		"one wagon beyond a room of 1":  yardWith([]int{1}, []int{1, 2}),
		"one wagon beyond a room of 3":  yardWith([]int{4, 3}, nil, []int{1, 2, 3, 4}),
		"one wagon beyond, first":       yardWith([]int{3, 4}, []int{1, 2, 3, 4}, nil),
		"one wagon beyond MaxWagons":    yardWith([]int{40}, numbers(1, 41)),
		"one wagon beyond in a room 41": yardWith([]int{41}, numbers(1, 41)),
		"a huge row":                    yardWith([]int{40, 2}, numbers(1, 9999), nil),
		"a wagon of 0":                  yardWith([]int{4, 4}, []int{1, 0, 2}, []int{3}),
		"the first wagon of 0":          yardWith([]int{4, 4}, []int{0, 1}, []int{3}),
		"the last wagon of 0":           yardWith([]int{4, 4}, []int{1, 2}, []int{3, 0}),
		"a wagon of -1":                 yardWith([]int{4, 4}, []int{1, -1}, []int{3}),
		"a wagon of 10000":              yardWith([]int{4, 4}, []int{1}, []int{10000, 3}),
		"the last wagon of 10000":       yardWith([]int{4, 4}, []int{1}, []int{3, 10000}),
		"the least wagon":               yardWith([]int{4}, []int{math.MinInt}),
		"the greatest wagon":            yardWith([]int{4}, []int{math.MaxInt}),
		"a wagon twice":                 yardWith([]int{4}, []int{1, 1}),
		"a wagon twice, far apart":      yardWith([]int{4}, []int{3, 1, 2, 3}),
		"a wagon twice in the last row": yardWith([]int{4, 4}, []int{1}, []int{2, 3, 2}),
		"a wagon in two rows":           yardWith([]int{4, 4}, []int{1}, []int{1}),
		"a wagon in two rows, amid":     yardWith([]int{4, 4, 4}, []int{5, 1, 6}, []int{7}, []int{8, 9, 1}),
		"the last wagon in two rows":    yardWith([]int{4, 4, 4}, []int{5, 6}, nil, []int{8, 6}),
		"9999 in two rows":              yardWith([]int{4, 4}, []int{9999}, []int{9999}),
	}
}

func rightYards() map[string]impl.Sidings {
	empty := fullYard()
	empty.Rows = make([][]int, 6)
	return map[string]impl.Sidings{
		"the least":                yardWith([]int{1}, nil),
		"one row, an empty list":   yardWith([]int{1}, []int{}),
		"one row, just full":       yardWith([]int{1}, []int{9999}),
		"one row of MaxWagons":     yardWith([]int{40}, numbers(9960, 9999)),
		"one wagon fewer":          yardWith([]int{40}, numbers(1, 39)),
		"the greatest":             fullYard(),
		"MaxRows, all empty":       empty,
		"MaxRows of one wagon":     yardWith([]int{1, 1, 1, 1, 1, 1}, []int{6}, []int{5}, []int{4}, []int{3}, []int{2}, []int{1}),
		"five rows":                yardWith([]int{1, 2, 3, 4, 5}, nil, []int{2}, nil, []int{1, 4}, nil),
		"three rows":               threeRows(),
		"just full, in the middle": yardWith([]int{9, 3, 9}, nil, []int{30, 10, 20}, nil),
		"a wagon of 1":             yardWith([]int{3, 3}, nil, []int{1}),
		"a wagon of 9999":          yardWith([]int{3, 3}, []int{9999, 1}, []int{9998}),
		"turned round":             yardWith([]int{9}, []int{9, 8, 7, 6}),
	}
}

// someYard throws rows with wagons that are thrown too, none of them twice.
func someYard(d *dice, rows, most, full int) impl.Sidings {
	var s impl.Sidings
	taken := map[int]int{}
	for range rows {
		room := 1 + d.below(most)
		var wagons []int
		for len(wagons) < room && d.below(8) < full {
			wagon := 1 + d.below(9999)
			if taken[wagon] == 0 {
				wagons = append(wagons, wagon)
			}
			taken[wagon]++
		}
		s.Room, s.Rows = append(s.Room, room), append(s.Rows, wagons)
	}
	return s
}

func someShunts(d *dice, rows, count, most int) []impl.Shunt {
	var list []impl.Shunt
	for range count {
		m := shuntOf(d.below(rows), d.below(rows), 1+d.below(most))
		switch d.below(25) {
		case 0:
			m.From = -1 + (rows+1)*d.below(2)
		case 1:
			m.To = -1 + (rows+1)*d.below(2)
		case 2:
			m.Many = -d.below(2)
		}
		list = append(list, m)
	}
	return list
}

func someWagons(d *dice, count, greatest int) []int {
	var train []int
	for range count {
		train = append(train, 1+d.below(greatest))
	}
	return train
}

func wrongWagons() map[string][]int {
	return map[string][]int{
		"one wagon too many":       numbers(1, 41),
		"one too many, all alike":  slices.Repeat([]int{7}, 41),
		"far too many":             slices.Repeat([]int{7}, 100000),
		"0":                        {0},
		"-1":                       {-1},
		"10000":                    {10000},
		"0 at last":                {1, 2, 0},
		"0 first":                  {0, 1, 2},
		"10000 at last":            {1, 2, 10000},
		"10000 first":              {10000, 1, 2},
		"-1 between":               {1, -1, 2},
		"0 as the last of 40":      append(numbers(1, 39), 0),
		"the greatest int":         {math.MaxInt},
		"the least int":            {math.MinInt},
		"the least int amid":       {5, math.MinInt, 5},
		"one more than 16 bits":    {65537},
		"a wagon beyond 32 bits":   {1 << 32},
		"one beyond 32 bits and 1": {1<<32 + 1},
	}
}

func TestYardConstants(t *testing.T) {
	checkInts(t, "limits", []int{impl.MaxRows, impl.MaxWagons, impl.MaxShunts}, []int{6, 40, 200})
	checkInts(t, "codes", []int{impl.ShuntDone, impl.ShuntBad, impl.ShuntFew, impl.ShuntFull}, []int{0, 1, 2, 3})
}

func TestSidingsOk(t *testing.T) {
	for name, s := range rightYards() {
		if !impl.SidingsOk(s) {
			t.Errorf("%s: not right", name)
		}
		checkShunt(t, s, shuntOf(0, len(s.Rows)-1, 1))
		checkShunts(t, s, []impl.Shunt{shuntOf(0, 1, 1), shuntOf(1, 0, 1)})
	}
	for name, s := range wrongYards() {
		if impl.SidingsOk(s) {
			t.Errorf("%s: not wrong", name)
		}
	}
}

// TestSidingsOkOfEachCount lets the numbers of rows and rooms, the room and the wagons on a row be all around their limits.
func TestSidingsOkOfEachCount(t *testing.T) {
	for rows := range 10 {
		for rooms := range 10 {
			s := impl.Sidings{Room: slices.Repeat([]int{3}, rooms), Rows: make([][]int, rows)}
			if got, want := impl.SidingsOk(s), rows == rooms && rows >= 1 && rows <= 6; got != want {
				t.Errorf("%d rows and %d rooms: %v", rows, rooms, got)
			}
		}
	}
	for room := -2; room <= 43; room++ {
		for count := range 44 {
			want := room >= 1 && room <= 40 && count <= room
			for row := range 3 {
				s := yardWith([]int{40, 40, 40}, nil, nil, nil)
				s.Room[row], s.Rows[row] = room, numbers(1, count)
				if got := impl.SidingsOk(s); got != want {
					t.Errorf("%d wagons on row %d with room for %d: %v", count, row, room, got)
				}
			}
		}
	}
}

// TestSameWagonAtAnyPlaces puts one wagon at every two places of full rows.
func TestSameWagonAtAnyPlaces(t *testing.T) {
	places := []int{0, 1, 2, 19, 38, 39}
	for row := range 6 {
		for other := row; other < 6; other++ {
			for _, k := range places {
				for _, l := range places {
					if row == other && k >= l {
						continue
					}
					s := fullYard()
					s.Rows[other][l] = s.Rows[row][k]
					if impl.SidingsOk(s) {
						t.Fatalf("row %d, place %d, and row %d, place %d", row, k, other, l)
					}
					s.Rows[other][l] = 9999
					if !impl.SidingsOk(s) {
						t.Fatalf("row %d, place %d: not right with 9999", other, l)
					}
				}
			}
		}
	}
}

// TestAllSmallSidings goes through all that two rows of few wagons may be, wrong ones too, and all shunts of them.
func TestAllSmallSidings(t *testing.T) {
	var lists [][]int
	manyLists(2, numbers(0, 3), func(list []int) { lists = append(lists, list) })
	right := 0
	for _, room := range [][]int{{0, 2}, {1, 1}, {1, 2}, {2, 1}, {2, 3}, {3, 41}, {3}, {1, 1, 1}} {
		for _, first := range lists {
			for _, second := range lists {
				s := yardWith(room, first, second)
				for _, m := range []impl.Shunt{shuntOf(0, 1, 1), shuntOf(1, 0, 1), shuntOf(0, 1, 2), shuntOf(1, 0, 2)} {
					checkShunt(t, s, m)
				}
				if impl.SidingsOk(s) {
					right++
				}
			}
		}
	}
	// Of three wagons: with rooms of 1 and 1 no wagon, one on either row, and 6 ways of one on each. A room of 2 lets in
	// 6 ways of two on that row, and 6 of these with the third wagon on the other.
	ones := 1 + 3 + 3 + 6
	if want := ones + 2*(ones+12) + (ones + 24); right != want {
		t.Errorf("%d are right, not %d", right, want)
	}
}

func TestWrongSidings(t *testing.T) {
	for name, s := range wrongYards() {
		was := yardCopy(s)
		for _, m := range []impl.Shunt{{}, shuntOf(0, 1, 1), shuntOf(1, 0, 1), shuntOf(0, 1, 99), shuntOf(0, 0, 1), shuntOf(-1, 9, 0)} {
			if then, code := impl.ShuntOne(s, m); code != impl.ShuntBad || !sameYard(then, was) {
				t.Errorf("%s, %v: code %d", name, m, code)
			}
		}
		for _, list := range [][]impl.Shunt{nil, {}, {shuntOf(0, 1, 1)}, {shuntOf(0, 1, 1), shuntOf(1, 0, 1)}, make([]impl.Shunt, 201)} {
			if then, codes := impl.PlayShunts(s, list); len(codes) != 0 || !sameYard(then, was) {
				t.Errorf("%s: codes %v", name, codes)
			}
		}
		if !sameYard(s, was) {
			t.Errorf("%s: spoilt", name)
		}
	}
}

func TestShuntOneByHand(t *testing.T) {
	s := threeRows()
	cases := map[string]struct {
		shunt impl.Shunt
		code  int
		rows  [][]int
	}{
		"one wagon":                   {shuntOf(0, 2, 1), impl.ShuntDone, [][]int{{7, 3, 5}, {9, 2}, {1}}},
		"two in one piece":            {shuntOf(0, 2, 2), impl.ShuntDone, [][]int{{7, 3}, {9, 2}, {5, 1}}},
		"into a row just full then":   {shuntOf(0, 2, 3), impl.ShuntDone, [][]int{{7}, {9, 2}, {3, 5, 1}}},
		"one wagon beyond":            {shuntOf(0, 2, 4), impl.ShuntFull, nil},
		"one more than are there":     {shuntOf(0, 2, 5), impl.ShuntFew, nil},
		"behind those that are there": {shuntOf(1, 0, 1), impl.ShuntDone, [][]int{{7, 3, 5, 1, 2}, {9}, nil}},
		"all, one wagon beyond":       {shuntOf(1, 0, 2), impl.ShuntFull, nil},
		"all of a row":                {shuntOf(1, 2, 2), impl.ShuntDone, [][]int{{7, 3, 5, 1}, nil, {9, 2}}},
		"all and one more":            {shuntOf(1, 2, 3), impl.ShuntFew, nil},
		"few and full":                {shuntOf(1, 0, 3), impl.ShuntFew, nil},
		"into a full row":             {shuntOf(0, 1, 1), impl.ShuntFull, nil},
		"into a full row, too many":   {shuntOf(0, 1, 5), impl.ShuntFew, nil},
		"from an empty row":           {shuntOf(2, 0, 1), impl.ShuntFew, nil},
		"from an empty to a full one": {shuntOf(2, 1, 1), impl.ShuntFew, nil},
		"none of an empty row":        {shuntOf(2, 0, 0), impl.ShuntBad, nil},
		"none":                        {shuntOf(0, 2, 0), impl.ShuntBad, nil},
		"none into a full row":        {shuntOf(0, 1, 0), impl.ShuntBad, nil},
		"-1 wagons":                   {shuntOf(0, 2, -1), impl.ShuntBad, nil},
		"the fewest wagons":           {shuntOf(0, 2, math.MinInt), impl.ShuntBad, nil},
		"the most wagons":             {shuntOf(0, 2, math.MaxInt), impl.ShuntFew, nil},
		"the most into a full row":    {shuntOf(0, 1, math.MaxInt), impl.ShuntFew, nil},
		"alike":                       {shuntOf(0, 0, 1), impl.ShuntBad, nil},
		"alike and full":              {shuntOf(1, 1, 1), impl.ShuntBad, nil},
		"alike and few":               {shuntOf(2, 2, 1), impl.ShuntBad, nil},
		"alike and none":              {shuntOf(0, 0, 0), impl.ShuntBad, nil},
		"From of -1":                  {shuntOf(-1, 2, 1), impl.ShuntBad, nil},
		"From one beyond":             {shuntOf(3, 2, 1), impl.ShuntBad, nil},
		"To of -1":                    {shuntOf(0, -1, 1), impl.ShuntBad, nil},
		"To one beyond":               {shuntOf(0, 3, 1), impl.ShuntBad, nil},
		"To one beyond, and few":      {shuntOf(0, 3, 9), impl.ShuntBad, nil},
		"From one beyond, and full":   {shuntOf(3, 1, 1), impl.ShuntBad, nil},
		"both of -1":                  {shuntOf(-1, -1, 1), impl.ShuntBad, nil},
		"both one beyond":             {shuntOf(3, 3, 1), impl.ShuntBad, nil},
		"the least From":              {shuntOf(math.MinInt, 2, 1), impl.ShuntBad, nil},
		"the greatest From":           {shuntOf(math.MaxInt, 2, 1), impl.ShuntBad, nil},
		"the least To":                {shuntOf(0, math.MinInt, 1), impl.ShuntBad, nil},
		"the greatest To":             {shuntOf(0, math.MaxInt, 1), impl.ShuntBad, nil},
		"the zero value":              {impl.Shunt{}, impl.ShuntBad, nil},
	}
	for name, c := range cases {
		want := impl.Sidings{Room: s.Room, Rows: c.rows}
		if c.rows == nil {
			want = threeRows()
		}
		if then, code := impl.ShuntOne(s, c.shunt); code != c.code || !sameYard(then, want) {
			t.Errorf("%s: %v, %d", name, then, code)
		}
		checkShunt(t, s, c.shunt)
	}
	if _, code := checkShunt(t, yardWith([]int{2}, []int{1, 2}), shuntOf(0, 0, 1)); code != impl.ShuntBad {
		t.Errorf("one row alone: %d", code)
	}
	for row := 1; row < 6; row++ {
		if _, code := checkShunt(t, fullYard(), shuntOf(0, row, 1)); code != impl.ShuntFull {
			t.Errorf("a full yard: %d", code)
		}
	}
}

// TestShuntOneAtEveryRoom lets both rows be as full as can be, around every number of wagons that are shunted.
func TestShuntOneAtEveryRoom(t *testing.T) {
	codes := map[int]int{}
	for from := 0; from <= 40; from += 5 {
		for to := 0; to <= 40; to += 4 {
			for room := max(to, 1); room <= 40; room += 3 {
				s := yardWith([]int{40, room}, numbers(1001, 1000+from), numbers(1, to))
				for _, many := range []int{-1, 0, 1, 2, from - 1, from, from + 1, room - to - 1, room - to, room - to + 1, 40, 41} {
					_, code := checkShunt(t, s, shuntOf(0, 1, many))
					codes[code]++
				}
			}
		}
	}
	for code := range 4 {
		if codes[code] < 50 {
			t.Errorf("code %d came only %d times", code, codes[code])
		}
	}
	all, code := checkShunt(t, yardWith([]int{40, 40}, numbers(1, 40), nil), shuntOf(0, 1, 40))
	if code != impl.ShuntDone || len(all.Rows[0]) != 0 {
		t.Errorf("all of MaxWagons: %d, %v", code, all)
	}
	checkInts(t, "all of MaxWagons", all.Rows[1], numbers(1, 40))
}

// TestAllShuntsOfFewWagons asks every shunt, wrong ones too, of all ways to fill three rows.
func TestAllShuntsOfFewWagons(t *testing.T) {
	for fill := range 4 * 4 * 4 {
		counts := [3]int{fill % 4, fill / 4 % 4, fill / 16}
		s := yardWith([]int{3, 4, 5}, numbers(11, 10+counts[0]), numbers(21, 20+counts[1]), numbers(31, 30+counts[2]))
		for from := -1; from <= 3; from++ {
			for to := -1; to <= 3; to++ {
				for many := -1; many <= 5; many++ {
					m := shuntOf(from, to, many)
					then, code := checkShunt(t, s, m)
					played, codes := checkShunts(t, s, []impl.Shunt{m})
					if !sameYard(then, played) || !slices.Equal(codes, []int{code}) {
						t.Fatalf("%v, %v: %v, %d, played %v, %v", s, m, then, code, played, codes)
					}
					if code != impl.ShuntDone {
						continue
					}
					if back, undone := checkShunt(t, then, impl.Undo(m)); undone != impl.ShuntDone || !sameYard(back, s) {
						t.Fatalf("%v, %v: undone %v, %d", s, m, back, undone)
					}
				}
			}
		}
	}
}

func TestPlayShuntsByHand(t *testing.T) {
	s := threeRows()
	cases := map[string]struct {
		list  []impl.Shunt
		codes []int
		rows  [][]int
	}{
		"nil":      {nil, nil, s.Rows},
		"no shunt": {[]impl.Shunt{}, nil, s.Rows},
		"one":      {[]impl.Shunt{shuntOf(0, 2, 2)}, []int{0}, [][]int{{7, 3}, {9, 2}, {5, 1}}},
		"there and back": {
			[]impl.Shunt{shuntOf(0, 2, 3), shuntOf(2, 0, 3)}, []int{0, 0}, s.Rows},
		"there and back, wagon by wagon": {
			[]impl.Shunt{shuntOf(0, 2, 1), shuntOf(0, 2, 1), shuntOf(2, 0, 2)}, []int{0, 0, 0}, [][]int{{7, 3, 1, 5}, {9, 2}, nil}},
		"round by a third row": {
			[]impl.Shunt{shuntOf(1, 2, 2), shuntOf(0, 1, 2), shuntOf(2, 0, 2)}, []int{0, 0, 0}, [][]int{{7, 3, 9, 2}, {5, 1}, nil}},
		"refused at first, done then": {
			[]impl.Shunt{shuntOf(0, 1, 1), shuntOf(1, 2, 1), shuntOf(0, 1, 1), shuntOf(0, 1, 1)}, []int{3, 0, 0, 3}, [][]int{{7, 3, 5}, {9, 1}, {2}}},
		"refused ones between": {
			[]impl.Shunt{shuntOf(0, 2, 1), shuntOf(0, 2, 4), shuntOf(2, 2, 1), shuntOf(0, 2, 2), shuntOf(0, 2, 1), shuntOf(3, 0, 1), shuntOf(2, 0, 0), shuntOf(2, 0, 1)},
			[]int{0, 2, 1, 0, 3, 1, 1, 0}, [][]int{{7, 5}, {9, 2}, {1, 3}}},
		"all are refused": {
			[]impl.Shunt{{}, shuntOf(2, 0, 1), shuntOf(0, 1, 1), shuntOf(0, 2, 4)}, []int{1, 2, 3, 3}, s.Rows},
		"until a row is empty": {
			[]impl.Shunt{shuntOf(1, 2, 1), shuntOf(1, 2, 1), shuntOf(1, 2, 1)}, []int{0, 0, 2}, [][]int{{7, 3, 5, 1}, nil, {2, 9}}},
	}
	for name, c := range cases {
		then, codes := impl.PlayShunts(s, c.list)
		checkInts(t, name, codes, c.codes)
		if !sameYard(then, impl.Sidings{Room: s.Room, Rows: c.rows}) {
			t.Errorf("%s: %v", name, then)
		}
		checkShunts(t, s, c.list)
	}
}

// TestAShuntIsNotSpoiltByTheNext pushes other wagons to where some were drawn off.
func TestAShuntIsNotSpoiltByTheNext(t *testing.T) {
	s := yardWith([]int{4, 4, 4}, []int{1, 2, 3, 4}, []int{5, 6}, nil)
	then, codes := checkShunts(t, s, []impl.Shunt{shuntOf(0, 2, 2), shuntOf(1, 0, 2), shuntOf(2, 1, 1), shuntOf(0, 2, 1), shuntOf(1, 0, 1)})
	checkInts(t, "codes", codes, []int{0, 0, 0, 0, 0})
	if want := yardWith([]int{4, 4, 4}, []int{1, 2, 5, 4}, nil, []int{3, 6}); !sameYard(then, want) {
		t.Errorf("%v, not %v", then, want)
	}
}

func TestPlayManyShunts(t *testing.T) {
	s := threeRows()
	var list []impl.Shunt
	for len(list) < 200 {
		// There and back, with one that is refused behind each.
		list = append(list, shuntOf(0, 2, 2), shuntOf(0, 1, 1), shuntOf(2, 0, 2), shuntOf(2, 0, 1))
	}
	for _, count := range []int{1, 2, 3, 4, 198, 199, 200} {
		then, codes := checkShunts(t, s, list[:count])
		home := count%4 == 0 || count%4 == 3
		if len(codes) != count || home != sameYard(then, s) {
			t.Errorf("%d shunts: %d codes, %v", count, len(codes), then)
		}
		for k, code := range codes {
			if code != []int{0, 3, 0, 2}[k%4] {
				t.Errorf("code %d at %d", code, k)
			}
		}
	}
	for _, count := range []int{1, 2, 100} {
		many := append(slices.Clone(list), list[:count]...)
		if then, codes := checkShunts(t, s, many); len(codes) != 0 || !sameYard(then, s) {
			t.Errorf("%d too many: %v, %v", count, codes, then)
		}
	}
	refused := make([]impl.Shunt, 200)
	if then, codes := checkShunts(t, s, refused); !slices.Equal(codes, slices.Repeat([]int{1}, 200)) || !sameYard(then, s) {
		t.Errorf("MaxShunts, all refused: %v, %v", codes, then)
	}
	if then, codes := checkShunts(t, s, append(refused, shuntOf(0, 2, 1))); len(codes) != 0 || !sameYard(then, s) {
		t.Errorf("one more, all but that refused: %v, %v", codes, then)
	}
	if then, codes := impl.PlayShunts(s, make([]impl.Shunt, 100000)); len(codes) != 0 || !sameYard(then, s) {
		t.Errorf("far too many: %d codes, %v", len(codes), then)
	}
}

func TestUndo(t *testing.T) {
	edges := []int{math.MinInt, -1, 0, 1, 2, 5, 6, 40, 41, math.MaxInt}
	for _, from := range edges {
		for _, to := range edges {
			for _, many := range edges {
				m := shuntOf(from, to, many)
				if got := impl.Undo(m); got != shuntOf(to, from, many) {
					t.Errorf("Undo(%v): %v", m, got)
				}
				if got := impl.Undo(impl.Undo(m)); got != m {
					t.Errorf("Undo twice of %v: %v", m, got)
				}
			}
		}
	}
}

func TestHumpPassByHand(t *testing.T) {
	cases := map[string]struct {
		train []int
		base  int
		digit int
		want  []int
	}{
		"by the last bit":                {[]int{5, 2, 3, 4}, 2, 0, []int{2, 4, 5, 3}},
		"by the second bit":              {[]int{2, 4, 5, 3}, 2, 1, []int{4, 5, 2, 3}},
		"by the third bit":               {[]int{4, 5, 2, 3}, 2, 2, []int{2, 3, 4, 5}},
		"by a bit that none has":         {[]int{5, 2, 3, 4}, 2, 3, []int{5, 2, 3, 4}},
		"by the last bit of all":         {[]int{9999, 8192, 8191, 1}, 2, 13, []int{8191, 1, 9999, 8192}},
		"by the last bit but one":        {[]int{4096, 4095, 8192, 8191}, 2, 12, []int{4095, 8192, 4096, 8191}},
		"by ones":                        {[]int{31, 20, 11, 29, 1, 10}, 10, 0, []int{20, 10, 31, 11, 1, 29}},
		"by tens":                        {[]int{31, 20, 11, 29, 1, 10}, 10, 1, []int{1, 11, 10, 20, 29, 31}},
		"by hundreds that none has":      {[]int{31, 20, 11, 29, 1, 10}, 10, 2, []int{31, 20, 11, 29, 1, 10}},
		"by thousands":                   {[]int{9999, 1000, 999, 5000}, 10, 3, []int{999, 1000, 5000, 9999}},
		"by a digit beyond all wagons":   {[]int{9999, 1, 5000, 77}, 10, 13, []int{9999, 1, 5000, 77}},
		"by ten thousands":               {[]int{9999, 1, 5000, 77}, 10, 4, []int{9999, 1, 5000, 77}},
		"in base 3":                      {[]int{8, 3, 7, 1, 5, 6}, 3, 0, []int{3, 6, 7, 1, 8, 5}},
		"in base 3, the second":          {[]int{8, 3, 7, 1, 5, 6}, 3, 1, []int{1, 3, 5, 8, 7, 6}},
		"in base 9, up to the last":      {[]int{8, 9, 17, 10}, 9, 0, []int{9, 10, 8, 17}},
		"equal digits stay":              {[]int{23, 3, 13, 33}, 10, 0, []int{23, 3, 13, 33}},
		"equal digits, turned round":     {[]int{33, 13, 3, 23}, 10, 0, []int{33, 13, 3, 23}},
		"wagons twice":                   {[]int{5, 4, 5, 4, 5}, 2, 0, []int{4, 4, 5, 5, 5}},
		"all alike":                      {[]int{7, 7, 7}, 3, 0, []int{7, 7, 7}},
		"one wagon":                      {[]int{9999}, 10, 0, []int{9999}},
		"the least wagon":                {[]int{1}, 2, 0, []int{1}},
		"no wagon":                       {nil, 2, 0, nil},
		"an empty train":                 {[]int{}, 10, 13, nil},
		"MaxWagons":                      {numbers(1, 40), 2, 13, numbers(1, 40)},
		"MaxWagons, all alike":           {slices.Repeat([]int{9999}, 40), 7, 3, slices.Repeat([]int{9999}, 40)},
		"one more than MaxWagons":        {numbers(1, 41), 2, 0, nil},
		"a base of 1":                    {[]int{2, 1}, 1, 0, nil},
		"a base of 0":                    {[]int{2, 1}, 0, 0, nil},
		"a base of -2":                   {[]int{2, 1}, -2, 0, nil},
		"a base of 2":                    {[]int{1, 2}, 2, 0, []int{2, 1}},
		"a base of 10":                   {[]int{1, 10}, 10, 0, []int{10, 1}},
		"a base of 11":                   {[]int{2, 1}, 11, 0, nil},
		"the greatest base":              {[]int{2, 1}, math.MaxInt, 0, nil},
		"the least base":                 {[]int{2, 1}, math.MinInt, 0, nil},
		"a digit of -1":                  {[]int{2, 1}, 2, -1, nil},
		"a digit of 13":                  {[]int{2, 1}, 2, 13, []int{2, 1}},
		"a digit of 14":                  {[]int{2, 1}, 2, 14, nil},
		"a digit of 14, base 10":         {[]int{2, 1}, 10, 14, nil},
		"the greatest digit":             {[]int{2, 1}, 2, math.MaxInt, nil},
		"the least digit":                {[]int{2, 1}, 2, math.MinInt, nil},
		"a digit whose worth wraps to 0": {[]int{2, 1}, 2, 64, nil},
	}
	for name, c := range cases {
		checkInts(t, name, impl.HumpPass(c.train, c.base, c.digit), c.want)
		checkPass(t, c.train, c.base, c.digit)
	}
}

// TestHumpPassOfEveryBaseAndDigit lets trains with all kinds of digits roll, wrong bases and digits among them.
func TestHumpPassOfEveryBaseAndDigit(t *testing.T) {
	d := &dice{state: 181}
	trains := [][]int{nil, {1}, {9999}, numbers(1, 40), numbers(9960, 9999), someWagons(d, 40, 9999), someWagons(d, 40, 30), numbers(1, 41)}
	for base := -1; base <= 12; base++ {
		for digit := -2; digit <= 15; digit++ {
			for _, train := range trains {
				got := checkPass(t, train, base, digit)
				if base < 2 || base > 10 || digit < 0 || digit > 13 || len(train) > 40 {
					if len(got) != 0 {
						t.Errorf("HumpPass(%v, %d, %d): %v", train, base, digit, got)
					}
					continue
				}
				// No wagon has more than four digits in base 10: beyond them all go to track 0.
				if base == 10 && digit > 3 && !slices.Equal(got, train) {
					t.Errorf("digit %d of %v: %v", digit, train, got)
				}
			}
		}
	}
}

func TestHumpSortByHand(t *testing.T) {
	cases := map[string]struct {
		train  []int
		base   int
		want   []int
		passes int
	}{
		"by bits":                 {[]int{5, 2, 3, 4}, 2, []int{2, 3, 4, 5}, 3},
		"by decimal digits":       {[]int{5, 12, 3, 104}, 10, []int{3, 5, 12, 104}, 3},
		"sorted":                  {[]int{1, 2, 3, 4, 5}, 2, []int{1, 2, 3, 4, 5}, 3},
		"turned round":            {[]int{5, 4, 3, 2, 1}, 2, []int{1, 2, 3, 4, 5}, 3},
		"all alike":               {[]int{6, 6, 6, 6}, 2, []int{6, 6, 6, 6}, 3},
		"wagons twice":            {[]int{9, 1, 9, 1}, 3, []int{1, 1, 9, 9}, 3},
		"one wagon":               {[]int{1}, 2, []int{1}, 1},
		"one wagon, base 10":      {[]int{9}, 10, []int{9}, 1},
		"just a power of 10":      {[]int{10, 3}, 10, []int{3, 10}, 2},
		"one less":                {[]int{9, 3}, 10, []int{3, 9}, 1},
		"1000":                    {[]int{1000, 999}, 10, []int{999, 1000}, 4},
		"999":                     {[]int{999, 998}, 10, []int{998, 999}, 3},
		"8192":                    {[]int{8192, 8191}, 2, []int{8191, 8192}, 14},
		"8191":                    {[]int{8191, 8190}, 2, []int{8190, 8191}, 13},
		"the greatest, base 2":    {[]int{9999, 1}, 2, []int{1, 9999}, 14},
		"the greatest, base 3":    {[]int{9999, 1}, 3, []int{1, 9999}, 9},
		"the greatest, base 9":    {[]int{9999, 1}, 9, []int{1, 9999}, 5},
		"the greatest, base 10":   {[]int{9999, 1}, 10, []int{1, 9999}, 4},
		"the greatest at last":    {[]int{7, 3, 100}, 10, []int{3, 7, 100}, 3},
		"the greatest between":    {[]int{7, 100, 3}, 10, []int{3, 7, 100}, 3},
		"no wagon":                {nil, 2, nil, 0},
		"an empty train":          {[]int{}, 10, nil, 0},
		"MaxWagons, turned round": {turned(numbers(9960, 9999)), 2, numbers(9960, 9999), 14},
		"one more":                {numbers(1, 41), 2, nil, -1},
		"a base of 1":             {[]int{2, 1}, 1, nil, -1},
		"a base of 0":             {[]int{2, 1}, 0, nil, -1},
		"a base of -1":            {[]int{2, 1}, -1, nil, -1},
		"a base of -2":            {[]int{2, 1}, -2, nil, -1},
		"a base of 2":             {[]int{2, 1}, 2, []int{1, 2}, 2},
		"a base of 10":            {[]int{2, 1}, 10, []int{1, 2}, 1},
		"a base of 11":            {[]int{2, 1}, 11, nil, -1},
		"the greatest base":       {[]int{2, 1}, math.MaxInt, nil, -1},
		"the least base":          {[]int{2, 1}, math.MinInt, nil, -1},
		"no wagon, a base of 1":   {nil, 1, nil, -1},
		"no wagon, a base of 11":  {nil, 11, nil, -1},
	}
	for name, c := range cases {
		got, passes := impl.HumpSort(c.train, c.base)
		checkInts(t, name, got, c.want)
		if passes != c.passes {
			t.Errorf("%s: %d passes, not %d", name, passes, c.passes)
		}
		checkHump(t, c.train, c.base)
	}
}

func turned(list []int) []int {
	back := slices.Clone(list)
	slices.Reverse(back)
	return back
}

// TestHumpSortAtEveryPower takes greatest wagons around every power of every base.
func TestHumpSortAtEveryPower(t *testing.T) {
	for base := 2; base <= 10; base++ {
		digits := 1
		for power := base; power <= 9999; power *= base {
			if _, passes := checkHump(t, []int{power - 1, 1}, base); passes != digits {
				t.Errorf("%d in base %d: %d passes, not %d", power-1, base, passes, digits)
			}
			digits++
			for _, train := range [][]int{{power}, {1, power}, {power, power - 1, power}} {
				if _, passes := checkHump(t, train, base); passes != digits {
					t.Errorf("%v in base %d: %d passes, not %d", train, base, passes, digits)
				}
			}
		}
	}
}

// TestHumpSortOfEveryWagon asks every wagon that there is, in every base.
func TestHumpSortOfEveryWagon(t *testing.T) {
	for wagon := 1; wagon <= 9999; wagon++ {
		for base := 2; base <= 10; base++ {
			checkHump(t, []int{wagon, wagon/2 + 1}, base)
		}
	}
}

// TestHumpSortIsItsPasses does by hand what HumpSort is said to do.
func TestHumpSortIsItsPasses(t *testing.T) {
	d := &dice{state: 182}
	for range 500 {
		train, base := someWagons(d, d.below(41), 1+d.below(9999)), 2+d.below(9)
		sorted, passes := checkHump(t, train, base)
		rolled := train
		for digit := range passes {
			rolled = checkPass(t, rolled, base, digit)
		}
		if !slices.Equal(rolled, sorted) {
			t.Fatalf("%v in base %d: %v, pass by pass %v", train, base, sorted, rolled)
		}
		if passes < 14 && !slices.Equal(impl.HumpPass(sorted, base, passes), sorted) {
			t.Fatalf("%v in base %d: not done by %d passes", train, base, passes)
		}
	}
}

func TestInversionsByHand(t *testing.T) {
	cases := map[string]struct {
		train []int
		want  int
	}{
		"no wagon":                {nil, 0},
		"an empty train":          {[]int{}, 0},
		"one wagon":               {[]int{9999}, 0},
		"two in order":            {[]int{1, 2}, 0},
		"two turned round":        {[]int{2, 1}, 1},
		"two alike":               {[]int{2, 2}, 0},
		"three turned round":      {[]int{3, 2, 1}, 3},
		"the greatest first":      {[]int{9999, 1, 2, 3}, 3},
		"the least last":          {[]int{2, 3, 4, 1}, 3},
		"far apart":               {[]int{4, 2, 3, 1}, 5},
		"as in the document":      {[]int{5, 2, 3, 4}, 3},
		"alike between":           {[]int{2, 1, 2, 1}, 3},
		"all alike":               {slices.Repeat([]int{5}, 40), 0},
		"MaxWagons":               {numbers(1, 40), 0},
		"MaxWagons, turned round": {turned(numbers(1, 40)), 780},
		"one more":                {turned(numbers(1, 41)), -1},
		"a wagon of 0":            {[]int{1, 0}, -1},
		"a wagon of 10000":        {[]int{10000, 1}, -1},
	}
	for name, c := range cases {
		if got := impl.Inversions(c.train); got != c.want {
			t.Errorf("%s: %d, not %d", name, got, c.want)
		}
	}
}

func TestWrongWagons(t *testing.T) {
	for name, train := range wrongWagons() {
		for base := 1; base <= 11; base++ {
			for _, digit := range []int{-1, 0, 1, 13, 14} {
				if got := impl.HumpPass(train, base, digit); len(got) != 0 {
					t.Errorf("%s: HumpPass in base %d by digit %d: %v", name, base, digit, got)
				}
			}
			if got, passes := impl.HumpSort(train, base); len(got) != 0 || passes != -1 {
				t.Errorf("%s: HumpSort in base %d: %v, %d", name, base, got, passes)
			}
		}
		if got := impl.Inversions(train); got != -1 {
			t.Errorf("%s: %d inversions", name, got)
		}
	}
	for count := range 44 {
		for _, wagon := range []int{0, 1, 9999, 10000} {
			train := slices.Repeat([]int{wagon}, count)
			checkPass(t, train, 2, 0)
			checkHump(t, train, 10)
		}
	}
}

// TestAllSmallTrainsOnTheHump goes through all trains of few wagons, wrong ones among them.
func TestAllSmallTrainsOnTheHump(t *testing.T) {
	manyLists(5, []int{0, 1, 2, 3, 4, 9}, func(train []int) {
		for _, base := range []int{1, 2, 3, 10} {
			checkHump(t, train, base)
			checkPass(t, train, base, len(train)%3)
		}
	})
}

func TestManyTrainsOnTheHump(t *testing.T) {
	d := &dice{state: 183}
	for range 3000 {
		train := someWagons(d, d.below(43), 1+d.below(9999))
		if len(train) > 0 && d.below(10) == 0 {
			train[d.below(len(train))] = 10000 * d.below(2)
		}
		checkPass(t, train, 1+d.below(11), d.below(16)-1)
		checkHump(t, train, 1+d.below(11))
	}
}

// wagonsOf tells all wagons of a yard, sorted.
func wagonsOf(s impl.Sidings) []int {
	all := slices.Concat(s.Rows...)
	slices.Sort(all)
	return all
}

func TestManyShunts(t *testing.T) {
	d := &dice{state: 184}
	for range 600 {
		s := someYard(d, 1+d.below(6), 1+d.below(40), d.below(9))
		list := someShunts(d, len(s.Rows), d.below(60), 1+d.below(12))
		end, codes := checkShunts(t, s, list)
		now := s
		for k, m := range list {
			then, code := checkShunt(t, now, m)
			if code != codes[k] {
				t.Fatalf("%v, %v: code %d at %d, one by one %d", s, list, codes[k], k, code)
			}
			now = then
		}
		if !sameYard(now, end) {
			t.Fatalf("%v, %v: %v, one by one %v", s, list, end, now)
		}
	}
}

func TestPromise20(t *testing.T) {
	d := &dice{state: 185}
	done := 0
	for range 600 {
		s := someYard(d, 2+d.below(5), 2+d.below(39), 5+d.below(4))
		list := someShunts(d, len(s.Rows), d.below(100), 1+d.below(8))
		end, codes := impl.PlayShunts(s, list)
		if !impl.SidingsOk(end) || !slices.Equal(end.Room, s.Room) || !slices.Equal(wagonsOf(end), wagonsOf(s)) {
			t.Fatalf("%v, %v: %v", s, list, end)
		}
		// What was done is undone from the last one on, and then all is as it was.
		var back []impl.Shunt
		for k := len(list) - 1; k >= 0; k-- {
			if codes[k] == impl.ShuntDone {
				back = append(back, impl.Undo(list[k]))
			}
		}
		start, codes := impl.PlayShunts(end, back)
		if !sameYard(start, s) || slices.ContainsFunc(codes, func(code int) bool { return code != impl.ShuntDone }) {
			t.Fatalf("%v, %v: undone %v, %v", s, list, start, codes)
		}
		done += len(back)
		train, base := someWagons(d, d.below(41), 1+d.below(9999)), 2+d.below(9)
		sorted, passes := impl.HumpSort(train, base)
		if impl.Inversions(sorted) != 0 || len(sorted) != len(train) || passes < 0 {
			t.Fatalf("HumpSort(%v, %d): %v, %d", train, base, sorted, passes)
		}
		slices.Sort(train)
		checkInts(t, "no wagon is lost", sorted, train)
	}
	if done < 5000 {
		t.Errorf("only %d were done", done)
	}
}

// TestTheHumpSortsARow takes the wagons of a row, as they stand, over the hump.
func TestTheHumpSortsARow(t *testing.T) {
	d := &dice{state: 186}
	for range 200 {
		s := someYard(d, 1+d.below(6), 40, 8)
		for row := range s.Rows {
			sorted, _ := impl.HumpSort(s.Rows[row], 2)
			s.Rows[row] = sorted
		}
		if !impl.SidingsOk(s) {
			t.Fatalf("%v", s)
		}
	}
}

// spoilYard writes into all lists of a yard, and behind each of them.
func spoilYard(s impl.Sidings) {
	for _, list := range append([][]int{s.Room}, s.Rows...) {
		spoilInts(list)
	}
	_ = append(s.Rows, []int{-7})
}

// spoilInts writes into all of the memory that a list has.
func spoilInts(list []int) {
	whole := list[:cap(list)]
	for k := range whole {
		whole[k] = -7
	}
}

// yardInOneList has its rooms and rows side by side in one list, with the room of each reaching into the next.
func yardInOneList() (impl.Sidings, []int) {
	memory := []int{4, 4, 4, 1, 2, 3, 5, 6, 0, 77, 77}
	rows := [][]int{memory[3:6], memory[6:8], memory[8:8], {-1}}
	return impl.Sidings{Room: memory[:3], Rows: rows[:3]}, memory
}

// TestShuntsLeaveTheirArgumentsAlone gives lists that would be overwritten by what is put behind their ends.
func TestShuntsLeaveTheirArgumentsAlone(t *testing.T) {
	for from := -1; from <= 3; from++ {
		for to := -1; to <= 3; to++ {
			for many := range 5 {
				s, memory := yardInOneList()
				was, lists := slices.Clone(memory), append(make([]impl.Shunt, 0, 5), shuntOf(from, to, many), shuntOf(to, from, 1), shuntOf(0, 2, 1))
				checkShunt(t, s, lists[0])
				checkShunts(t, s, lists)
				if !slices.Equal(memory, was) || !slices.Equal(s.Rows[:4][3], []int{-1}) || lists[:5][3] != (impl.Shunt{}) {
					t.Fatalf("%v: %v was %v", lists, memory, was)
				}
			}
		}
	}
	for name, s := range wrongYards() {
		was := yardCopy(s)
		then, _ := impl.ShuntOne(s, shuntOf(0, 1, 1))
		played, _ := impl.PlayShunts(s, []impl.Shunt{shuntOf(0, 1, 1)})
		spoilYard(then)
		if !sameYard(s, was) || !sameYard(played, was) {
			t.Errorf("%s: spoilt by an answer", name)
		}
		spoilYard(played)
		if !sameYard(s, was) {
			t.Errorf("%s: spoilt by what was played", name)
		}
	}
}

// TestYardAnswersShareNoMemory spoils one list of an answer after the other, and what it came from.
func TestYardAnswersShareNoMemory(t *testing.T) {
	lists := map[string][]impl.Shunt{
		"no shunt":         nil,
		"one":              {shuntOf(0, 1, 2)},
		"into an empty":    {shuntOf(0, 2, 3)},
		"all of a row":     {shuntOf(1, 2, 2)},
		"refused":          {shuntOf(0, 1, 4), shuntOf(0, 0, 1), shuntOf(2, 1, 1)},
		"there and back":   {shuntOf(0, 2, 2), shuntOf(2, 0, 2)},
		"round":            {shuntOf(0, 2, 2), shuntOf(1, 0, 2), shuntOf(2, 1, 2)},
		"drawn and pushed": {shuntOf(0, 2, 3), shuntOf(1, 0, 1), shuntOf(1, 0, 1), shuntOf(2, 1, 1)},
		"too many":         make([]impl.Shunt, 201),
	}
	for name, list := range lists {
		want, wantCodes := shuntsByWords(threeLoose(), list)
		for spoilt := -1; spoilt <= 3; spoilt++ {
			s, memory := yardInOneList()
			then, codes := impl.PlayShunts(s, list)
			again, againCodes := impl.PlayShunts(s, list)
			spoilInts(memory)
			if spoilt == 3 {
				spoilInts(codes)
			} else {
				checkInts(t, name, codes, wantCodes)
			}
			left := yardCopy(want)
			switch {
			case spoilt == -1:
				spoilInts(then.Room)
				left.Room = then.Room
			case spoilt < 3:
				spoilInts(then.Rows[spoilt])
				left.Rows[spoilt] = then.Rows[spoilt]
			}
			if !sameYard(then, left) {
				t.Errorf("%s, with %d spoilt: %v, not %v", name, spoilt, then, left)
			}
			if !sameYard(again, want) || !slices.Equal(againCodes, wantCodes) {
				t.Errorf("%s, with %d spoilt: again %v, %v", name, spoilt, again, againCodes)
			}
		}
	}
	for spoilt := range 3 {
		s, memory := yardInOneList()
		then, _ := impl.ShuntOne(s, shuntOf(0, 1, 2))
		again, _ := impl.ShuntOne(s, shuntOf(0, 1, 2))
		spoilInts(memory)
		spoilInts(then.Rows[spoilt])
		want := yardWith([]int{4, 4, 4}, []int{1}, []int{5, 6, 2, 3}, nil)
		if !sameYard(again, want) {
			t.Errorf("again %v", again)
		}
		want.Rows[spoilt] = then.Rows[spoilt]
		if !sameYard(then, want) {
			t.Errorf("with %d spoilt: %v, not %v", spoilt, then, want)
		}
	}
}

// threeLoose is yardInOneList with a list of its own for each row.
func threeLoose() impl.Sidings {
	s, _ := yardInOneList()
	return yardCopy(s)
}

func TestHumpSharesNoMemory(t *testing.T) {
	for _, given := range [][]int{{}, {3}, {3, 1, 2}, {1, 2, 3}, {2, 2, 2}} {
		memory := append(append(make([]int, 0, 9), given...), 50, 60, 70)
		was, train := slices.Clone(memory), memory[:len(given)]
		for base := 2; base <= 10; base++ {
			for digit := range 3 {
				pass, again := impl.HumpPass(train, base, digit), impl.HumpPass(train, base, digit)
				spoilInts(pass)
				_ = append(pass, 9, 9)
				checkInts(t, "the train of a pass", memory, was)
				checkInts(t, "the other pass", again, passByWords(given, base, digit))
			}
			sorted, _ := impl.HumpSort(train, base)
			again, _ := impl.HumpSort(train, base)
			spoilInts(sorted)
			_ = append(sorted, 9, 9)
			impl.Inversions(train)
			checkInts(t, "the train", memory, was)
			want, _ := humpByWords(given, base)
			checkInts(t, "the other", again, want)
		}
	}
	train := []int{3, 1, 2}
	pass, want := impl.HumpPass(train, 10, 1), []int{3, 1, 2}
	sorted, _ := impl.HumpSort(train, 10)
	spoilInts(train)
	checkInts(t, "a pass that changed nothing", pass, want)
	checkInts(t, "sorted", sorted, []int{1, 2, 3})
}

// TestYardIsTheSameHoweverOften lets many ask at once, with other questions between.
func TestYardIsTheSameHoweverOften(t *testing.T) {
	d := &dice{state: 187}
	for range 20 {
		s := someYard(d, 2+d.below(5), 40, 7)
		list := someShunts(d, len(s.Rows), 60, 8)
		train, base, digit := someWagons(d, 40, 9999), 2+d.below(9), d.below(14)
		end, codes := impl.PlayShunts(s, list)
		one, code := impl.ShuntOne(s, list[0])
		pass := impl.HumpPass(train, base, digit)
		sorted, passes := impl.HumpSort(train, base)
		pairs := impl.Inversions(train)
		var group sync.WaitGroup
		for k := range 8 {
			group.Go(func() {
				for range 5 {
					impl.PlayShunts(fullYard(), []impl.Shunt{shuntOf(0, 1, k), shuntOf(1, 0, 1)})
					impl.HumpSort(numbers(1+k, 20+k), 2+k)
					if got, gotCodes := impl.PlayShunts(s, list); !sameYard(got, end) || !slices.Equal(gotCodes, codes) {
						t.Errorf("%v, %v: %v, then %v", s, list, end, got)
					}
					if got, gotCode := impl.ShuntOne(s, list[0]); !sameYard(got, one) || gotCode != code {
						t.Errorf("%v, %v: %v, then %v", s, list[0], one, got)
					}
					checkInts(t, "a pass", impl.HumpPass(train, base, digit), pass)
					got, gotPasses := impl.HumpSort(train, base)
					checkInts(t, "sorted", got, sorted)
					if gotPasses != passes || impl.Inversions(train) != pairs || !impl.SidingsOk(s) {
						t.Errorf("%v in base %d: other answers", train, base)
					}
				}
			})
		}
		group.Wait()
	}
}

func TestYardNeverPanics(t *testing.T) {
	extremes := []int{math.MinInt, math.MinInt + 1, -2, -1, 0, 1, 2, 5, 6, 7, 10, 11, 13, 14, 39, 40, 41, 9999, 10000, math.MaxInt - 1, math.MaxInt}
	d := &dice{state: 188}
	pick := func() int { return extremes[d.below(len(extremes))] }
	picked := func(most int) []int {
		var list []int
		for range d.below(most) {
			list = append(list, pick())
		}
		return list
	}
	for range 10000 {
		s := someYard(d, d.below(8), 42, 7)
		if d.below(3) == 0 {
			s = yardWith(picked(4), picked(4), picked(4))
		}
		m := shuntOf(pick(), pick(), pick())
		if d.below(2) == 0 {
			m = shuntOf(d.below(4), d.below(4), pick())
		}
		train, base, digit := picked(5), pick(), pick()
		if d.below(2) == 0 {
			train = someWagons(d, d.below(43), 9999)
		}
		if panicsIn(func() {
			checkShunt(t, s, m)
			checkShunts(t, s, []impl.Shunt{m, impl.Undo(m), m})
			checkPass(t, train, base, digit)
			checkPass(t, train, 2+d.below(9), digit)
			checkHump(t, train, base)
		}) {
			t.Fatalf("%v, %v, %v, %d, %d", s, m, train, base, digit)
		}
	}
	if panicsIn(func() {
		impl.SidingsOk(impl.Sidings{})
		impl.ShuntOne(impl.Sidings{}, impl.Shunt{})
		impl.PlayShunts(impl.Sidings{}, nil)
		impl.PlayShunts(threeRows(), nil)
		impl.Undo(impl.Shunt{})
		impl.HumpPass(nil, 0, 0)
		impl.HumpPass(nil, 2, math.MaxInt)
		impl.HumpSort(nil, 0)
		impl.HumpSort(nil, 2)
		impl.Inversions(nil)
	}) {
		t.Error("nothing at all")
	}
}
