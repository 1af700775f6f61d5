package tests

import (
	"fmt"
	"math"
	"regexp"
	"slices"
	"strconv"
	"strings"
	"sync"
	"testing"

	"loop.example/g00075/impl"
)

func fore(id, class, metres int) impl.Unit {
	return impl.Unit{Id: id, Class: class, Metres: metres}
}

func rear(id, class, metres int) impl.Unit {
	return impl.Unit{Id: id, Class: class, Metres: metres, Back: true}
}

func form(list ...impl.Unit) []impl.Unit {
	return list
}

// rake has so many units of one class, with Ids from first on, each third of them with its rear ahead.
func rake(first, count, class int) []impl.Unit {
	var list []impl.Unit
	for k := range count {
		list = append(list, impl.Unit{Id: first + k, Class: class, Metres: 1 + 7*k%200, Back: k%3 == 2})
	}
	return list
}

func idsOf(list []impl.Unit) []int {
	var ids []int
	for _, u := range list {
		ids = append(ids, u.Id)
	}
	return ids
}

// formByWords holds every two units against each other.
func formByWords(list []impl.Unit) bool {
	if len(list) > 30 {
		return false
	}
	for k, u := range list {
		if u.Id < 1 || u.Id > 9999 || u.Class < 1 || u.Class > 9 || u.Metres < 1 || u.Metres > 200 {
			return false
		}
		for _, other := range list[:k] {
			if other.Id == u.Id {
				return false
			}
		}
	}
	return true
}

func formLenByWords(list []impl.Unit) int {
	if !formByWords(list) {
		return -1
	}
	sum := 0
	for _, u := range list {
		sum += u.Metres
	}
	return sum
}

func fittingByWords(a, b impl.Unit) bool {
	return a.Class == b.Class || a.Class <= 3 && b.Class <= 3 || a.Class > 6 && b.Class > 6
}

func runnableByWords(list []impl.Unit) bool {
	if !formByWords(list) || len(list) == 0 {
		return false
	}
	for k := range len(list) - 1 {
		if !fittingByWords(list[k], list[k+1]) {
			return false
		}
	}
	return true
}

func coupleByWords(a, b []impl.Unit) ([]impl.Unit, bool) {
	both := append(slices.Clone(a), b...)
	if !runnableByWords(a) || !runnableByWords(b) || !runnableByWords(both) {
		return nil, false
	}
	return both, true
}

func partByWords(list []impl.Unit, at int) (front, rest []impl.Unit) {
	if !formByWords(list) || at < 0 || at > len(list) {
		return nil, nil
	}
	for k, u := range list {
		if k < at {
			front = append(front, u)
		} else {
			rest = append(rest, u)
		}
	}
	return front, rest
}

// turnByWords puts each unit at the place that is as far from the end as its own was from the beginning.
func turnByWords(list []impl.Unit) []impl.Unit {
	if !formByWords(list) {
		return nil
	}
	round := make([]impl.Unit, len(list))
	for k, u := range list {
		round[len(list)-1-k] = impl.Unit{Id: u.Id, Class: u.Class, Metres: u.Metres, Back: !u.Back}
	}
	return round
}

// wholeText prints formations of any size, as long as their text may be.
func wholeText(list []impl.Unit) string {
	if !formByWords(list) {
		return ""
	}
	if len(list) == 0 {
		return "-"
	}
	text := ""
	for k, u := range list {
		if k > 0 {
			text += "+"
		}
		text += fmt.Sprintf("%c%d/%d", 'A'-1+u.Class, u.Id, u.Metres)
		if u.Back {
			text += "<"
		} else {
			text += ">"
		}
	}
	return text
}

func stockByWords(list []impl.Unit) string {
	if text := wholeText(list); len(text) <= 120 {
		return text
	}
	return ""
}

var unitPattern = regexp.MustCompile(`^([A-I])([1-9][0-9]{0,3})/([1-9][0-9]{0,2})([<>])$`)

// readStockByWords takes what looks like units, and believes it only when it is printed as the text was.
func readStockByWords(text string) ([]impl.Unit, bool) {
	if text == "-" {
		return nil, true
	}
	var list []impl.Unit
	for _, word := range strings.Split(text, "+") {
		parts := unitPattern.FindStringSubmatch(word)
		if parts == nil {
			return nil, false
		}
		id, _ := strconv.Atoi(parts[2])
		metres, _ := strconv.Atoi(parts[3])
		list = append(list, impl.Unit{Id: id, Class: int(parts[1][0]-'A') + 1, Metres: metres, Back: parts[4] == "<"})
	}
	if text == "" || stockByWords(list) != text {
		return nil, false
	}
	return list, true
}

func shuntedByWords(list []impl.Unit, cuts []int) []impl.Unit {
	if !formByWords(list) || len(cuts) > 30 {
		return nil
	}
	now := slices.Clone(list)
	for _, at := range cuts {
		if at < 0 || at > len(list) {
			return nil
		}
		front, rest := partByWords(now, at)
		now = append(rest, turnByWords(front)...)
	}
	return now
}

// checkForm asks all that takes one formation, at each place too.
func checkForm(t *testing.T, list []impl.Unit) {
	t.Helper()
	was := slices.Clone(list)
	if got := impl.FormOk(list); got != formByWords(list) {
		t.Fatalf("FormOk(%+v): %v", list, got)
	}
	if got, want := impl.FormLen(list), formLenByWords(list); got != want {
		t.Fatalf("FormLen(%+v): %d, not %d", list, got, want)
	}
	if got := impl.Runnable(list); got != runnableByWords(list) {
		t.Fatalf("Runnable(%+v): %v", list, got)
	}
	if got, want := impl.Turn(list), turnByWords(list); !slices.Equal(got, want) {
		t.Fatalf("Turn(%+v): %+v, not %+v", list, got, want)
	}
	if got, want := impl.StockText(list), stockByWords(list); got != want {
		t.Fatalf("StockText(%+v): %q, not %q", list, got, want)
	}
	for at := -2; at <= len(list)+2 && at <= 40; at++ {
		front, rest := impl.Part(list, at)
		if wantFront, wantRest := partByWords(list, at); !slices.Equal(front, wantFront) || !slices.Equal(rest, wantRest) {
			t.Fatalf("Part(%+v, %d): %+v, %+v, not %+v, %+v", list, at, front, rest, wantFront, wantRest)
		}
		checkShunted(t, list, []int{at})
	}
	if !slices.Equal(list, was) {
		t.Fatalf("%+v was %+v", list, was)
	}
}

func checkCouple(t *testing.T, a, b []impl.Unit) ([]impl.Unit, bool) {
	t.Helper()
	wasA, wasB := slices.Clone(a), slices.Clone(b)
	got, ok := impl.Couple(a, b)
	if want, wanted := coupleByWords(a, b); !slices.Equal(got, want) || ok != wanted {
		t.Fatalf("Couple(%+v, %+v): %+v, %v, not %+v, %v", a, b, got, ok, want, wanted)
	}
	if !slices.Equal(a, wasA) || !slices.Equal(b, wasB) {
		t.Fatalf("%+v was %+v, %+v was %+v", a, wasA, b, wasB)
	}
	return got, ok
}

func checkShunted(t *testing.T, list []impl.Unit, cuts []int) []impl.Unit {
	t.Helper()
	was, wasCuts := slices.Clone(list), slices.Clone(cuts)
	got := impl.Shunted(list, cuts)
	if want := shuntedByWords(list, cuts); !slices.Equal(got, want) {
		t.Fatalf("Shunted(%+v, %v): %+v, not %+v", list, cuts, got, want)
	}
	if !slices.Equal(list, was) || !slices.Equal(cuts, wasCuts) {
		t.Fatalf("%+v was %+v, %v was %v", list, was, cuts, wasCuts)
	}
	return got
}

func checkReadStock(t *testing.T, text string) bool {
	t.Helper()
	got, ok := impl.ReadStock(text)
	if want, wanted := readStockByWords(text); !slices.Equal(got, want) || ok != wanted {
		t.Fatalf("ReadStock(%q): %+v, %v, not %+v, %v", text, got, ok, want, wanted)
	}
	return ok
}

// wrongForms are each wrong in one thing alone.
func wrongForms() map[string][]impl.Unit {
	a, b, c := fore(12, 1, 25), rear(7, 2, 30), fore(5, 3, 20)
	return map[string][]impl.Unit{
		"the zero value of a unit": form(impl.Unit{}),
		"an Id of 0":               form(fore(0, 1, 25)),
		"an Id of -1":              form(fore(-1, 1, 25)),
		"an Id of one more":        form(fore(10000, 1, 25)),
		"the least Id":             form(fore(math.MinInt, 1, 25)),
		"the greatest Id":          form(fore(math.MaxInt, 1, 25)),
		"a Class of 0":             form(fore(12, 0, 25)),
		"a Class of -1":            form(fore(12, -1, 25)),
		"a Class of one more":      form(fore(12, 10, 25)),
		"the least Class":          form(fore(12, math.MinInt, 25)),
		"the greatest Class":       form(fore(12, math.MaxInt, 25)),
		"Metres of 0":              form(fore(12, 1, 0)),
		"Metres of -1":             form(fore(12, 1, -1)),
		"Metres of one more":       form(fore(12, 1, 201)),
		"the least Metres":         form(fore(12, 1, math.MinInt)),
		"the greatest Metres":      form(fore(12, 1, math.MaxInt)),
		"a wrong one with Back":    form(rear(0, 1, 25)),
		"the first wrong":          form(fore(0, 1, 25), b, c),
		"one between wrong":        form(a, fore(9, 10, 25), c),
		"the last wrong":           form(a, b, rear(9, 1, 201)),
		"one unit twice":           form(a, a),
		"one Id, else other":       form(a, rear(12, 2, 30)),
		"one Id, other Class":      form(a, fore(12, 2, 25)),
		"one Id, other Metres":     form(a, fore(12, 1, 26)),
		"one Id, other Back":       form(a, rear(12, 1, 25)),
		"one Id at the beginning":  form(a, a, b, c),
		"one Id at the end":        form(b, c, a, a),
		"one Id far apart":         form(a, b, c, fore(12, 1, 25)),
		"one Id within":            form(b, a, c, rear(12, 1, 25), fore(1, 1, 1)),
		"one Id in MaxUnits units": append(rake(1, 29, 1), fore(1, 1, 1)),
		"the last two of MaxUnits": append(rake(1, 29, 1), fore(29, 1, 1)),
		"one unit too many":        rake(1, 31, 1),
		"far too many units":       rake(1, 9000, 1),
		"a huge list":              make([]impl.Unit, 100000),
	}
}

func rightForms() map[string][]impl.Unit {
	return map[string][]impl.Unit{
		"nil":                      nil,
		"no unit":                  {},
		"room for more":            make([]impl.Unit, 0, 50),
		"one unit":                 form(fore(12, 1, 25)),
		"one unit, its rear ahead": form(rear(12, 1, 25)),
		"an Id of 1":               form(fore(1, 1, 25)),
		"the last Id":              form(fore(9999, 1, 25)),
		"a Class of 1":             form(fore(12, 1, 25)),
		"MaxClass":                 form(fore(12, 9, 25)),
		"Metres of 1":              form(fore(12, 1, 1)),
		"MaxMetal":                 form(fore(12, 1, 200)),
		"all as little as can be":  form(fore(1, 1, 1)),
		"all as great as can be":   form(rear(9999, 9, 200)),
		"alike but for the Id":     form(fore(12, 1, 25), fore(13, 1, 25)),
		"Ids that fall":            form(fore(12, 1, 25), rear(7, 1, 30), fore(3, 2, 9)),
		"Ids like Classes":         form(fore(1, 2, 3), fore(2, 3, 1), fore(3, 1, 2)),
		"all Classes":              form(fore(1, 1, 9), rear(2, 2, 8), fore(3, 3, 7), rear(4, 4, 6), fore(5, 5, 5), rear(6, 6, 4), fore(7, 7, 3), rear(8, 8, 2), fore(9, 9, 1)),
		"29 units":                 rake(1, 29, 1),
		"MaxUnits units":           rake(1, 30, 1),
		"MaxUnits of great Ids":    rake(9970, 30, 9),
	}
}

func someUnit(d *dice, id int) impl.Unit {
	return impl.Unit{Id: id, Class: 1 + d.below(9), Metres: 1 + d.below(200), Back: d.below(2) == 0}
}

// someForm has units of Ids that are thrown, with few digits and with many; of a runnable one each fits the one ahead of it.
func someForm(d *dice, count int, runnable bool) []impl.Unit {
	var list []impl.Unit
	for len(list) < count {
		u := someUnit(d, 1+d.below([]int{9, 99, 999, 9999}[d.below(4)]))
		if runnable && len(list) > 0 && !fittingByWords(list[len(list)-1], u) {
			u.Class = list[0].Class
		}
		if !slices.Contains(idsOf(list), u.Id) {
			list = append(list, u)
		}
	}
	return list
}

// formOfText has a text of so many bytes (5 or more), of which each unit takes 10 at most.
func formOfText(size int) []impl.Unit {
	count := (size + 11) / 11
	spare := 11*count - 1 - size
	var list []impl.Unit
	for k := range count {
		id, metres := 1000+k, 100+k
		for ; spare > 0 && metres > 9; spare-- {
			metres /= 10
		}
		for power := 100; spare > 0 && power > 0; power /= 10 {
			id, spare = power+k, spare-1
		}
		list = append(list, impl.Unit{Id: id, Class: 1 + k%9, Metres: metres, Back: k%2 == 1})
	}
	return list
}

func TestStockConstants(t *testing.T) {
	if impl.MaxUnits != 30 || impl.MaxClass != 9 || impl.MaxStockText != 120 || impl.MaxMetal != 200 {
		t.Error(impl.MaxUnits, impl.MaxClass, impl.MaxStockText, impl.MaxMetal)
	}
}

func TestFormOk(t *testing.T) {
	for name, list := range rightForms() {
		if !impl.FormOk(list) {
			t.Errorf("%s: not right", name)
		}
		checkForm(t, list)
	}
	for name, list := range wrongForms() {
		if impl.FormOk(list) {
			t.Errorf("%s: not wrong", name)
		}
	}
	for count := 27; count <= 34; count++ {
		checkForm(t, rake(5, count, 4))
	}
	limits := []int{math.MinInt, -1, 0, 1, 2, 8, 9, 10, 199, 200, 201, 9998, 9999, 10000, math.MaxInt}
	for _, id := range limits {
		for _, class := range limits {
			for _, metres := range limits {
				checkForm(t, form(fore(id, class, metres)))
				checkForm(t, form(rear(id, class, metres)))
			}
		}
	}
}

// TestSameIdAtAnyPlaces puts one Id at each two places of a formation.
func TestSameIdAtAnyPlaces(t *testing.T) {
	for _, count := range []int{2, 5, 30} {
		for a := range count {
			for b := range a {
				list := rake(100, count, 1)
				list[b].Id = list[a].Id
				if impl.FormOk(list) || impl.FormLen(list) != -1 || impl.Runnable(list) || impl.StockText(list) != "" {
					t.Errorf("%d units, one Id at %d and %d", count, b, a)
				}
				if len(impl.Turn(list)) != 0 || len(impl.Shunted(list, nil)) != 0 {
					t.Errorf("%d units, one Id at %d and %d: turned", count, b, a)
				}
			}
		}
	}
}

// TestWrongForms holds every function against a list that is no formation.
func TestWrongForms(t *testing.T) {
	right := rake(500, 2, 1)
	for name, list := range wrongForms() {
		was := slices.Clone(list)
		if impl.FormLen(list) != -1 || impl.Runnable(list) || impl.StockText(list) != "" || len(impl.Turn(list)) != 0 {
			t.Errorf("%s: %d, %v, %q, %v", name, impl.FormLen(list), impl.Runnable(list), impl.StockText(list), impl.Turn(list))
		}
		for _, at := range []int{math.MinInt, -1, 0, 1, len(list), len(list) + 1, math.MaxInt} {
			if front, rest := impl.Part(list, at); len(front) != 0 || len(rest) != 0 {
				t.Errorf("%s: parted at %d", name, at)
			}
			if len(impl.Shunted(list, []int{at})) != 0 {
				t.Errorf("%s: shunted at %d", name, at)
			}
		}
		if len(impl.Shunted(list, nil)) != 0 || len(impl.Shunted(list, make([]int, 31))) != 0 {
			t.Errorf("%s: shunted", name)
		}
		for _, pair := range [][2][]impl.Unit{{list, right}, {right, list}, {list, list}, {list, nil}, {nil, list}} {
			if both, ok := impl.Couple(pair[0], pair[1]); ok || len(both) != 0 {
				t.Errorf("%s: coupled %v", name, both)
			}
		}
		if !slices.Equal(list, was) || !slices.Equal(right, rake(500, 2, 1)) {
			t.Errorf("%s: changed", name)
		}
	}
}

func TestFormLenByHand(t *testing.T) {
	cases := map[string]struct {
		list []impl.Unit
		want int
	}{
		"nil":                 {nil, 0},
		"no unit":             {form(), 0},
		"one unit":            {form(fore(12, 1, 25)), 25},
		"one of 1 metre":      {form(fore(12, 1, 1)), 1},
		"one of MaxMetal":     {form(rear(12, 1, 200)), 200},
		"Back counts as well": {form(fore(12, 1, 25), rear(7, 1, 30)), 55},
		"they need not fit":   {form(fore(12, 1, 25), fore(7, 9, 30), fore(3, 5, 100)), 155},
		"one Id":              {form(fore(12, 1, 25), fore(12, 1, 30)), -1},
		"a wrong unit":        {form(fore(12, 1, 25), fore(13, 1, 0)), -1},
		"one unit too many":   {rake(1, 31, 1), -1},
	}
	for name, c := range cases {
		if got := impl.FormLen(c.list); got != c.want {
			t.Errorf("%s: %d, not %d", name, got, c.want)
		}
		checkForm(t, c.list)
	}
	longest := rake(1, 30, 1)
	for k := range longest {
		longest[k].Metres = 200
	}
	if got := impl.FormLen(longest); got != 6000 {
		t.Errorf("the longest: %d", got)
	}
}

func TestFitting(t *testing.T) {
	fit := map[[2]int]bool{
		{1, 1}: true, {3, 1}: true, {2, 3}: true, {1, 3}: true, {3, 3}: true, {3, 4}: false, {1, 4}: false, {2, 6}: false,
		{4, 4}: true, {4, 5}: false, {5, 5}: true, {5, 6}: false, {4, 6}: false, {6, 6}: true, {6, 7}: false, {5, 8}: false,
		{7, 7}: true, {7, 9}: true, {7, 8}: true, {8, 9}: true, {9, 9}: true, {1, 9}: false, {3, 7}: false, {2, 8}: false,
	}
	for classes, want := range fit {
		a, b := fore(1, classes[0], 10), fore(2, classes[1], 10)
		if impl.Fitting(a, b) != want || impl.Fitting(b, a) != want {
			t.Errorf("classes %v: %v, %v", classes, impl.Fitting(a, b), impl.Fitting(b, a))
		}
	}
	// What the units are beside their Classes is not asked.
	classes := append(numbers(-3, 13), math.MinInt, math.MinInt+1, math.MaxInt-1, math.MaxInt)
	for _, one := range classes {
		for _, two := range classes {
			for _, other := range []impl.Unit{{}, fore(5, 0, 7), rear(5, 0, 8), rear(-1, 0, 5000)} {
				a, b := fore(5, one, 7), other
				b.Class = two
				if got := impl.Fitting(a, b); got != fittingByWords(a, b) || impl.Fitting(b, a) != got {
					t.Errorf("Fitting(%+v, %+v): %v", a, b, got)
				}
			}
		}
	}
}

func TestRunnableByHand(t *testing.T) {
	cases := map[string]struct {
		classes []int
		want    bool
	}{
		"no unit":                        {nil, false},
		"one unit":                       {[]int{5}, true},
		"one Class":                      {[]int{5, 5, 5}, true},
		"all up to 3":                    {[]int{3, 1, 2, 3}, true},
		"all above 6":                    {[]int{7, 9, 8, 7}, true},
		"3 and 4":                        {[]int{3, 4}, false},
		"6 and 7":                        {[]int{6, 7}, false},
		"1 and 9":                        {[]int{1, 9}, false},
		"4 and 5":                        {[]int{4, 5}, false},
		"the first two don't fit":        {[]int{4, 3, 3, 3}, false},
		"the last two don't fit":         {[]int{1, 2, 3, 4}, false},
		"two in the midst don't fit":     {[]int{1, 2, 7, 8}, false},
		"one that fits none":             {[]int{1, 5, 1}, false},
		"the first and the last fit":     {[]int{1, 9, 2}, false},
		"the first and last don't, once": {[]int{1, 1, 9}, false},
		"three, each two fit":            {[]int{9, 7, 8}, true},
	}
	for name, c := range cases {
		var list []impl.Unit
		for k, class := range c.classes {
			list = append(list, impl.Unit{Id: 40 - k, Class: class, Metres: 10, Back: k%2 == 0})
		}
		if got := impl.Runnable(list); got != c.want {
			t.Errorf("%s: %v", name, got)
		}
		checkForm(t, list)
	}
	if !impl.Runnable(rake(1, 30, 1)) || impl.Runnable(rake(1, 31, 1)) || impl.Runnable(nil) || impl.Runnable(form()) {
		t.Error("MaxUnits units, one more, and none")
	}
	if impl.Runnable(form(fore(1, 0, 1), fore(2, 0, 1))) || impl.Runnable(form(fore(1, 1, 1), fore(1, 1, 1))) {
		t.Error("no formation")
	}
}

func TestCoupleByHand(t *testing.T) {
	a, b, c := fore(12, 1, 25), rear(7, 3, 30), fore(5, 2, 20)
	cases := map[string]struct {
		front, behind []impl.Unit
		want          []impl.Unit
	}{
		"one and one":                        {form(a), form(b), form(a, b)},
		"the other way":                      {form(b), form(a), form(b, a)},
		"two and one":                        {form(a, b), form(c), form(a, b, c)},
		"one and two":                        {form(a), form(b, c), form(a, b, c)},
		"one Class that fits no other":       {form(fore(1, 5, 9)), form(fore(2, 5, 9)), form(fore(1, 5, 9), fore(2, 5, 9))},
		"Classes above 6":                    {form(fore(1, 7, 9)), form(fore(2, 9, 9)), form(fore(1, 7, 9), fore(2, 9, 9))},
		"3 and 4":                            {form(b), form(fore(1, 4, 9)), nil},
		"4 and 3":                            {form(fore(1, 4, 9)), form(b), nil},
		"6 and 7":                            {form(fore(1, 6, 9)), form(fore(2, 7, 9)), nil},
		"runnable each, but they don't fit":  {form(a, b), form(fore(1, 8, 9), fore(2, 9, 9)), nil},
		"an Id in common at the coupling":    {form(a, b), form(fore(7, 1, 9), c), nil},
		"an Id in common far apart":          {form(a, b), form(c, fore(12, 1, 9)), nil},
		"a formation with itself":            {form(a, b), form(a, b), nil},
		"nothing ahead":                      {nil, form(a), nil},
		"nothing behind":                     {form(a), nil, nil},
		"nothing at all":                     {nil, nil, nil},
		"empty lists":                        {form(), form(), nil},
		"the front one is not runnable":      {form(fore(1, 5, 9), a), form(b), nil},
		"the one behind is not runnable":     {form(a), form(b, fore(1, 5, 9)), nil},
		"the front one is no formation":      {form(a, a), form(b), nil},
		"the one behind is no formation":     {form(a), form(fore(3, 1, 0)), nil},
		"a wrong unit that fits":             {form(a), form(fore(3, 0, 5)), nil},
		"MaxUnits together":                  {rake(1, 29, 1), rake(30, 1, 2), append(rake(1, 29, 1), rake(30, 1, 2)...)},
		"one more than MaxUnits":             {rake(1, 30, 1), rake(31, 1, 1), nil},
		"one more, in the middle":            {rake(1, 15, 1), rake(16, 16, 1), nil},
		"MaxUnits in the middle":             {rake(1, 15, 7), rake(16, 15, 7), append(rake(1, 15, 7), rake(16, 15, 7)...)},
		"MaxUnits each":                      {rake(1, 30, 1), rake(31, 30, 1), nil},
		"far too many":                       {rake(1, 30, 1), rake(31, 9000, 1), nil},
		"Back does not matter to a coupling": {form(rear(1, 1, 9)), form(fore(2, 1, 9)), form(rear(1, 1, 9), fore(2, 1, 9))},
	}
	for name, x := range cases {
		both, ok := impl.Couple(x.front, x.behind)
		if ok != (x.want != nil) || !slices.Equal(both, x.want) {
			t.Errorf("%s: %+v, %v", name, both, ok)
		}
		checkCouple(t, x.front, x.behind)
	}
}

func TestPartByHand(t *testing.T) {
	a, b, c := fore(12, 1, 25), rear(7, 9, 30), fore(5, 4, 20)
	three := form(a, b, c)
	cases := map[string]struct {
		list        []impl.Unit
		at          int
		front, rest []impl.Unit
	}{
		"a place of -1":          {three, -1, nil, nil},
		"a place of 0":           {three, 0, nil, three},
		"behind the first":       {three, 1, form(a), form(b, c)},
		"ahead of the last":      {three, 2, form(a, b), form(c)},
		"all units":              {three, 3, three, nil},
		"one more":               {three, 4, nil, nil},
		"the least place":        {three, math.MinInt, nil, nil},
		"the greatest place":     {three, math.MaxInt, nil, nil},
		"one unit, at 0":         {form(a), 0, nil, form(a)},
		"one unit, at 1":         {form(a), 1, form(a), nil},
		"one unit, at 2":         {form(a), 2, nil, nil},
		"nothing, at 0":          {nil, 0, nil, nil},
		"nothing, at 1":          {nil, 1, nil, nil},
		"nothing, at -1":         {form(), -1, nil, nil},
		"MaxUnits units":         {rake(1, 30, 1), 30, rake(1, 30, 1), nil},
		"MaxUnits, one more":     {rake(1, 30, 1), 31, nil, nil},
		"one unit too many":      {rake(1, 31, 1), 1, nil, nil},
		"one Id in both parts":   {form(a, b, a), 2, nil, nil},
		"a wrong one behind":     {form(a, b, fore(1, 1, 201)), 1, nil, nil},
		"a wrong one ahead":      {form(fore(1, 1, 201), a, b), 1, nil, nil},
		"what does not fit, too": {form(fore(1, 3, 9), fore(2, 4, 9)), 1, form(fore(1, 3, 9)), form(fore(2, 4, 9))},
	}
	for name, x := range cases {
		front, rest := impl.Part(x.list, x.at)
		if !slices.Equal(front, x.front) || !slices.Equal(rest, x.rest) {
			t.Errorf("%s: %+v, %+v", name, front, rest)
		}
		checkForm(t, x.list)
	}
}

func TestTurnByHand(t *testing.T) {
	cases := map[string]struct {
		list, want []impl.Unit
	}{
		"nil":                     {nil, nil},
		"no unit":                 {form(), nil},
		"one unit":                {form(fore(12, 1, 25)), form(rear(12, 1, 25))},
		"one unit with Back":      {form(rear(12, 1, 25)), form(fore(12, 1, 25))},
		"two":                     {form(fore(12, 1, 25), rear(7, 2, 30)), form(fore(7, 2, 30), rear(12, 1, 25))},
		"three":                   {form(fore(1, 1, 2), fore(2, 5, 3), rear(3, 9, 4)), form(fore(3, 9, 4), rear(2, 5, 3), rear(1, 1, 2))},
		"one Id":                  {form(fore(1, 1, 2), fore(1, 1, 2)), nil},
		"one unit too many":       {rake(1, 31, 1), nil},
		"all of them with Back":   {form(rear(1, 1, 1), rear(2, 1, 1)), form(fore(2, 1, 1), fore(1, 1, 1))},
		"none of them with Back":  {form(fore(1, 1, 1), fore(2, 1, 1)), form(rear(2, 1, 1), rear(1, 1, 1))},
		"a wrong one among right": {form(fore(1, 1, 2), fore(2, 10, 2)), nil},
	}
	for name, c := range cases {
		if got := impl.Turn(c.list); !slices.Equal(got, c.want) {
			t.Errorf("%s: %+v", name, got)
		}
		checkForm(t, c.list)
	}
}

func TestStockTextByHand(t *testing.T) {
	cases := map[string]struct {
		list []impl.Unit
		want string
	}{
		"the document's":          {form(fore(12, 1, 25), rear(7, 1, 25)), "A12/25>+A7/25<"},
		"nil":                     {nil, "-"},
		"no unit":                 {form(), "-"},
		"one unit":                {form(fore(12, 1, 25)), "A12/25>"},
		"one unit with Back":      {form(rear(12, 1, 25)), "A12/25<"},
		"as short as can be":      {form(fore(1, 1, 1)), "A1/1>"},
		"as long as can be":       {form(rear(9999, 9, 200)), "I9999/200<"},
		"each Class":              {form(fore(1, 1, 1), fore(2, 2, 1), fore(3, 3, 1), fore(4, 4, 1), fore(5, 5, 1), fore(6, 6, 1), fore(7, 7, 1), fore(8, 8, 1), fore(9, 9, 1)), "A1/1>+B2/1>+C3/1>+D4/1>+E5/1>+F6/1>+G7/1>+H8/1>+I9/1>"},
		"noughts within":          {form(fore(1000, 4, 100), rear(10, 6, 10)), "D1000/100>+F10/10<"},
		"one Id":                  {form(fore(1, 1, 1), fore(1, 2, 1)), ""},
		"an Id of 0":              {form(fore(0, 1, 1)), ""},
		"a Class of 0":            {form(fore(1, 0, 1)), ""},
		"a Class of one more":     {form(fore(1, 10, 1)), ""},
		"Metres of one more":      {form(fore(1, 1, 201)), ""},
		"a wrong one behind":      {form(fore(1, 1, 1), fore(2, 1, 0)), ""},
		"one unit too many":       {rake(1, 31, 1), ""},
		"MaxUnits units":          {rake(1, 30, 1), ""},
		"eleven of 10 bytes each": {formOfText(120), "A1000/100>+B1001/101<+C1002/102>+D1003/103<+E1004/104>+F1005/105<+G1006/106>+H1007/107<+I1008/108>+A1009/109<+B1010/110>"},
		"one byte more":           {formOfText(121), ""},
	}
	for name, c := range cases {
		if got := impl.StockText(c.list); got != c.want {
			t.Errorf("%s: %q, not %q", name, got, c.want)
		}
		checkForm(t, c.list)
	}
}

// TestTextsOfEachLength has formations with texts around MaxStockText, and of each length below.
func TestTextsOfEachLength(t *testing.T) {
	for size := 5; size <= 200; size++ {
		list := formOfText(size)
		text := wholeText(list)
		if len(text) != size {
			t.Fatalf("a text of %d bytes, not %d", len(text), size)
		}
		printed := impl.StockText(list)
		back, ok := impl.ReadStock(text)
		switch {
		case size <= 120 && (printed != text || !ok || !slices.Equal(back, list)):
			t.Errorf("%d bytes: %q, read as %+v, %v", size, printed, back, ok)
		case size > 120 && (printed != "" || ok || len(back) != 0):
			t.Errorf("%d bytes: %q, read as %+v, %v", size, printed, back, ok)
		}
	}
	// The shortest text of MaxUnits units has 200 bytes.
	short := rake(1, 30, 1)
	for k := range short {
		short[k].Metres = 1
	}
	for count := 1; count <= 30; count++ {
		checkForm(t, short[:count])
		checkReadStock(t, wholeText(short[:count]))
	}
	if impl.StockText(short[:18]) == "" || impl.StockText(short[:19]) != "" {
		t.Error("18 units and 19")
	}
}

func TestReadStockByHand(t *testing.T) {
	a, b := fore(12, 1, 25), rear(7, 9, 30)
	right := map[string][]impl.Unit{
		"-":               nil,
		"A12/25>":         form(a),
		"A12/25<":         form(rear(12, 1, 25)),
		"A12/25>+I7/30<":  form(a, b),
		"I7/30<+A12/25>":  form(b, a),
		"A1/1>":           form(fore(1, 1, 1)),
		"I9999/200<":      form(rear(9999, 9, 200)),
		"E100/10>+E10/9>": form(fore(100, 5, 10), fore(10, 5, 9)),
	}
	for text, want := range right {
		if got, ok := impl.ReadStock(text); !ok || !slices.Equal(got, want) {
			t.Errorf("%q: %+v, %v", text, got, ok)
		}
		checkReadStock(t, text)
	}
	for class := 1; class <= 9; class++ {
		text := string(rune('A'+class-1)) + "5/6>"
		if got, ok := impl.ReadStock(text); !ok || !slices.Equal(got, form(fore(5, class, 6))) {
			t.Errorf("%q: %+v, %v", text, got, ok)
		}
	}
}

// wrongTexts are each wrong in one thing alone.
func wrongTexts() map[string]string {
	return map[string]string{
		"empty":                             "",
		"a blank":                           " ",
		"a letter that is none":             "J12/25>",
		"the sign ahead of A":               "@12/25>",
		"a letter far off":                  "Z12/25>",
		"a small letter":                    "a12/25>",
		"the last small letter":             "i12/25>",
		"no letter":                         "12/25>",
		"a digit for a letter":              "112/25>",
		"two letters":                       "AA12/25>",
		"a letter behind the Id":            "12A/25>",
		"a nought ahead of the Id":          "A012/25>",
		"a nought ahead of the Metres":      "A12/025>",
		"many noughts ahead":                "A12/0000000025>",
		"an Id of 0":                        "A0/25>",
		"an Id of noughts":                  "A00/25>",
		"Metres of 0":                       "A12/0>",
		"Metres of noughts":                 "A12/00>",
		"no Id":                             "A/25>",
		"no Metres":                         "A12/>",
		"no number":                         "A/>",
		"the Id too great":                  "A10000/25>",
		"the Metres too great":              "A12/201>",
		"the Metres far too great":          "A12/9999>",
		"an Id that wraps round to 12":      "A18446744073709551628/25>",
		"Metres that wrap round to 25":      "A12/18446744073709551641>",
		"an Id that wraps round 32 bits":    "A4294967308/25>",
		"an Id of far too many digits":      "A" + strings.Repeat("9", 100) + "/25>",
		"Metres of far too many digits":     "A12/" + strings.Repeat("1", 100) + ">",
		"a + ahead of the Id":               "A+12/25>",
		"a - ahead of the Id":               "A-12/25>",
		"a + ahead of the Metres":           "A12/+25>",
		"a - ahead of the Metres":           "A12/-25>",
		"an Id of other signs":              "A1_2/25>",
		"an Id with a point":                "A1.2/25>",
		"an Id of base 16":                  "A0x1/25>",
		"an Id of letters":                  "AB/25>",
		"no /":                              "A1225>",
		"two /":                             "A12//25>",
		"a third number":                    "A12/25/1>",
		"another sign for /":                "A12:25>",
		"a \\ for /":                        "A12\\25>",
		"no end":                            "A12/25",
		"no end at the first":               "A12/25+B7/30<",
		"no end at the last":                "A12/25>+B7/30",
		"> doubled":                         "A12/25>>",
		"< doubled":                         "A12/25<<",
		"> and <":                           "A12/25><",
		"> ahead":                           ">A12/25>",
		"> behind the Id":                   "A12>/25",
		"another sign for >":                "A12/25=",
		"another sign for >, beside it":     "A12/25?",
		"a + ahead":                         "+A12/25>",
		"a + behind":                        "A12/25>+",
		"a + doubled":                       "A12/25>++B7/30<",
		"two + behind":                      "A12/25>++",
		"a + alone":                         "+",
		"no +":                              "A12/25>B7/30<",
		"a blank for +":                     "A12/25> B7/30<",
		"a , for +":                         "A12/25>,B7/30<",
		"a blank ahead":                     " A12/25>",
		"a blank behind":                    "A12/25> ",
		"a blank behind the letter":         "A 12/25>",
		"a blank behind the Id":             "A12 /25>",
		"a blank behind /":                  "A12/ 25>",
		"a blank behind the Metres":         "A12/25 >",
		"blanks around +":                   "A12/25> + B7/30<",
		"a tab behind":                      "A12/25>\t",
		"a byte 10 behind":                  "A12/25>\n",
		"a byte 13 behind":                  "A12/25>\r",
		"a byte 0 behind":                   "A12/25>\x00",
		"a byte 0 ahead":                    "\x00A12/25>",
		"a byte 0 for a digit":              "A1\x00/25>",
		"a byte 0 for the end":              "A12/25\x00",
		"a byte 0 alone":                    "\x00",
		"a byte too many":                   "A12/25>x",
		"a digit too many":                  "A12/25>1",
		"a byte above 127":                  "A12/25\xbe",
		"a byte above 127 behind":           "A12/25>\x80",
		"a byte above 127 ahead":            "\xc1A12/25>",
		"a byte of 255":                     "\xff12/25>",
		"a letter of another alphabet":      "Α12/25>",
		"digits of another alphabet":        "A١٢/25>",
		"a wide digit":                      "A１/25>",
		"a dash of another kind":            "–",
		"one Id":                            "A12/25>+A12/25>",
		"one Id, else other":                "A12/25>+B12/30<",
		"one Id far apart":                  "A12/25>+B7/30<+C3/9>+D12/1<",
		"- with a byte behind":              "-A",
		"- with a - behind":                 "--",
		"- with a blank behind":             "- ",
		"- with a blank ahead":              " -",
		"- with a byte 10 behind":           "-\n",
		"- with a + behind":                 "-+",
		"- ahead of a unit":                 "-A12/25>",
		"- and a unit":                      "-+A12/25>",
		"a unit and -":                      "A12/25>+-",
		"a unit with a - behind":            "A12/25>-",
		"a letter alone":                    "A",
		"a letter and an Id":                "A12",
		"all but the Metres":                "A12/",
		"a second unit that is just begun":  "A12/25>+B",
		"a second unit without an Id":       "A12/25>+B/30<",
		"a second unit with a wrong letter": "A12/25>+J7/30<",
		"a second unit with a nought":       "A12/25>+B07/30<",
		"a second unit too long":            "A12/25>+B7/201<",
		"too long for a text":               wholeText(formOfText(121)),
		"far too long for a text":           wholeText(formOfText(330)),
		"one - too many, far too long":      strings.Repeat("-", 121),
		"MaxStockText noughts":              strings.Repeat("0", 120),
		"a unit and many blanks":            "A12/25>" + strings.Repeat(" ", 200),
		"a huge text":                       strings.Repeat("A12/25>+", 1000000),
	}
}

func TestWrongTexts(t *testing.T) {
	for name, text := range wrongTexts() {
		if got, ok := impl.ReadStock(text); ok || len(got) != 0 {
			t.Errorf("%s: %+v, %v", name, got, ok)
		}
		if len(text) < 1000 {
			checkReadStock(t, text)
		}
	}
}

// TestSpoiltTexts takes a byte out of right texts, puts each byte in at each place, and in the place of another.
func TestSpoiltTexts(t *testing.T) {
	read := 0
	count := func(text string) {
		if checkReadStock(t, text) {
			read++
		}
	}
	for _, text := range []string{"-", "A1/1>", "A12/25>+A7/25<", "I9999/200<+B10/99>+E100/9<", wholeText(formOfText(120))} {
		for at := range len(text) + 1 {
			count(text[:at])
			count(text[at:])
			for sign := range 256 {
				one := string([]byte{byte(sign)})
				count(text[:at] + one + text[at:])
				if at < len(text) {
					count(text[:at] + one + text[at+1:])
				}
			}
			if at < len(text) {
				count(text[:at] + text[at+1:])
			}
			if at+1 < len(text) {
				count(text[:at] + text[at+1:at+2] + text[at:at+1] + text[at+2:])
			}
		}
	}
	if read < 1000 {
		t.Errorf("only %d were read", read)
	}
}

// TestAllShortTexts holds the reader against the words for each text of few signs.
func TestAllShortTexts(t *testing.T) {
	read := 0
	for _, c := range []struct {
		ahead, signs string
		most         int
	}{{"", "AJ019/><+- ", 5}, {"", "A10/>+-", 6}, {"B7/8>", "AI07/<+", 6}, {"C12", "015/>+-", 5}, {"C12/", "01289>", 5}, {"D", "0129/5>", 6}} {
		manyLists(c.most, []byte(c.signs), func(list []byte) {
			if checkReadStock(t, c.ahead+string(list)) {
				read++
			}
		})
	}
	if read < 100 {
		t.Errorf("only %d were read", read)
	}
}

func TestShuntedByHand(t *testing.T) {
	a, b, c := fore(12, 1, 25), rear(7, 9, 30), fore(5, 4, 20)
	turnedA, turnedB, turnedC := rear(12, 1, 25), fore(7, 9, 30), rear(5, 4, 20)
	three := form(a, b, c)
	cases := map[string]struct {
		list []impl.Unit
		cuts []int
		want []impl.Unit
	}{
		"no cut":                   {three, nil, three},
		"an empty list of cuts":    {three, []int{}, three},
		"a cut of 0":               {three, []int{0}, three},
		"a cut of 1":               {three, []int{1}, form(b, c, turnedA)},
		"a cut of 2":               {three, []int{2}, form(c, turnedB, turnedA)},
		"a cut of all":             {three, []int{3}, form(turnedC, turnedB, turnedA)},
		"a cut of one more":        {three, []int{4}, nil},
		"a cut of -1":              {three, []int{-1}, nil},
		"the least cut":            {three, []int{math.MinInt}, nil},
		"the greatest cut":         {three, []int{math.MaxInt}, nil},
		"two of all":               {three, []int{3, 3}, three},
		"one, and one":             {three, []int{1, 1}, form(c, turnedA, turnedB)},
		"one, and two":             {three, []int{1, 2}, form(turnedA, turnedC, turnedB)},
		"two, and one":             {three, []int{2, 1}, form(turnedB, turnedA, turnedC)},
		"each one once":            {three, []int{1, 1, 1}, form(turnedA, turnedB, turnedC)},
		"each one twice":           {three, []int{1, 1, 1, 1, 1, 1}, three},
		"a wrong cut first":        {three, []int{-1, 1, 2}, nil},
		"a wrong cut amid others":  {three, []int{1, 4, 2}, nil},
		"a wrong cut at last":      {three, []int{1, 2, -1}, nil},
		"MaxUnits cuts":            {three, make([]int, 30), three},
		"MaxUnits cuts of 1":       {three, slices.Repeat([]int{1}, 30), three},
		"MaxUnits cuts of all":     {three, slices.Repeat([]int{3}, 30), three},
		"29 cuts of all":           {three, slices.Repeat([]int{3}, 29), form(turnedC, turnedB, turnedA)},
		"one more cut":             {three, make([]int, 31), nil},
		"far too many cuts":        {three, make([]int, 100000), nil},
		"one unit":                 {form(a), []int{1}, form(turnedA)},
		"one unit, twice":          {form(a), []int{1, 1}, form(a)},
		"one unit, a cut of 2":     {form(a), []int{2}, nil},
		"nothing, no cut":          {nil, nil, nil},
		"nothing, a cut of 0":      {nil, []int{0, 0}, nil},
		"nothing, a cut of 1":      {nil, []int{1}, nil},
		"no formation":             {form(a, a), []int{1}, nil},
		"one unit too many":        {rake(1, 31, 1), []int{1}, nil},
		"MaxUnits units, all cut":  {rake(1, 30, 1), []int{30, 30}, rake(1, 30, 1)},
		"MaxUnits units, one more": {rake(1, 30, 1), []int{31}, nil},
	}
	for name, x := range cases {
		if got := impl.Shunted(x.list, x.cuts); !slices.Equal(got, x.want) {
			t.Errorf("%s: %+v, not %+v", name, got, x.want)
		}
		checkShunted(t, x.list, x.cuts)
	}
}

// TestAllSmallForms holds each function against the words for every list of few units, right ones and wrong ones.
func TestAllSmallForms(t *testing.T) {
	var choices []impl.Unit
	for id := range 4 {
		for _, class := range []int{1, 3, 4, 7} {
			choices = append(choices, impl.Unit{Id: id, Class: class, Metres: 10*class - id, Back: (id+class)%2 == 0})
		}
	}
	right := 0
	manyLists(3, choices, func(list []impl.Unit) {
		checkForm(t, list)
		if impl.FormOk(list) {
			right++
		}
		if len(list) == 3 {
			checkCouple(t, list[:1], list[1:])
			checkCouple(t, list[:2], list[2:])
			checkCouple(t, list, list[1:2])
		}
	})
	// No unit; one of 3 Ids and 4 Classes; two of other Ids; all three Ids in 6 orders.
	if want := 1 + 12 + 6*16 + 6*64; right != want {
		t.Errorf("%d are right, not %d", right, want)
	}
}

func TestAllShuntsOfFewUnits(t *testing.T) {
	list := form(fore(3, 1, 5), rear(1, 9, 6), fore(2, 5, 7))
	for count := range len(list) + 1 {
		manyLists(4, numbers(-1, count+1), func(cuts []int) { checkShunted(t, list[:count], cuts) })
	}
}

func TestManyForms(t *testing.T) {
	d := &dice{state: 151}
	coupled := 0
	for range 3000 {
		list := someForm(d, d.below(31), d.below(2) == 0)
		checkForm(t, list)
		checkReadStock(t, wholeText(list))
		other := someForm(d, d.below(31-len(list)/2), d.below(2) == 0)
		if len(other) > 0 && len(list) > 0 && d.below(2) == 0 {
			for k := range other {
				other[k].Class = list[len(list)-1].Class
			}
		}
		if _, ok := checkCouple(t, list, other); ok {
			coupled++
		}
		var cuts []int
		for range d.below(33) {
			cuts = append(cuts, d.below(len(list)+1))
		}
		if d.below(5) == 0 && len(cuts) > 0 {
			cuts[d.below(len(cuts))] = -1 + d.below(2)*(len(list)+2)
		}
		checkShunted(t, list, cuts)
	}
	if coupled < 100 {
		t.Errorf("only %d were coupled", coupled)
	}
}

// checkPromise17 puts a right formation through all that leaves it as it was.
func checkPromise17(t *testing.T, list []impl.Unit) {
	t.Helper()
	round := impl.Turn(list)
	if again := impl.Turn(round); !slices.Equal(again, list) || len(round) != len(list) {
		t.Fatalf("%+v: turned twice %+v", list, again)
	}
	if impl.FormLen(round) != impl.FormLen(list) || impl.Runnable(round) != impl.Runnable(list) {
		t.Fatalf("%+v: turned %+v", list, round)
	}
	if len(list) > 0 && slices.Equal(round, list) {
		t.Fatalf("%+v: not turned", list)
	}
	for at := range len(list) + 1 {
		front, rest := impl.Part(list, at)
		if len(front) != at || !slices.Equal(slices.Concat(front, rest), list) {
			t.Fatalf("%+v: parted at %d %+v, %+v", list, at, front, rest)
		}
		if impl.FormLen(front)+impl.FormLen(rest) != impl.FormLen(list) {
			t.Fatalf("%+v: the parts at %d are not as long", list, at)
		}
		both, ok := impl.Couple(front, rest)
		if want := impl.Runnable(list) && at > 0 && at < len(list); ok != want || want && !slices.Equal(both, list) {
			t.Fatalf("%+v: put together at %d %+v, %v", list, at, both, ok)
		}
		if once := impl.Shunted(list, []int{at}); !slices.Equal(once, slices.Concat(rest, impl.Turn(front))) {
			t.Fatalf("%+v: shunted at %d %+v", list, at, once)
		}
	}
	text := impl.StockText(list)
	if text == "" && len(wholeText(list)) <= 120 {
		t.Fatalf("%+v: no text", list)
	}
	if back, ok := impl.ReadStock(text); ok != (text != "") || ok && !slices.Equal(back, list) {
		t.Fatalf("%+v: %q is read as %+v, %v", list, text, back, ok)
	} else if ok && impl.StockText(back) != text {
		t.Fatalf("%q is printed as %q", text, impl.StockText(back))
	}
}

func TestPromise17(t *testing.T) {
	for _, list := range rightForms() {
		checkPromise17(t, list)
	}
	for size := 5; size <= 130; size++ {
		checkPromise17(t, formOfText(size))
	}
	d := &dice{state: 152}
	for k := range 3000 {
		checkPromise17(t, someForm(d, d.below(31), k%2 == 0))
		checkPromise17(t, someForm(d, d.below(14), k%2 == 0))
	}
}

// TestUnitsKeepThemselves asks that all Ids, Classes and Metres read back, whatever they are.
func TestUnitsKeepThemselves(t *testing.T) {
	for id := 1; id <= 9999; id++ {
		checkPromise17(t, form(impl.Unit{Id: id, Class: 1 + id%9, Metres: 1 + id%200, Back: id%2 == 0}))
	}
	for _, number := range []string{"0", "10000", "10001", "99999"} {
		if _, ok := impl.ReadStock("A" + number + "/1>"); ok {
			t.Errorf("an Id of %s", number)
		}
	}
	for metres := range 1100 {
		_, ok := impl.ReadStock("A1/" + strconv.Itoa(metres) + ">")
		if ok != (metres >= 1 && metres <= 200) {
			t.Errorf("Metres of %d: %v", metres, ok)
		}
	}
}

// TestStockSharesNoMemory spoils each answer, and then what it came from.
func TestStockSharesNoMemory(t *testing.T) {
	spoilt := rear(77, 7, 77)
	given := form(fore(12, 1, 25), rear(7, 2, 30), fore(5, 3, 20), rear(4, 1, 10))
	pair := func(a, b []impl.Unit) [][]impl.Unit { return [][]impl.Unit{a, b} }
	asks := map[string]func(list []impl.Unit) [][]impl.Unit{
		"coupled": func(list []impl.Unit) [][]impl.Unit {
			both, _ := impl.Couple(list[:2], list[3:])
			return pair(both, nil)
		},
		"coupled as they stand": func(list []impl.Unit) [][]impl.Unit {
			both, _ := impl.Couple(list[:2], list[2:])
			return pair(both, nil)
		},
		"coupled the other way": func(list []impl.Unit) [][]impl.Unit {
			both, _ := impl.Couple(list[2:], list[:2])
			return pair(both, nil)
		},
		"not coupled": func(list []impl.Unit) [][]impl.Unit {
			both, _ := impl.Couple(list[:2], list[1:])
			return pair(both, nil)
		},
		"parted":              func(list []impl.Unit) [][]impl.Unit { return pair(impl.Part(list, 2)) },
		"parted at 0":         func(list []impl.Unit) [][]impl.Unit { return pair(impl.Part(list, 0)) },
		"parted at all":       func(list []impl.Unit) [][]impl.Unit { return pair(impl.Part(list, 4)) },
		"parted, a part":      func(list []impl.Unit) [][]impl.Unit { return pair(impl.Part(list[:2], 1)) },
		"turned":              func(list []impl.Unit) [][]impl.Unit { return pair(impl.Turn(list), nil) },
		"one turned":          func(list []impl.Unit) [][]impl.Unit { return pair(impl.Turn(list[:1]), nil) },
		"shunted":             func(list []impl.Unit) [][]impl.Unit { return pair(impl.Shunted(list, []int{1, 3}), nil) },
		"shunted by no cut":   func(list []impl.Unit) [][]impl.Unit { return pair(impl.Shunted(list, nil), nil) },
		"shunted by 0":        func(list []impl.Unit) [][]impl.Unit { return pair(impl.Shunted(list, []int{0}), nil) },
		"shunted by all":      func(list []impl.Unit) [][]impl.Unit { return pair(impl.Shunted(list, []int{4}), nil) },
		"shunted, a part":     func(list []impl.Unit) [][]impl.Unit { return pair(impl.Shunted(list[:2], []int{1}), nil) },
		"nothing, parted":     func(list []impl.Unit) [][]impl.Unit { return pair(impl.Part(list[:0], 0)) },
		"nothing, turned":     func(list []impl.Unit) [][]impl.Unit { return pair(impl.Turn(list[:0]), nil) },
		"nothing, shunted":    func(list []impl.Unit) [][]impl.Unit { return pair(impl.Shunted(list[:0], []int{0}), nil) },
		"a wrong list parted": func(list []impl.Unit) [][]impl.Unit { return pair(impl.Part(list, 5)) },
	}
	for name, ask := range asks {
		roomy := append(make([]impl.Unit, 0, 9), given...)
		was := slices.Clone(roomy[:9])
		first, second := ask(roomy), ask(roomy)
		if !slices.Equal(roomy[:9], was) {
			t.Errorf("%s: %v was %v", name, roomy[:9], was)
		}
		kept := [][]impl.Unit{slices.Clone(second[0]), slices.Clone(second[1]), slices.Clone(first[1])}
		// Behind an answer's end there may be room, but nobody else's.
		for k := range first[0] {
			first[0][k] = spoilt
		}
		_ = append(first[0], spoilt, spoilt)
		if !slices.Equal(first[1], kept[2]) {
			t.Errorf("%s, its first list spoilt: %v was %v", name, first[1], kept[2])
		}
		for k := range first[1] {
			first[1][k] = spoilt
		}
		_ = append(first[1], spoilt, spoilt)
		if !slices.Equal(roomy[:9], was) || !slices.Equal(second[0], kept[0]) || !slices.Equal(second[1], kept[1]) {
			t.Errorf("%s, spoilt: %v was %v, %v was %v", name, roomy[:9], was, second, kept)
		}
		for k := range roomy[:9] {
			roomy[:9][k] = spoilt
		}
		if !slices.Equal(second[0], kept[0]) || !slices.Equal(second[1], kept[1]) {
			t.Errorf("%s, the list spoilt: %v was %v", name, second, kept)
		}
	}
}

func TestReadStockAnswersNewLists(t *testing.T) {
	text := "A12/25>+I7/30<"
	first, _ := impl.ReadStock(text)
	second, _ := impl.ReadStock(text)
	for k := range first {
		first[k] = impl.Unit{}
	}
	_ = append(first, impl.Unit{})
	if !slices.Equal(second, form(fore(12, 1, 25), rear(7, 9, 30))) {
		t.Errorf("%+v", second)
	}
	cuts := append(make([]int, 0, 5), 1, 2)
	impl.Shunted(second, cuts)
	checkInts(t, "cuts", cuts[:5], []int{1, 2, 0, 0, 0})
}

// TestStockIsTheSameHoweverOften lets many ask at once, with other questions between.
func TestStockIsTheSameHoweverOften(t *testing.T) {
	d := &dice{state: 153}
	for range 30 {
		list := someForm(d, 2+d.below(9), true)
		at := 1 + d.below(len(list)-1)
		cuts := []int{at, 1, len(list), at}
		text, round, shunted := impl.StockText(list), impl.Turn(list), impl.Shunted(list, cuts)
		both, _ := impl.Couple(list[:at], list[at:])
		var group sync.WaitGroup
		for k := range 8 {
			group.Go(func() {
				impl.ReadStock(strings.Repeat("A1/1>+", k))
				impl.Turn(rake(1, 28+k, 1+k))
				impl.Shunted(rake(1, k, 1), []int{k, 1, k / 2})
				if impl.StockText(list) != text || !slices.Equal(impl.Turn(list), round) || !slices.Equal(impl.Shunted(list, cuts), shunted) {
					t.Errorf("%+v: other answers", list)
				}
				if again, ok := impl.Couple(list[:at], list[at:]); !ok || !slices.Equal(again, both) {
					t.Errorf("%+v, and then %+v, %v", both, again, ok)
				}
				if back, ok := impl.ReadStock(text); ok != (text != "") || ok && !slices.Equal(back, list) {
					t.Errorf("%q: %+v, %v", text, back, ok)
				}
			})
		}
		group.Wait()
	}
}

func TestStockNeverPanics(t *testing.T) {
	extremes := []int{math.MinInt, math.MinInt + 1, -1, 0, 1, 2, 3, 9, 10, 30, 31, 200, 201, 9999, 10000, math.MaxInt - 1, math.MaxInt}
	d := &dice{state: 154}
	pick := func() int { return extremes[d.below(len(extremes))] }
	for range 10000 {
		var lists [2][]impl.Unit
		for k := range lists {
			for range d.below(4) {
				lists[k] = append(lists[k], impl.Unit{Id: pick(), Class: pick(), Metres: pick(), Back: d.below(2) == 0})
			}
			if d.below(2) == 0 {
				lists[k] = someForm(d, d.below(4), d.below(2) == 0)
			}
		}
		var cuts []int
		for range d.below(4) {
			cuts = append(cuts, pick())
		}
		at := pick()
		bytes := make([]byte, d.below(150))
		for k := range bytes {
			bytes[k] = byte(d.below(256))
		}
		if panicsIn(func() {
			impl.Part(lists[0], at)
			impl.Fitting(impl.Unit{Class: pick()}, impl.Unit{Class: pick()})
			checkForm(t, lists[0])
			checkCouple(t, lists[0], lists[1])
			checkShunted(t, lists[0], cuts)
			checkReadStock(t, string(bytes))
		}) {
			t.Fatalf("%+v, %v, %d, %q", lists, cuts, at, bytes)
		}
	}
	if panicsIn(func() {
		impl.FormLen(nil)
		impl.Runnable(nil)
		impl.Couple(nil, nil)
		impl.Part(nil, 0)
		impl.Part(nil, 1)
		impl.Turn(nil)
		impl.StockText(nil)
		impl.ReadStock("")
		impl.Shunted(nil, nil)
		impl.Fitting(impl.Unit{}, impl.Unit{})
	}) {
		t.Error("nothing at all")
	}
}
