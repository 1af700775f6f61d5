package tests

import (
	"fmt"
	"go/ast"
	"go/parser"
	"go/token"
	"math"
	"path/filepath"
	"regexp"
	"runtime"
	"slices"
	"strconv"
	"strings"
	"sync"
	"testing"

	"loop.example/g00075/impl"
)

func deskTwin(d impl.Desk) impl.Desk {
	return impl.Desk{Net: copyNet(d.Net), Table: tableCopy(d.Table), Seats: coachCopy(d.Seats), Yard: yardCopy(d.Yard)}
}

func sameDesk(a, b impl.Desk) bool {
	return sameNet(a.Net, b.Net) && sameTable(a.Table, b.Table) && sameCoach(a.Seats, b.Seats) && sameYard(a.Yard, b.Yard)
}

func netByWords(n impl.Net) bool {
	for _, e := range n.Edges {
		if min(e.A, e.B) < 0 || max(e.A, e.B) >= n.Nodes || e.A == e.B || e.Len < 1 || e.Len > 100000 || e.Limit < 1 || e.Limit > 90 {
			return false
		}
	}
	return n.Nodes > 0 && n.Nodes < 31 && len(n.Edges) < 61
}

func deskByWords(d impl.Desk) bool {
	return netByWords(d.Net) && tableByWords(d.Table) && coachByWords(d.Seats) && yardByWords(d.Yard)
}

const (
	numberForm = `(0|[1-9][0-9]{0,5})`
	wordForm   = `([^ ]+)`
)

// inNumbers makes the form of a line of one word and so many numbers.
func inNumbers(word string, count int) string {
	return word + strings.Repeat(" "+numberForm, count)
}

// lineForms are the lines of the chapter's table, by their forms alone, with what is done by the words of the chapters.
var lineForms = []struct {
	form *regexp.Regexp
	do   func(d *impl.Desk, w []string, x []int) string
}{
	{whole(inNumbers("nodes", 1)), nodesByWords},
	{whole(inNumbers("edge", 4)), edgeByWords},
	{whole(inNumbers("cut", 1)), cutByWords},
	{whole(inNumbers("way", 2)), wayByWords},
	{whole(`trip (.+)`), newTripByWords},
	{whole(`drop ` + wordForm), dropByWords},
	{whole(inNumbers("clash", 1)), clashLineByWords},
	{whole(inNumbers("settle", 1)), settleLineByWords},
	{whole(`board ` + numberForm + ` ` + wordForm + ` ` + numberForm), boardLineByWords},
	{whole(`go ` + numberForm + ` ` + numberForm + ` ` + wordForm + ` ` + numberForm), goByWords},
	{whole(`day`), func(d *impl.Desk, w []string, x []int) string { return latenessByWords(d, make([]int, len(d.Table))) }},
	{whole(`late ` + wordForm + ` ` + numberForm), lateLineByWords},
	{whole(inNumbers("fare", 2)), fareLineByWords},
	{whole(inNumbers("book", 3)), bookLineByWords},
	{whole(inNumbers("unbook", 1)), unbookLineByWords},
	{whole(inNumbers("shunt", 3)), shuntLineByWords},
	{whole(inNumbers("hump", 1)), humpLineByWords},
	{whole(`form ` + wordForm), formLineByWords},
	{whole(`turn ` + wordForm), turnLineByWords},
	{whole(`show net`), showNetByWords},
	{whole(`show trips`), showTripsByWords},
	{whole(`show seats`), showSeatsByWords},
	{whole(`show yard`), showYardByWords},
}

func whole(form string) *regexp.Regexp {
	return regexp.MustCompile(`(?s)\A` + form + `\z`)
}

// lineByWords does a line by its form. Each word that is a number stands among x at its place, as -1 what is none.
func lineByWords(d impl.Desk, line string) (impl.Desk, string) {
	if strings.HasPrefix(line, "#") || line == "" {
		return deskTwin(d), ""
	}
	if !deskByWords(d) || len(line) > 320 {
		return deskTwin(d), "no"
	}
	for _, l := range lineForms {
		parts := l.form.FindStringSubmatch(line)
		if parts == nil {
			continue
		}
		var x []int
		for _, part := range parts[1:] {
			number, err := strconv.Atoi(part)
			if err != nil {
				number = -1
			}
			x = append(x, number)
		}
		then := deskTwin(d)
		if told := l.do(&then, parts[1:], x); told != "no" && deskByWords(then) {
			return then, told
		}
	}
	return deskTwin(d), "no"
}

func nodesByWords(d *impl.Desk, w []string, x []int) string {
	if len(d.Net.Edges) != 0 || x[0] < 1 || x[0] > 30 {
		return "no"
	}
	d.Net.Nodes = x[0]
	return "ok"
}

func edgeByWords(d *impl.Desk, w []string, x []int) string {
	d.Net.Edges = append(d.Net.Edges, impl.Edge{A: x[0], B: x[1], Len: x[2], Limit: x[3]})
	return fmt.Sprint(len(d.Net.Edges) - 1)
}

func cutByWords(d *impl.Desk, w []string, x []int) string {
	if x[0] >= len(d.Net.Edges) {
		return "no"
	}
	d.Net = without(d.Net, x[0])
	return "ok"
}

func wayByWords(d *impl.Desk, w []string, x []int) string {
	if max(x[0], x[1]) >= d.Net.Nodes {
		return "no"
	}
	way, length := firstWay(d.Net, x[0], x[1], costsTo(d.Net, x[1]))
	if length == -1 {
		return "none"
	}
	return strings.Trim(fmt.Sprint(append([]int{length}, way...)), "[]")
}

func newTripByWords(d *impl.Desk, w []string, x []int) string {
	trip, ok := readByWords(w[0])
	if !ok {
		return "no"
	}
	d.Table = append(d.Table, trip)
	return "ok"
}

func placeByWords(d *impl.Desk, name string) int {
	for place, trip := range d.Table {
		if trip.Name == name {
			return place
		}
	}
	return -1
}

func dropByWords(d *impl.Desk, w []string, x []int) string {
	place := placeByWords(d, w[0])
	if place == -1 {
		return "no"
	}
	d.Table = append(tableCopy(d.Table[:place]), tableCopy(d.Table[place+1:])...)
	return "ok"
}

func clashLineByWords(d *impl.Desk, w []string, x []int) string {
	uses, ridden := usesByWords(d.Net, d.Table)
	if !ridden || x[0] > 60 {
		return "no"
	}
	if cleanByWords(d.Net, d.Table, x[0]) {
		return "clean"
	}
	i, j := firstMeetByWords(uses, x[0])
	return d.Table[uses[i].Trip].Name + " " + d.Table[uses[j].Trip].Name
}

func settleLineByWords(d *impl.Desk, w []string, x []int) string {
	if len(d.Table) == 0 {
		return "nothing"
	}
	trips, pushes := settledByWords(d.Net, d.Table, x[0])
	if len(trips) == 0 {
		return "no"
	}
	d.Table = trips
	return strings.Trim(fmt.Sprint(pushes), "[]")
}

// minuteByForm is -1 for what is no time.
func minuteByForm(text string) int {
	parts := timeOnly.FindStringSubmatch(text)
	if parts == nil {
		return -1
	}
	hours, _ := strconv.Atoi(parts[1])
	minutes, _ := strconv.Atoi(parts[2])
	if 60*hours+minutes > 100000 {
		return -1
	}
	return 60*hours + minutes
}

var timeOnly = regexp.MustCompile(`\A` + timeForm + `\z`)

func boardLineByWords(d *impl.Desk, w []string, x []int) string {
	minute := minuteByForm(w[1])
	if minute == -1 || x[2] > 50 {
		return "no"
	}
	text := ""
	for _, e := range boardByWords(d.Table, x[0], minute, x[2]) {
		dep := d.Table[e.Trip].Calls[e.Call].Dep
		text += fmt.Sprintf(", %02d:%02d %s", dep/60, dep%60, d.Table[e.Trip].Name)
	}
	if text == "" {
		return "nothing"
	}
	return text[2:]
}

func goByWords(d *impl.Desk, w []string, x []int) string {
	q := asking{from: x[0], to: x[1], minute: minuteByForm(w[2]), change: x[3], hops: 5}
	if q.minute == -1 {
		return "no"
	}
	if q.from == q.to {
		return "here"
	}
	if !askedByWords(d.Table, q) {
		return "none"
	}
	m := &memo{list: d.Table, change: q.change, known: map[[4]int]ending{}}
	best := m.on(q.from, q.to, q.minute, q.hops)
	if best.minute == -1 {
		return "none"
	}
	return journeyTextByWords(d.Table, best.legs, q.change)
}

func latenessByWords(d *impl.Desk, late []int) string {
	if !dayOkByWords(d.Net, d.Table, late) {
		return "no"
	}
	text := ""
	for place, minutes := range playedByWords(d.Net, d.Table, late, 0).at {
		text += fmt.Sprintf(" %s+%d", d.Table[place].Name, minutes)
	}
	if text == "" {
		return "nothing"
	}
	return text[1:]
}

func lateLineByWords(d *impl.Desk, w []string, x []int) string {
	place := placeByWords(d, w[0])
	if place == -1 {
		return "no"
	}
	return latenessByWords(d, lateBy(len(d.Table), place, x[1]))
}

func fareLineByWords(d *impl.Desk, w []string, x []int) string {
	if max(x[0], x[1]) > 19 {
		return "no"
	}
	// Base and Step are multiples of Round, so nothing is rounded.
	return fmt.Sprint(100 + 50*(max(x[0], x[1])-min(x[0], x[1])))
}

func bookLineByWords(d *impl.Desk, w []string, x []int) string {
	then, seat := bookByWords(d.Seats, x[0], x[1], x[2])
	if seat == -1 {
		return "no"
	}
	d.Seats = then
	return fmt.Sprint(seat)
}

func unbookLineByWords(d *impl.Desk, w []string, x []int) string {
	then, gone := unbookByWords(d.Seats, x[0])
	if !gone {
		return "no"
	}
	d.Seats = then
	return "ok"
}

func shuntLineByWords(d *impl.Desk, w []string, x []int) string {
	then, code := shuntByWords(d.Yard, shuntOf(x[0], x[1], x[2]))
	if code != 0 {
		return "no"
	}
	d.Yard = then
	return "ok"
}

func humpLineByWords(d *impl.Desk, w []string, x []int) string {
	if x[0] >= len(d.Yard.Rows) {
		return "no"
	}
	sorted, passes := humpByWords(d.Yard.Rows[x[0]], 2)
	d.Yard.Rows[x[0]] = sorted
	return fmt.Sprint(passes)
}

func formLineByWords(d *impl.Desk, w []string, x []int) string {
	units, ok := readStockByWords(w[0])
	if !ok {
		return "no"
	}
	return fmt.Sprint(formLenByWords(units))
}

func turnLineByWords(d *impl.Desk, w []string, x []int) string {
	units, ok := readStockByWords(w[0])
	if !ok {
		return "no"
	}
	return stockByWords(turnByWords(units))
}

func showNetByWords(d *impl.Desk, w []string, x []int) string {
	text := fmt.Sprint(d.Net.Nodes)
	for _, e := range d.Net.Edges {
		text += fmt.Sprintf(" %d-%d/%d", e.A, e.B, e.Len)
	}
	return text
}

func showTripsByWords(d *impl.Desk, w []string, x []int) string {
	if len(d.Table) == 0 {
		return "nothing"
	}
	text := textByWords(d.Table[0])
	for _, trip := range d.Table[1:] {
		text += " ; " + textByWords(trip)
	}
	return text
}

func showSeatsByWords(d *impl.Desk, w []string, x []int) string {
	if len(d.Seats.Held) == 0 {
		return "nothing"
	}
	text := ""
	for _, b := range d.Seats.Held {
		text += fmt.Sprintf(" %d@%d:%d-%d", b.Id, b.Seat, b.On, b.Off)
	}
	return text[1:]
}

func showYardByWords(d *impl.Desk, w []string, x []int) string {
	text := ""
	for _, wagons := range d.Yard.Rows {
		if len(wagons) == 0 {
			text += " -"
		} else {
			text += " " + strings.Join(strings.Fields(strings.Trim(fmt.Sprint(wagons), "[]")), ",")
		}
	}
	return text[1:]
}

// sessionByWords cuts the text byte by byte.
func sessionByWords(text string) (string, int) {
	if len(text) > 6000 {
		return "", -1
	}
	var lines []string
	line := ""
	for i := range len(text) {
		if text[i] == 10 {
			lines, line = append(lines, line), ""
		} else {
			line += text[i : i+1]
		}
	}
	if line != "" {
		lines = append(lines, line)
	}
	if len(lines) > 120 {
		return "", -2
	}
	d, all := firstDesk(), ""
	for _, line := range lines {
		var told string
		if d, told = lineByWords(d, line); told != "" {
			all += told + "\n"
		}
	}
	return all, len(lines)
}

// firstDesk is the one that a session begins with, as the chapter tells it.
func firstDesk() impl.Desk {
	return impl.Desk{
		Net:   impl.Net{Nodes: 1},
		Seats: impl.Train{Seats: 4, Pieces: 5},
		Yard:  impl.Sidings{Room: []int{6, 4, 4}, Rows: [][]int{{5, 3, 4, 1, 2}, {}, {}}},
	}
}

// spoilList writes one thing into all of the memory that a list has, and answers whether it is still there when it is asked.
func spoilList[T comparable](list []T, x T) func() bool {
	all := list[:cap(list)]
	for k := range all {
		all[k] = x
	}
	return func() bool { return !slices.ContainsFunc(all, func(y T) bool { return y != x }) }
}

// spoilDesk writes into all lists of a desk, something else into each, and answers whether none of them spoilt another.
func spoilDesk(d impl.Desk) bool {
	asks := []func() bool{spoilList(d.Net.Edges, impl.Edge{A: -70}), spoilList(d.Seats.Held, booked(-71, 0, 0, 0)), spoilList(d.Yard.Room, -72)}
	for row, wagons := range d.Yard.Rows {
		asks = append(asks, spoilList(wagons, -73-row))
	}
	for place, trip := range d.Table {
		asks = append(asks, spoilList(trip.Calls, at(-80-place, 0, 0)))
	}
	for _, asked := range asks {
		if !asked() {
			return false
		}
	}
	for place := range d.Table {
		d.Table[place] = tripOf("spoilt")
	}
	for row := range d.Yard.Rows {
		d.Yard.Rows[row] = []int{-99}
	}
	_, _ = append(d.Table, tripOf("behind")), append(d.Yard.Rows, []int{-99})
	return true
}

// checkLine does a line and holds it against the chapter's words; all that promise 24 tells of a line is asked too.
func checkLine(t *testing.T, d impl.Desk, line string) (impl.Desk, string) {
	t.Helper()
	was := deskTwin(d)
	got, told := impl.DoLine(d, line)
	want, wanted := lineByWords(d, line)
	if told != wanted || !sameDesk(got, want) {
		t.Fatalf("DoLine(%v, %q): %v, %q, not %v, %q", d, line, got, told, want, wanted)
	}
	if (told == "no" || told == "") && !sameDesk(got, was) {
		t.Fatalf("DoLine(%v, %q) tells %q and leaves %v", was, line, told, got)
	}
	if deskByWords(was) && !impl.DeskOk(got) {
		t.Fatalf("DoLine(%v, %q) leaves %v", was, line, got)
	}
	again, toldAgain := impl.DoLine(d, line)
	if !spoilDesk(got) {
		t.Fatalf("DoLine(%v, %q): two lists of the answer share memory", was, line)
	}
	if toldAgain != told || !sameDesk(again, want) || !sameDesk(d, was) {
		t.Fatalf("DoLine(%v, %q) for the second time: %v, %q; %v was %v", was, line, again, toldAgain, d, was)
	}
	return again, told
}

// play does lines one behind the other, each with what it must tell behind it.
func play(t *testing.T, d impl.Desk, linesAndTold ...string) impl.Desk {
	t.Helper()
	for k := 0; k+1 < len(linesAndTold); k += 2 {
		var told string
		if d, told = checkLine(t, d, linesAndTold[k]); told != linesAndTold[k+1] {
			t.Errorf("%q tells %q, not %q", linesAndTold[k], told, linesAndTold[k+1])
		}
	}
	return d
}

// refuses does each line at the same desk.
func refuses(t *testing.T, d impl.Desk, lines ...string) {
	t.Helper()
	for _, line := range lines {
		play(t, d, line, "no")
	}
}

// busyDesk has something of everything: trips that clash, nodes in two parts, two edges between the same nodes, bookings, and wagons.
func busyDesk() impl.Desk {
	d := firstDesk()
	d.Net = impl.Net{Nodes: 6, Edges: []impl.Edge{{A: 0, B: 1, Len: 500, Limit: 20}, {A: 1, B: 2, Len: 300, Limit: 20}, {A: 2, B: 1, Len: 200, Limit: 9}, {A: 4, B: 5, Len: 100000, Limit: 90}}}
	d.Table = []impl.Trip{
		tripOf("a", at(0, 10, 10), at(1, 20, 22), at(2, 30, 30)),
		tripOf("b", at(1, 15, 15), at(0, 25, 25)),
		tripOf("c7", at(2, 40, 41), at(1, 50, 50), at(0, 60, 60)),
	}
	d.Seats.Held = []impl.Booking{booked(3, 0, 0, 2), booked(8, 1, 2, 5)}
	return d
}

func TestDeskConstants(t *testing.T) {
	if impl.MaxLines != 120 || impl.MaxText != 6000 || impl.MaxLine != 320 {
		t.Error(impl.MaxLines, impl.MaxText, impl.MaxLine)
	}
}

func TestNewDesk(t *testing.T) {
	for range 3 {
		d := impl.NewDesk()
		if !sameDesk(d, firstDesk()) || !impl.DeskOk(d) {
			t.Fatal(d)
		}
		if !spoilDesk(d) {
			t.Fatal("two lists share memory")
		}
	}
	play(t, impl.NewDesk(), "show net", "1", "show trips", "nothing", "show seats", "nothing", "show yard", "5,3,4,1,2 - -")
}

// wrongDesks are each wrong in one part alone.
func wrongDesks() map[string]impl.Desk {
	all := map[string]impl.Desk{"the zero value": {}}
	for name, n := range wrongNets() {
		d := busyDesk()
		d.Net = n
		all["net: "+name] = d
	}
	for k, list := range wrongTables() {
		d := busyDesk()
		d.Table = list
		all["trips: "+strconv.Itoa(k)] = d
	}
	for name, train := range wrongCoaches() {
		d := busyDesk()
		d.Seats = train
		all["seats: "+name] = d
	}
	for name, yard := range wrongYards() {
		d := busyDesk()
		d.Yard = yard
		all["yard: "+name] = d
	}
	return all
}

func rightDesks() []impl.Desk {
	all := []impl.Desk{firstDesk(), busyDesk()}
	for _, n := range rightNets() {
		d := busyDesk()
		d.Net = n
		all = append(all, d)
	}
	for _, list := range [][]impl.Trip{nil, {}, shuttles(24, 0, 12), {hop("z", 28, 29, 99999, 100000)}} {
		d := busyDesk()
		d.Table = list
		all = append(all, d)
	}
	for _, train := range []impl.Train{coach(1, 1), coach(60, 11), crowd(200), coach(1, 1, booked(math.MaxInt, 0, 0, 1))} {
		d := busyDesk()
		d.Seats = train
		all = append(all, d)
	}
	for _, yard := range rightYards() {
		d := busyDesk()
		d.Yard = yard
		all = append(all, d)
	}
	return all
}

func TestDeskOk(t *testing.T) {
	for _, d := range rightDesks() {
		was := deskTwin(d)
		if !impl.DeskOk(d) || !deskByWords(d) {
			t.Errorf("not right: %v", d)
		}
		if !sameDesk(d, was) {
			t.Fatalf("%v was %v", d, was)
		}
	}
	for name, d := range wrongDesks() {
		was := deskTwin(d)
		if impl.DeskOk(d) || deskByWords(d) {
			t.Errorf("%s is right", name)
		}
		if !sameDesk(d, was) {
			t.Fatalf("%s: %v was %v", name, d, was)
		}
	}
	// Trips are a timetable by themselves, whether they can be ridden or not.
	far := firstDesk()
	far.Table = []impl.Trip{hop("a", 3, 29, 1, 2)}
	if !impl.DeskOk(far) {
		t.Error("trips at nodes that the net has not")
	}
}

// doneLines has every line of the table as it is done at the busy desk, with what it tells.
func doneLines() []string {
	return []string{
		"edge 0 5 100000 90", "4",
		"cut 3", "ok",
		"way 0 2", "700 0 2",
		"trip d 0@00:10-00:10 29@1666:39-1666:40", "ok",
		"drop b", "ok",
		"clash 0", "a b",
		"settle 0", "0 5 0",
		"board 1 00:15 3", "00:15 b, 00:22 a, 00:50 c7",
		"go 0 2 00:05 3", "a 00:10-00:30",
		"day", "a+0 b+5 c7+0",
		"late a 4", "a+2 b+9 c7+0",
		"fare 0 2", "200",
		"book 5 0 2", "1",
		"unbook 3", "ok",
		"shunt 0 1 2", "ok",
		"hump 0", "3",
		"form A12/25>+A7/30<", "55",
		"turn A12/25>+A7/30<", "A7/30>+A12/25<",
		"show net", "6 0-1/500 1-2/300 2-1/200 4-5/100000",
		"show trips", "a 0@00:10-00:10 1@00:20-00:22 2@00:30-00:30 ; b 1@00:15-00:15 0@00:25-00:25 ; c7 2@00:40-00:41 1@00:50-00:50 0@01:00-01:00",
		"show seats", "3@0:0-2 8@1:2-5",
		"show yard", "5,3,4,1,2 - -",
	}
}

func TestEveryLineIsDone(t *testing.T) {
	list := doneLines()
	for k := 0; k < len(list); k += 2 {
		play(t, busyDesk(), list[k], list[k+1])
	}
	play(t, firstDesk(), "nodes 3", "ok")
	seen := map[string]bool{"nodes": true}
	for k := 0; k < len(list); k += 2 {
		seen[strings.Fields(list[k])[0]] = true
	}
	if len(seen) != 20 {
		t.Error("not every command", seen)
	}
}

func TestRemarksAndEmptyLines(t *testing.T) {
	desks := append(rightDesks(), impl.Desk{})
	for _, d := range wrongDesks() {
		desks = append(desks, d)
	}
	quiet := []string{"", "#", "##", "# a remark", "#show net", "# show net", "#nodes 3", "#\x00", "#\xff\t ", "# ", "#  two blanks ", "#" + strings.Repeat("x", 319), "#" + strings.Repeat(" ", 320), "#" + strings.Repeat("9", 100000)}
	for _, d := range desks {
		for _, line := range quiet {
			if _, told := checkLine(t, d, line); told != "" {
				t.Fatalf("%q tells %q", line, told)
			}
		}
	}
	refuses(t, busyDesk(), " #", " # a remark", " ", "  ", "\t#", "\n", "\r", "x#", "show#net", "show net#", "show net #", "day #")
}

func TestBlanks(t *testing.T) {
	d := busyDesk()
	list := append([]string{"nodes 3", "ok"}, doneLines()...)
	for k := 0; k < len(list); k += 2 {
		line := list[k]
		refuses(t, d, " "+line, line+" ", "  "+line, line+"  ", " "+line+" ", "\t"+line, line+"\t", line+"\n", line+"\r", line+"\x00")
		for at, sign := range line {
			if sign != ' ' {
				continue
			}
			for _, between := range []string{"  ", "   ", "\t", " \t", "\t ", "\n", "\r", "\x00", "\u00a0", "\x85", "_", ""} {
				refuses(t, d, line[:at]+between+line[at+1:])
			}
		}
	}
}

func TestWordsTooManyOrTooFew(t *testing.T) {
	d := busyDesk()
	list := append([]string{"nodes 3", "ok"}, doneLines()...)
	for k := 0; k < len(list); k += 2 {
		words := strings.Split(list[k], " ")
		for cut := range words {
			fewer := slices.Delete(slices.Clone(words), cut, cut+1)
			checkLine(t, d, strings.Join(fewer, " "))
			if words[0] != "trip" {
				refuses(t, d, strings.Join(words[:cut], " ")+" ")
			}
		}
		if len(words) > 1 {
			refuses(t, d, strings.Join(words[:len(words)-1], " "), words[0])
		}
		for _, more := range []string{"0", "1", "a", "00:10", "-", "net", "#", "x"} {
			refuses(t, d, list[k]+" "+more)
			for place := range words {
				checkLine(t, d, strings.Join(slices.Insert(slices.Clone(words), place, more), " "))
			}
		}
	}
}

func TestGreatLettersAndCommandsThatAreNone(t *testing.T) {
	d := busyDesk()
	list := append([]string{"nodes 3", "ok"}, doneLines()...)
	for k := 0; k < len(list); k += 2 {
		line := list[k]
		for at, sign := range line {
			if sign < 'a' || sign > 'z' {
				continue
			}
			refuses(t, d, line[:at]+strings.ToUpper(line[at:at+1])+line[at+1:])
		}
		first, rest, _ := strings.Cut(line, " ")
		for _, other := range []string{first + "s", first[:len(first)-1], strings.ToUpper(first), "x" + first, first + "\x00", "help", "quit", "no", "ok", "0"} {
			if other != "node" && other != "trips" {
				checkLine(t, d, strings.TrimSuffix(other+" "+rest, " "))
			}
		}
	}
	refuses(t, d, "help", "quit", "no", "ok", "nothing", "node 3", "nodess 3", "trips a", "show", "show nets", "show net trips", "show desk", "show Net", "SHOW NET", "showing net", "show 0", "net", "trips", "seats", "yard", "days", "travel 0 2 00:05 3", "0", "a", "-", "?", "ok ok", "shows net", "show show", "day day", "moved a 5", "undo", "go", "init")
}

// TestOddBytes puts every byte into every place of some lines, and in place of what stands there.
func TestOddBytes(t *testing.T) {
	d := busyDesk()
	for _, line := range []string{"way 0 2", "day", "show net", "late a 4", "board 1 00:15 3", "turn A1/2>", "drop b"} {
		for at := 0; at <= len(line); at++ {
			for b := range 256 {
				sign := string([]byte{byte(b)})
				_, told := checkLine(t, d, line[:at]+sign+line[at:])
				if (b == '\t' || b > 127 || b == '\r' || b == '\n') && told != "no" {
					t.Fatalf("byte %d at %d of %q: %q", b, at, line, told)
				}
				if at < len(line) {
					checkLine(t, d, line[:at]+sign+line[at+1:])
				}
			}
		}
	}
}

func TestLongLines(t *testing.T) {
	d := busyDesk()
	refuses(t, d, "show "+strings.Repeat("n", 315), "show "+strings.Repeat("n", 316), strings.Repeat("x", 320), strings.Repeat("x", 321), strings.Repeat("0", 100000), strings.Repeat(" ", 320), strings.Repeat("day ", 80), strings.Repeat("day ", 79)+"day")
	// As long as a line that is done can be: a trip of all calls, and a formation's text.
	long := "trip abcdefghijkl"
	for k := range 12 {
		long += fmt.Sprintf(" %d@1666:%02d-1666:%02d", 28+k%2, 10+2*k, 11+2*k)
	}
	if len(long) != 245 {
		t.Error(len(long))
	}
	play(t, d, long, "ok")
	for _, size := range []int{119, 120} {
		text := impl.StockText(formOfText(size))
		play(t, d, "turn "+text, impl.StockText(impl.Turn(formOfText(size))), "form "+text, strconv.Itoa(impl.FormLen(formOfText(size))))
	}
	refuses(t, d, "turn "+wholeText(formOfText(121)), "form "+wholeText(formOfText(121)), "form "+wholeText(rake(1, 30, 1)))
}

// TestNumbers asks for each number of each line, whatever else may be wrong with it then.
func TestNumbers(t *testing.T) {
	odd := []string{"00", "01", "007", "000000", "0000001", "1000000", "9999999", "18446744073709551616", "18446744073709551617", "-0", "-1", "+0", "+1", "1.0", "1e1", "0x1", "1_0", "a", "1a", "a1", "o", "\u0661", "\uff11", "1\x00", "-", "+", "--1", "1,", "00:01", strings.Repeat("1", 100), strings.Repeat("0", 100)}
	d := busyDesk()
	list := append([]string{"nodes 3", "ok"}, doneLines()...)
	for k := 0; k < len(list); k += 2 {
		words := strings.Split(list[k], " ")
		for place, word := range words {
			if place == 0 || !regexp.MustCompile(`^[0-9]+$`).MatchString(word) {
				continue
			}
			for _, number := range odd {
				other := slices.Clone(words)
				other[place] = number
				refuses(t, d, strings.Join(other, " "))
			}
			other := slices.Clone(words)
			other[place] = ""
			refuses(t, d, strings.Join(other, " "))
			for _, number := range []string{"0", "1", "2", "9", "10", "60", "61", "99999", "100000", "100001", "999999"} {
				other[place] = number
				checkLine(t, d, strings.Join(other, " "))
			}
		}
	}
	play(t, firstDesk(), "book 0 0 1", "no", "book 1 0 1", "0", "book 100000 0 1", "1", "book 999999 0 1", "2", "book 1000000 0 1", "no", "book 01 1 2", "no")
	play(t, firstDesk(), "book 999999 0 1", "0", "unbook 0999999", "no", "unbook 999999", "ok")
	play(t, firstDesk(), "fare 0 0", "100", "fare 00 0", "no", "fare 0 00", "no", "fare 01 1", "no", "fare +1 1", "no", "fare -1 1", "no")
}

func TestTimes(t *testing.T) {
	d := busyDesk()
	for _, time := range []string{"0:15", "00:5", "000:15", "00:60", "00:99", "24:60", "1666:41", "1667:00", "9999:59", "00-15", "0015", "15", "00:15:00", ":15", "00:", ":", "-0:15", "+0:15", "00:-1", "00:+1", "0x:15", "00:15a", "a00:15", "\u0660\u0660:15", "99999999999999999999:00"} {
		refuses(t, d, "board 1 "+time+" 3", "go 0 2 "+time+" 3")
	}
	play(t, d, "board 1 00:00 9", "00:15 b, 00:22 a, 00:50 c7", "board 1 24:00 9", "nothing", "board 1 99:59 9", "nothing", "board 1 100:00 9", "nothing", "board 1 1666:40 9", "nothing", "go 0 2 1666:40 0", "none", "go 0 2 00:10 0", "a 00:10-00:30", "go 0 2 00:11 0", "none")
}

func TestLineNodes(t *testing.T) {
	play(t, firstDesk(), "nodes 0", "no", "show net", "1", "nodes 1", "ok", "show net", "1", "nodes 2", "ok", "show net", "2", "nodes 30", "ok", "show net", "30", "nodes 31", "no", "show net", "30", "nodes 29", "ok", "nodes 999999", "no", "nodes 1", "ok", "show net", "1")
	d := play(t, firstDesk(), "nodes 3", "ok", "edge 0 1 1 1", "0", "nodes 3", "no", "nodes 4", "no", "nodes 2", "no", "show net", "3 0-1/1", "cut 0", "ok", "nodes 4", "ok", "show net", "4")
	// Trips stay, whatever nodes there are.
	play(t, d, "trip a 0@00:01-00:01 3@00:02-00:02", "ok", "nodes 2", "ok", "show trips", "a 0@00:01-00:01 3@00:02-00:02", "nodes 1", "ok")
}

func TestLineEdge(t *testing.T) {
	d := play(t, firstDesk(), "edge 0 1 1 1", "no", "edge 0 0 1 1", "no", "nodes 3", "ok", "edge 0 0 5 5", "no", "edge 2 2 5 5", "no", "edge 0 3 5 5", "no", "edge 3 0 5 5", "no", "edge 0 999999 5 5", "no", "show net", "3")
	play(t, d, "edge 0 2 1 1", "0", "edge 2 0 100000 90", "1", "edge 1 0 7 9", "2", "show net", "3 0-2/1 2-0/100000 1-0/7")
	refuses(t, d, "edge 0 1 0 1", "edge 0 1 100001 1", "edge 0 1 1 0", "edge 0 1 1 91", "edge 0 1 999999 1", "edge 0 1 1 999999", "edge 1 1 0 0")
	then, _ := impl.DoLine(d, "edge 2 1 99999 89")
	if !slices.Equal(then.Net.Edges, []impl.Edge{{A: 2, B: 1, Len: 99999, Limit: 89}}) {
		t.Error(then.Net)
	}
	for place := range 60 {
		d = play(t, d, "edge 0 1 9 9", strconv.Itoa(place))
	}
	play(t, d, "edge 0 1 9 9", "no", "cut 59", "ok", "edge 1 2 9 9", "59", "edge 0 1 9 9", "no")
}

func TestLineCut(t *testing.T) {
	refuses(t, firstDesk(), "cut 0", "cut 1")
	d := busyDesk()
	play(t, d, "cut 0", "ok", "show net", "6 1-2/300 2-1/200 4-5/100000", "cut 2", "ok", "show net", "6 1-2/300 2-1/200", "cut 2", "no", "cut 999999", "no", "cut 1", "ok", "cut 0", "ok", "cut 0", "no", "show net", "6")
	refuses(t, d, "cut 4", "cut 5", "cut 60")
	// A trip that has no edge then stays, but is not ridden.
	play(t, d, "clash 0", "a b", "cut 1", "ok", "clash 0", "a b", "day", "a+0 b+5 c7+0", "cut 1", "ok", "clash 0", "no", "settle 0", "no", "day", "no", "late a 0", "no", "board 1 00:15 1", "00:15 b", "go 0 2 00:05 0", "a 00:10-00:30", "edge 1 2 1 1", "2", "clash 0", "a b")
}

func TestLineWay(t *testing.T) {
	d := busyDesk()
	play(t, d, "way 0 0", "0", "way 5 5", "0", "way 3 3", "0", "way 0 1", "500 0", "way 1 0", "500 0", "way 0 2", "700 0 2", "way 2 0", "700 2 0", "way 1 2", "200 2", "way 4 5", "100000 3", "way 0 3", "none", "way 3 0", "none", "way 0 5", "none", "way 4 2", "none")
	refuses(t, d, "way 0 6", "way 6 0", "way 6 6", "way 7 8", "way 999999 0", "way 0 30")
	play(t, firstDesk(), "way 0 0", "0", "way 0 1", "no", "way 1 1", "no", "nodes 2", "ok", "way 0 1", "none", "edge 0 1 9 9", "0", "way 0 1", "9 0", "edge 1 0 9 1", "1", "way 0 1", "9 0", "edge 0 1 8 1", "2", "way 1 0", "8 2")
	// Two edges are as long as one: the fewer are taken, then the lesser places.
	play(t, firstDesk(), "nodes 3", "ok", "edge 0 1 4 9", "0", "edge 1 2 4 9", "1", "edge 2 0 8 9", "2", "way 0 2", "8 2", "cut 2", "ok", "way 0 2", "8 0 1", "way 2 0", "8 1 0", "edge 2 1 4 9", "2", "way 2 0", "8 1 0")
	ringed := firstDesk()
	ringed.Net = ring(30)
	play(t, ringed, "way 0 15", "1500000 0 1 2 3 4 5 6 7 8 9 10 11 12 13 14")
}

func TestLineTrip(t *testing.T) {
	d := play(t, firstDesk(), "trip a 0@00:10-00:10 1@00:20-00:22", "ok", "trip a 0@00:30-00:30 1@00:40-00:42", "no", "trip b 29@00:10-00:10 28@1666:39-1666:40", "ok", "trip 0 7@00:00-00:00 8@00:01-00:01", "ok", "show trips", "a 0@00:10-00:10 1@00:20-00:22 ; b 29@00:10-00:10 28@1666:39-1666:40 ; 0 7@00:00-00:00 8@00:01-00:01")
	refuses(t, d, "trip", "trip x", "trip x 0@00:10-00:10", "trip x 0@00:10-00:10 0@00:20-00:20", "trip x 0@00:10-00:10 1@00:10-00:20", "trip x 0@00:11-00:10 1@00:20-00:20", "trip x 0@00:10-00:10 30@00:20-00:20", "trip x 00@00:10-00:10 1@00:20-00:20", "trip x 01@00:10-00:10 2@00:20-00:20", "trip x 0@0:10-00:10 1@00:20-00:20", "trip x 0@00:10-00:10 1@00:20-1666:41", "trip X 0@00:10-00:10 1@00:20-00:20", "trip abcdefghijklm 0@00:10-00:10 1@00:20-00:20", "trip x-y 0@00:10-00:10 1@00:20-00:20", "trip x 0@00:10 1@00:20", "trip x 0@00:10-00:10 1@00:20-00:20 2@00:20-00:30", "trip trip x 0@00:10-00:10 1@00:20-00:20", "trip 0@00:10-00:10 1@00:20-00:20", "trip x 0@00:10-00:10  1@00:20-00:20", "trip x 0@00:10-00:10 1@00:20-00:20 ", "trip  x 0@00:10-00:10 1@00:20-00:20")
	for _, text := range []string{impl.TripText(shuttle("x", 5, 12)), impl.TripText(shuttle("x", 99977, 12))} {
		play(t, d, "trip "+text, "ok")
	}
	refuses(t, d, "trip "+impl.TripText(shuttle("x", 5, 12))+" 0@01:40-01:40")
	for k := 3; k < 24; k++ {
		d = play(t, d, "trip n"+strconv.Itoa(k)+" 0@00:10-00:10 1@00:20-00:22", "ok")
	}
	d = play(t, d, "trip x 0@00:10-00:10 1@00:20-00:22", "no", "drop n5", "ok", "trip x 0@00:10-00:10 1@00:20-00:22", "ok", "trip y 0@00:10-00:10 1@00:20-00:22", "no")
	if len(d.Table) != 24 || d.Table[23].Name != "x" || d.Table[5].Name != "n6" {
		t.Error(d.Table)
	}
}

func TestLineDrop(t *testing.T) {
	d := busyDesk()
	refuses(t, d, "drop d", "drop A", "drop", "drop c", "drop c77", "drop 0", "drop a b", "drop abcdefghijklm")
	play(t, d, "drop a", "ok", "show trips", "b 1@00:15-00:15 0@00:25-00:25 ; c7 2@00:40-00:41 1@00:50-00:50 0@01:00-01:00", "drop a", "no", "drop c7", "ok", "show trips", "b 1@00:15-00:15 0@00:25-00:25", "drop b", "ok", "show trips", "nothing", "drop b", "no")
	play(t, d, "drop b", "ok", "show trips", "a 0@00:10-00:10 1@00:20-00:22 2@00:30-00:30 ; c7 2@00:40-00:41 1@00:50-00:50 0@01:00-01:00")
	play(t, firstDesk(), "drop a", "no", "trip a 0@00:10-00:10 1@00:20-00:22", "ok", "drop a", "ok", "trip a 1@00:10-00:10 0@00:20-00:22", "ok")
}

func TestLineClash(t *testing.T) {
	play(t, firstDesk(), "clash 0", "clean", "clash 60", "clean", "clash 61", "no", "clash 999999", "no")
	d := play(t, firstDesk(), "nodes 2", "ok", "edge 0 1 9 9", "0", "trip a 0@00:10-00:10 1@00:20-00:20", "ok", "clash 0", "clean", "clash 60", "clean", "clash 61", "no")
	// One behind the other, at a head of 9 minutes and of one more; and against each other.
	play(t, d, "trip b 0@00:19-00:19 1@00:29-00:29", "ok", "clash 9", "clean", "clash 10", "a b", "clash 60", "a b", "clash 61", "no", "trip c 1@00:28-00:28 0@00:30-00:30", "ok", "clash 9", "b c", "clash 10", "a b", "drop a", "ok", "clash 0", "b c", "drop b", "ok", "clash 60", "clean")
	play(t, d, "trip no 0@00:10-00:10 1@00:20-00:20", "ok", "clash 0", "clean", "clash 1", "a no", "drop a", "ok", "trip ok 0@00:10-00:10 1@00:20-00:20", "ok", "clash 1", "no ok")
	play(t, d, "trip z 0@00:10-00:10 2@00:20-00:20", "ok", "clash 0", "no", "clash 61", "no", "drop z", "ok", "cut 0", "ok", "clash 0", "no")
	// The trips stand in the order of their uses, not of their names.
	play(t, d, "drop a", "ok", "trip z 0@00:10-00:10 1@00:20-00:20", "ok", "trip a 1@00:15-00:15 0@00:16-00:16", "ok", "clash 0", "z a")
}

func TestLineSettle(t *testing.T) {
	play(t, firstDesk(), "settle 0", "nothing", "settle 60", "nothing", "settle 61", "nothing", "show trips", "nothing")
	d := play(t, firstDesk(), "nodes 2", "ok", "edge 0 1 9 9", "0", "trip a 0@00:10-00:10 1@00:20-00:20", "ok", "settle 0", "0", "settle 60", "0", "settle 61", "no")
	play(t, d, "trip b 1@00:15-00:15 0@00:25-00:25", "ok", "clash 3", "a b", "settle 61", "no", "settle 3", "0 5", "show trips", "a 0@00:10-00:10 1@00:20-00:20 ; b 1@00:20-00:20 0@00:30-00:30", "clash 3", "clean", "settle 3", "0 0", "trip c 1@00:21-00:21 0@00:26-00:26", "ok", "settle 3", "0 0 7", "clash 3", "clean", "clash 4", "b c", "settle 60", "0 0 57", "clash 60", "clean")
	// It can't be settled where the line is taken for longer than a trip is ever moved.
	long := play(t, d, "drop a", "ok", "trip l 0@00:10-00:10 1@02:20-02:20", "ok", "trip m 1@00:20-00:20 0@00:30-00:30", "ok", "settle 0", "0 120", "drop m", "ok", "trip m 1@00:19-00:19 0@00:30-00:30", "ok", "settle 0", "no", "show trips", "l 0@00:10-00:10 1@02:20-02:20 ; m 1@00:19-00:19 0@00:30-00:30", "drop l", "ok", "settle 0", "0")
	play(t, long, "trip z 0@00:10-00:10 2@00:20-00:20", "ok", "settle 0", "no", "settle 61", "no")
}

func TestLineBoard(t *testing.T) {
	d := busyDesk()
	play(t, d, "board 1 00:00 50", "00:15 b, 00:22 a, 00:50 c7", "board 1 00:15 50", "00:15 b, 00:22 a, 00:50 c7", "board 1 00:16 50", "00:22 a, 00:50 c7", "board 1 00:50 1", "00:50 c7", "board 1 00:51 50", "nothing", "board 1 1666:40 50", "nothing")
	play(t, d, "board 1 00:00 0", "nothing", "board 1 00:00 1", "00:15 b", "board 1 00:00 2", "00:15 b, 00:22 a", "board 1 00:00 3", "00:15 b, 00:22 a, 00:50 c7", "board 1 00:00 4", "00:15 b, 00:22 a, 00:50 c7")
	// Last calls are none of a board; nor has a node that is not there anything, in the net or at all.
	play(t, d, "board 0 00:00 9", "00:10 a", "board 2 00:00 9", "00:41 c7", "board 3 00:00 9", "nothing", "board 6 00:00 9", "nothing", "board 29 00:00 9", "nothing", "board 30 00:00 9", "nothing", "board 999999 00:00 9", "nothing")
	refuses(t, d, "board 1 00:00 51", "board 1 00:00 999999", "board 999999 00:00 51", "board 1 0 5", "board 00:00 1 5")
	play(t, firstDesk(), "board 0 00:00 5", "nothing", "board 0 00:00 51", "no", "trip a 7@25:10-25:10 8@25:20-25:20", "ok", "board 7 00:00 5", "25:10 a", "trip b 7@25:10-25:10 8@25:20-25:20", "ok", "board 7 25:10 5", "25:10 a, 25:10 b")
	full := firstDesk()
	full.Table = shuttles(24, 0, 12)
	_, told := checkLine(t, full, "board 0 00:00 50")
	if len(strings.Split(told, ", ")) != 50 || !strings.HasPrefix(told, "00:01 s0, 00:01 s1, ") {
		t.Error(told)
	}
}

func TestLineGo(t *testing.T) {
	d := firstDesk()
	d.Table = givenTable()
	play(t, d, "go 0 2 00:00 5", "a 00:10-00:20 / b 00:25-00:30", "go 0 2 00:00 6", "a 00:10-00:40", "go 0 2 00:00 0", "a 00:10-00:20 / b 00:25-00:30", "go 0 2 00:11 0", "c 00:30-01:00", "go 0 2 00:30 60", "c 00:30-01:00", "go 0 2 00:31 0", "none", "go 2 0 00:00 0", "none", "go 0 9 00:00 0", "none", "go 9 0 00:00 0", "none", "go 0 29 00:00 0", "none")
	play(t, d, "go 0 0 00:00 5", "here", "go 2 2 1666:40 0", "here", "go 17 17 00:00 60", "here")
	// Soonest is -1 also where the question is none.
	play(t, d, "go 0 2 00:00 60", "a 00:10-00:40", "go 0 2 00:00 61", "none", "go 0 2 00:00 999999", "none", "go 0 30 00:00 0", "none", "go 30 0 00:00 0", "none", "go 999999 0 00:00 0", "none", "go 1 1 00:00 61", "here")
	play(t, firstDesk(), "go 0 1 00:00 0", "none", "go 0 0 00:00 0", "here")
	// At most MaxHops legs.
	d.Table = relay(6)
	play(t, d, "go 0 5 00:00 0", "r0 00:00-00:09 / r1 00:10-00:19 / r2 00:20-00:29 / r3 00:30-00:39 / r4 00:40-00:49", "go 0 6 00:00 0", "none", "go 1 6 00:00 1", "r1 00:10-00:19 / r2 00:20-00:29 / r3 00:30-00:39 / r4 00:40-00:49 / r5 00:50-00:59", "go 0 2 00:00 2", "none", "go 0 1 00:00 2", "r0 00:00-00:09")
}

func TestLineDayAndLate(t *testing.T) {
	play(t, firstDesk(), "day", "nothing", "late a 0", "no", "late a 5", "no")
	d := busyDesk()
	play(t, d, "day", "a+0 b+5 c7+0", "late a 0", "a+0 b+5 c7+0", "late b 0", "a+0 b+5 c7+0", "late a 4", "a+2 b+9 c7+0", "late a 6", "a+13 b+0 c7+2", "late b 1", "a+0 b+5 c7+0", "late b 6", "a+0 b+6 c7+0", "late c7 3", "a+0 b+5 c7+3", "late a 10000", "a+9998 b+0 c7+0", "late c7 10000", "a+0 b+5 c7+10000")
	refuses(t, d, "late a 10001", "late a 999999", "late d 0", "late A 0", "late c 0", "late 0 0", "late a", "late 5", "late 5 a", "late a b 5", "day 0", "day a", "late c7 10001")
	// What is played stays a plan.
	play(t, d, "late a 4", "a+2 b+9 c7+0", "day", "a+0 b+5 c7+0", "settle 0", "0 5 0", "day", "a+0 b+0 c7+0", "late a 4", "a+2 b+4 c7+0")
	play(t, d, "trip z 0@00:10-00:10 2@00:20-00:20", "ok", "day", "no", "late a 0", "no", "late z 0", "no", "edge 2 0 9 9", "4", "day", "a+0 b+5 c7+0 z+0", "cut 4", "ok", "day", "no")
	play(t, firstDesk(), "trip a 0@00:10-00:10 1@00:20-00:20", "ok", "day", "no", "late a 5", "no", "nodes 2", "ok", "day", "no", "edge 1 0 9 9", "0", "day", "a+0", "late a 5", "a+5")
}

func TestLineFare(t *testing.T) {
	d := firstDesk()
	play(t, d, "fare 0 0", "100", "fare 0 1", "150", "fare 1 0", "150", "fare 0 19", "1050", "fare 19 0", "1050", "fare 19 19", "100", "fare 3 10", "450")
	refuses(t, d, "fare 0 20", "fare 20 0", "fare 20 20", "fare 999999 0", "fare 0 999999")
	for from := range 20 {
		for to := range 20 {
			play(t, d, fmt.Sprintf("fare %d %d", from, to), strconv.Itoa(impl.Fare(tariff(100, 50, 10), from, to)))
		}
	}
}

func TestLineBookAndUnbook(t *testing.T) {
	d := play(t, firstDesk(), "book 5 0 2", "0", "book 5 0 2", "no", "book 5 3 4", "no", "book 6 2 5", "0", "book 4 0 5", "1", "show seats", "4@1:0-5 5@0:0-2 6@0:2-5")
	refuses(t, d, "book 7 0 0", "book 7 3 3", "book 7 5 5", "book 7 3 2", "book 7 0 6", "book 7 5 6", "book 7 4 999999", "book 0 0 1", "unbook 7", "unbook 0", "unbook 999999")
	d = play(t, d, "book 7 0 5", "2", "book 8 1 4", "3", "book 9 2 3", "no", "book 9 0 1", "3", "book 10 4 5", "3", "book 11 0 1", "no", "book 11 4 5", "no")
	play(t, d, "unbook 5", "ok", "unbook 5", "no", "show seats", "4@1:0-5 6@0:2-5 7@2:0-5 8@3:1-4 9@3:0-1 10@3:4-5", "book 5 0 1", "0", "book 99 1 2", "0", "unbook 4", "ok", "unbook 10", "ok", "unbook 99", "ok", "unbook 6", "ok", "unbook 7", "ok", "unbook 8", "ok", "unbook 9", "ok", "show seats", "5@0:0-1", "unbook 5", "ok", "show seats", "nothing", "unbook 5", "no")
	// The smallest hole, and the least seat of those.
	play(t, firstDesk(), "book 1 0 2", "0", "book 2 0 3", "1", "book 3 3 4", "1", "book 4 4 5", "1", "book 5 4 5", "0")
	full := firstDesk()
	full.Seats = crowd(199)
	play(t, full, "book 500 0 1", "19", "book 501 0 1", "no", "unbook 500", "ok", "book 501 0 1", "19")
}

func TestLineShunt(t *testing.T) {
	d := firstDesk()
	play(t, d, "shunt 0 1 2", "ok", "show yard", "5,3,4 1,2 -", "shunt 0 2 3", "ok", "show yard", "- 1,2 5,3,4", "shunt 0 1 1", "no", "shunt 1 2 2", "no", "shunt 1 2 1", "ok", "show yard", "- 1 5,3,4,2", "shunt 1 2 1", "no", "shunt 2 0 4", "ok", "show yard", "5,3,4,2 1 -", "shunt 1 0 1", "ok", "show yard", "5,3,4,2,1 - -")
	refuses(t, d, "shunt 0 3 1", "shunt 3 0 1", "shunt 3 4 1", "shunt 0 0 1", "shunt 1 1 1", "shunt 0 1 0", "shunt 0 1 6", "shunt 0 1 5", "shunt 1 0 1", "shunt 0 999999 1", "shunt 999999 0 1", "shunt 0 1 999999")
	play(t, d, "shunt 0 1 4", "ok", "show yard", "5 3,4,1,2 -", "shunt 0 1 1", "no", "shunt 1 0 4", "ok", "show yard", "5,3,4,1,2 - -")
}

func TestLineHump(t *testing.T) {
	play(t, firstDesk(), "hump 0", "3", "show yard", "1,2,3,4,5 - -", "hump 0", "3", "show yard", "1,2,3,4,5 - -", "hump 1", "0", "hump 2", "0", "hump 3", "no", "hump 999999", "no", "show yard", "1,2,3,4,5 - -")
	play(t, firstDesk(), "shunt 0 1 1", "ok", "hump 1", "2", "show yard", "5,3,4,1 2 -", "shunt 0 2 1", "ok", "hump 2", "1", "hump 0", "3", "show yard", "3,4,5 2 1")
	d := firstDesk()
	d.Yard = fullYard()
	slices.Reverse(d.Yard.Rows[5])
	d.Yard.Rows[3][7] = 9999
	d, _ = checkLine(t, d, "hump 3")
	if d.Yard.Rows[3][39] != 9999 || !slices.IsSorted(d.Yard.Rows[3]) {
		t.Error(d.Yard)
	}
	play(t, d, "hump 3", "14", "hump 5", "8", "hump 6", "no", "hump 0", "6")
}

func TestLineFormAndTurn(t *testing.T) {
	d := firstDesk()
	play(t, d, "form -", "0", "turn -", "-", "form A12/25>", "25", "turn A12/25>", "A12/25<", "turn A12/25<", "A12/25>", "form A12/25>+B7/30<+I9999/200>", "255", "turn A12/25>+B7/30<+I9999/200>", "I9999/200<+B7/30>+A12/25<", "form A1/1>", "1")
	for _, text := range wrongTexts() {
		refuses(t, d, "form "+text, "turn "+text)
	}
	refuses(t, d, "form", "turn", "form ", "turn ", "form A12/25> +A7/30<", "turn A12/25> A7/30<", "form - -", "form A12/25>+A12/30<", "form a12/25>", "form A012/25>", "form A12/25>+", "form +A12/25>")
	for _, list := range rightForms() {
		if text := impl.StockText(list); text != "" {
			play(t, d, "form "+text, strconv.Itoa(impl.FormLen(list)), "turn "+text, impl.StockText(impl.Turn(list)))
		}
	}
}

func TestLineShow(t *testing.T) {
	for _, d := range rightDesks() {
		for _, what := range []string{"net", "trips", "seats", "yard"} {
			if _, told := checkLine(t, d, "show "+what); told == "no" {
				t.Error(what, d)
			}
		}
		refuses(t, d, "show", "show nothing", "show net net", "show edges", "show table", "show")
	}
	ends := firstDesk()
	ends.Net = impl.Net{Nodes: 30, Edges: []impl.Edge{{A: 29, B: 0, Len: 100000, Limit: 90}, {A: 0, B: 29, Len: 1, Limit: 1}}}
	ends.Seats = coach(60, 11, booked(1, 59, 0, 11), booked(math.MaxInt, 0, 10, 11))
	ends.Yard = yardWith([]int{1, 40, 3}, nil, []int{9999, 1}, []int{2})
	play(t, ends, "show net", "30 29-0/100000 0-29/1", "show seats", "1@59:0-11 9223372036854775807@0:10-11", "show yard", "- 9999,1 2")
}

func TestLinesAtWrongDesks(t *testing.T) {
	list := append([]string{"nodes 3", "ok"}, doneLines()...)
	for name, d := range wrongDesks() {
		was := deskTwin(d)
		for k := 0; k < len(list); k += 2 {
			then, told := impl.DoLine(d, list[k])
			if told != "no" || !sameDesk(then, was) {
				t.Fatalf("%s: %q tells %q and leaves %v", name, list[k], told, then)
			}
		}
		// The answer is memory of its own here too.
		for _, line := range []string{"show net", "", "# a remark", "x", strings.Repeat("x", 400)} {
			then, _ := impl.DoLine(d, line)
			if !spoilDesk(then) || !sameDesk(d, was) {
				t.Fatalf("%s: %q shares memory", name, line)
			}
		}
		then, told := impl.Replay(d, []string{"show net", "", "nodes 1", "#", "day"})
		if !sameDesk(then, was) || !slices.Equal(told, []string{"no", "", "no", "", "no"}) {
			t.Fatalf("%s: %v, %q", name, then, told)
		}
	}
}

// TestLinesWithOtherWords puts every odd word in place of every word of every line, at two desks.
func TestLinesWithOtherWords(t *testing.T) {
	odd := []string{"", "0", "00", "1", "3", "4", "5", "6", "19", "20", "29", "30", "31", "50", "51", "60", "61", "90", "91", "10000", "10001", "100000", "100001", "999999", "1000000", "-1", "+1", "a", "b", "c7", "A", "d", "00:00", "24:00", "1666:40", "1666:41", "7:05", "-", "A1/1>", "net", "yard", "show", "day", "#", "\t", "0@00:10-00:10", "5@00:40-00:40"}
	list := append([]string{"nodes 3", "ok"}, doneLines()...)
	for _, d := range []impl.Desk{busyDesk(), firstDesk()} {
		for k := 0; k < len(list); k += 2 {
			words := strings.Split(list[k], " ")
			for place := range words {
				for _, word := range odd {
					other := slices.Clone(words)
					other[place] = word
					checkLine(t, d, strings.Join(other, " "))
				}
			}
		}
	}
}

// lineAt throws a line that has something to do with the desk, and now and then is spoilt.
func lineAt(d *dice, desk impl.Desk) string {
	node := func() int { return d.below(desk.Net.Nodes + d.below(2)) }
	name := func() string {
		if len(desk.Table) == 0 || d.below(8) == 0 {
			return "t" + strconv.Itoa(d.below(9))
		}
		return desk.Table[d.below(len(desk.Table))].Name
	}
	lines := []func() string{
		func() string { return fmt.Sprintf("nodes %d", d.below(8)) },
		func() string {
			return fmt.Sprintf("edge %d %d %d %d", node(), node(), d.below(9)*d.below(9), 1+d.below(92))
		},
		func() string { return fmt.Sprintf("edge %d %d %d %d", node(), node(), 1+d.below(3), 1+d.below(90)) },
		func() string { return fmt.Sprintf("cut %d", d.below(20)) },
		func() string { return fmt.Sprintf("way %d %d", node(), node()) },
		func() string { return "trip " + tripFor(d, desk) },
		func() string { return "trip " + tripFor(d, desk) },
		func() string { return "drop " + name() },
		func() string { return fmt.Sprintf("clash %d", d.below(13)*d.below(6)) },
		func() string { return fmt.Sprintf("settle %d", d.below(13)*d.below(6)) },
		func() string {
			return fmt.Sprintf("board %d 00:%02d %d", node(), d.below(61), d.below(8)*d.below(8))
		},
		func() string { return fmt.Sprintf("go %d %d 00:%02d %d", node(), node(), d.below(60), d.below(6)) },
		func() string { return "day" },
		func() string { return fmt.Sprintf("late %s %d", name(), d.below(40)) },
		func() string { return fmt.Sprintf("fare %d %d", d.below(21), d.below(21)) },
		func() string { return fmt.Sprintf("book %d %d %d", d.below(30), d.below(5), d.below(7)) },
		func() string { return fmt.Sprintf("unbook %d", d.below(30)) },
		func() string { return fmt.Sprintf("shunt %d %d %d", d.below(4), d.below(4), d.below(5)) },
		func() string { return fmt.Sprintf("hump %d", d.below(4)) },
		func() string { return "form " + wholeText(someForm(d, d.below(14), false)) },
		func() string { return "turn " + wholeText(someForm(d, d.below(14), false)) },
		func() string { return "show " + []string{"net", "trips", "seats", "yard", "desk"}[d.below(5)] },
		func() string { return []string{"", "# show net", "#", " ", "x"}[d.below(5)] },
	}
	line := lines[d.below(len(lines))]()
	if d.below(12) == 0 && line != "" {
		at := d.below(len(line))
		return line[:at] + []string{" ", "0", "", "\t", "A", "#", "-", "\xff"}[d.below(8)] + line[at+d.below(2):]
	}
	return line
}

// tripFor rides the net where it can, and else goes where there is no edge.
func tripFor(d *dice, desk impl.Desk) string {
	name := "t" + strconv.Itoa(d.below(60))
	if len(desk.Net.Edges) > 0 && d.below(10) > 0 {
		return impl.TripText(tripOn(d, desk.Net, name, d.below(40), 9))
	}
	return impl.TripText(someTrip(d, name, d.below(40), 9, 2+d.below(5)))
}

// checkSession holds a session against the chapter's words, and against the replay of its lines.
func checkSession(t *testing.T, text string) (string, int) {
	t.Helper()
	told, count := impl.Session(text)
	if want, wanted := sessionByWords(text); told != want || count != wanted {
		t.Fatalf("Session(%q): %q, %d, not %q, %d", text, told, count, want, wanted)
	}
	if again, n := impl.Session(text); again != told || n != count {
		t.Fatalf("Session(%q) for the second time: %q, %d", text, again, n)
	}
	return told, count
}

func checkReplay(t *testing.T, d impl.Desk, lines []string) (impl.Desk, []string) {
	t.Helper()
	was, given := deskTwin(d), slices.Clone(lines)
	then, told := impl.Replay(d, lines)
	want, wanted := deskTwin(d), []string(nil)
	for k := 0; k < len(lines) && len(lines) <= 120; k++ {
		var one string
		want, one = lineByWords(want, lines[k])
		wanted = append(wanted, one)
	}
	if !sameDesk(then, want) || !slices.Equal(told, wanted) {
		t.Fatalf("Replay(%v, %q): %v, %q, not %v, %q", was, lines, then, told, want, wanted)
	}
	again, toldAgain := impl.Replay(d, lines)
	if !spoilDesk(then) || !sameDesk(again, want) || !slices.Equal(toldAgain, wanted) || !sameDesk(d, was) || !slices.Equal(lines, given) {
		t.Fatalf("Replay(%v, %q): memory is shared, or the second answer is another one", was, lines)
	}
	return again, told
}

func TestPromise24(t *testing.T) {
	d := &dice{state: 221}
	answers := map[string]int{}
	for range 250 {
		desk := impl.NewDesk()
		var lines, all []string
		for range 20 + d.below(101) {
			line := lineAt(d, desk)
			was := deskTwin(desk)
			then, told := checkLine(t, desk, line)
			if !impl.DeskOk(then) {
				t.Fatalf("%q leaves %v", line, then)
			}
			if told == "no" && !sameDesk(then, was) {
				t.Fatalf("%q is refused and leaves %v", line, then)
			}
			answers[told]++
			desk = then
			lines, all = append(lines, line), append(all, told)
		}
		end, told := checkReplay(t, impl.NewDesk(), lines)
		if !sameDesk(end, desk) || !slices.Equal(told, all) {
			t.Fatalf("the replay of %q leaves %v, not %v", lines, end, desk)
		}
		text := strings.Join(lines, "\n")
		if len(text) >= impl.MaxText {
			continue
		}
		wanted, count := "", len(lines)
		for _, one := range all {
			if one != "" {
				wanted += one + "\n"
			}
		}
		if told, n := checkSession(t, text+"\n"); told != wanted || n != count {
			t.Fatalf("%q: %q, %d, not %q, %d", text, told, n, wanted, count)
		}
		if lines[count-1] == "" {
			count--
		}
		if told, n := checkSession(t, text); told != wanted || n != count {
			t.Fatalf("%q: %q, %d, not %q, %d", text, told, n, wanted, count)
		}
	}
	for _, told := range []string{"ok", "no", "", "none", "clean", "nothing", "here", "0", "1"} {
		if answers[told] < 50 {
			t.Error("seldom told", told, answers[told])
		}
	}
	if answers["no"]*2 > 250*70 {
		t.Error("most is refused", answers["no"])
	}
}

func TestSession(t *testing.T) {
	cases := map[string]struct {
		text, told string
		lines      int
	}{
		"empty":                          {"", "", 0},
		"one byte 10":                    {"\n", "", 1},
		"two":                            {"\n\n", "", 2},
		"a line without its end":         {"show net", "1\n", 1},
		"a line with its end":            {"show net\n", "1\n", 1},
		"a byte 10 ahead":                {"\nshow net", "1\n", 2},
		"an empty line at the end":       {"show net\n\n", "1\n", 2},
		"an empty line between":          {"show net\n\nshow net", "1\n1\n", 3},
		"a remark":                       {"# x", "", 1},
		"a remark with its end":          {"# x\n", "", 1},
		"a remark between":               {"nodes 2\n#\nshow net", "ok\n2\n", 3},
		"a blank":                        {" ", "no\n", 1},
		"a blank at the end":             {"show net\n ", "1\nno\n", 2},
		"a byte 13":                      {"\r", "no\n", 1},
		"bytes 13 and 10":                {"show net\r\nshow net\r\n", "no\nno\n", 2},
		"a byte 13 between":              {"show net\rshow net", "no\n", 1},
		"a byte 13 in a remark":          {"# x\r\nshow net\n", "1\n", 2},
		"a byte 13 in an empty line":     {"\r\nshow net", "no\n1\n", 2},
		"a byte 0":                       {"show net\x00show net", "no\n", 1},
		"bytes above 127":                {"\xff\n\x85\n\u2028show net\n# \xff\nshow net", "no\nno\nno\n1\n", 5},
		"half a rune ahead of a byte 10": {"\xe2\x80\nshow net", "no\n1\n", 2},
		"every session is new":           {"nodes 2\nbook 1 0 5\nshunt 0 1 1\ntrip a 0@00:10-00:10 1@00:20-00:20", "ok\n0\nok\nok\n", 4},
		"refused, and on":                {"cut 0\nnodes 0\nshow net\ndrop a", "no\nno\n1\nno\n", 4},
	}
	for range 2 {
		for name, c := range cases {
			if told, lines := checkSession(t, c.text); told != c.told || lines != c.lines {
				t.Errorf("%s: %q, %d", name, told, lines)
			}
		}
	}
}

func TestSessionLimits(t *testing.T) {
	// 120 lines of 50 bytes, their ends among them: as many bytes and as many lines as may be.
	row := "#" + strings.Repeat("x", 48) + "\n"
	full := strings.Repeat(row, 119) + strings.Repeat("x", 49) + "\n"
	cases := map[string]struct {
		text, told string
		lines      int
	}{
		"just both":                      {full, "no\n", 120},
		"one byte fewer":                 {full[:5999], "no\n", 120},
		"one byte more":                  {full + "x", "", -1},
		"one byte more, an end":          {full + "\n", "", -1},
		"one byte more, one line":        {strings.Repeat("#", 6001), "", -1},
		"MaxText bytes, one line":        {strings.Repeat("#", 6000), "", 1},
		"MaxText bytes, a long line":     {strings.Repeat("x", 6000), "no\n", 1},
		"MaxText bytes of byte 10":       {strings.Repeat("\n", 6000), "", -2},
		"one more byte 10":               {strings.Repeat("\n", 6001), "", -1},
		"MaxLines empty lines":           {strings.Repeat("\n", 120), "", 120},
		"one more":                       {strings.Repeat("\n", 121), "", -2},
		"MaxLines and one without end":   {strings.Repeat("\n", 120) + "#", "", -2},
		"MaxLines, the last without end": {strings.Repeat("\n", 119) + "show net", "1\n", 120},
		"MaxLines lines that tell":       {strings.Repeat("show net\n", 120), strings.Repeat("1\n", 120), 120},
		"one more line that tells":       {strings.Repeat("show net\n", 121), "", -2},
		"one remark too many":            {strings.Repeat("#\n", 121), "", -2},
		"both too many":                  {strings.Repeat("show net\n", 1000), "", -1},
		"a line too many, just MaxText":  {strings.Repeat("#\n", 121) + strings.Repeat("x", 5758), "", -2},
		"far too many bytes":             {strings.Repeat("show net\n", 200000), "", -1},
		"a long line tells no, and on":   {strings.Repeat("x", 321) + "\nshow net\n#" + strings.Repeat("x", 400) + "\nday", "no\n1\nnothing\n", 4},
		"a line of MaxLine bytes":        {"show net\n" + strings.Repeat("x", 320) + "\nshow net", "1\nno\n1\n", 3},
	}
	for name, c := range cases {
		if told, lines := checkSession(t, c.text); told != c.told || lines != c.lines {
			t.Errorf("%s: %q, %d", name, told, lines)
		}
	}
	if len(full) != 6000 {
		t.Error(len(full))
	}
}

func TestReplay(t *testing.T) {
	for _, d := range []impl.Desk{firstDesk(), busyDesk(), {}} {
		for _, lines := range [][]string{nil, {}} {
			if then, told := checkReplay(t, d, lines); len(told) != 0 || !sameDesk(then, d) {
				t.Error(then, told)
			}
		}
	}
	then, told := checkReplay(t, busyDesk(), []string{"nodes 2", "settle 0", "", "#", "drop a", "show trips", "drop a"})
	if !slices.Equal(told, []string{"no", "0 5 0", "", "", "ok", "b 1@00:20-00:20 0@00:30-00:30 ; c7 2@00:40-00:41 1@00:50-00:50 0@01:00-01:00", "no"}) || len(then.Table) != 2 {
		t.Error(told, then)
	}
	// A line is one text, whatever bytes it has.
	_, told = checkReplay(t, firstDesk(), []string{"show net\nshow net", "show net\n", "\n", "show net"})
	if !slices.Equal(told, []string{"no", "no", "no", "1"}) {
		t.Error(told)
	}
	lines := slices.Repeat([]string{"book 1 0 1", "unbook 1", "show yard"}, 40)
	if _, told := checkReplay(t, firstDesk(), lines); len(told) != 120 || told[118] != "ok" {
		t.Error(told)
	}
	for _, more := range []string{"", "#", "show net", "nodes 2"} {
		then, told := checkReplay(t, busyDesk(), append(slices.Clone(lines), more))
		if len(told) != 0 || !sameDesk(then, busyDesk()) {
			t.Error("one line more", then, told)
		}
	}
	if then, told := checkReplay(t, firstDesk(), make([]string, 100000)); len(told) != 0 || !sameDesk(then, firstDesk()) {
		t.Error("far too many lines")
	}
	if then, told := impl.Replay(impl.Desk{}, make([]string, 121)); told != nil || !sameDesk(then, impl.Desk{}) {
		t.Error("too many lines at a desk that is not right")
	}
	// In pieces it is the same.
	d := &dice{state: 222}
	for range 40 {
		desk, all := impl.NewDesk(), []string(nil)
		for range 60 {
			line := lineAt(d, desk)
			desk, _ = impl.DoLine(desk, line)
			all = append(all, line)
		}
		cut := d.below(61)
		half, first := checkReplay(t, impl.NewDesk(), all[:cut])
		end, rest := checkReplay(t, half, all[cut:])
		whole, told := checkReplay(t, impl.NewDesk(), all)
		if !sameDesk(end, whole) || !slices.Equal(slices.Concat(first, rest), told) {
			t.Fatalf("%q, cut at %d", all, cut)
		}
	}
}

// deskWithRoom has room behind all its lists, in which something stands that would be seen to change; its lists also share memory.
func deskWithRoom() (impl.Desk, func() bool) {
	busy := busyDesk()
	edges := append(slices.Clone(busy.Net.Edges), impl.Edge{A: -5}, impl.Edge{A: -6})
	calls := []impl.Call{at(0, 10, 10), at(1, 20, 22), at(2, 30, 30), at(1, 40, 40)}
	trips := []impl.Trip{tripOf("a", calls[:3]...), tripOf("b", calls[1:3]...), tripOf("c7", calls[2:4]...), tripOf("x"), tripOf("y")}
	trips[0].Calls, trips[1].Calls = calls[:3], calls[1:3]
	held := append(slices.Clone(busy.Seats.Held), booked(-1, -1, -1, -1), booked(-2, -2, -2, -2))
	yard, memory := yardInOneList()
	d := impl.Desk{Net: impl.Net{Nodes: 6, Edges: edges[:4]}, Table: trips[:3], Seats: coach(4, 5), Yard: yard}
	d.Seats.Held = held[:2]
	wereEdges, wereCalls, wereTrips, wereHeld, wasMemory, wereRows := slices.Clone(edges), slices.Clone(calls), tableCopy(trips), slices.Clone(held), slices.Clone(memory), yardCopy(impl.Sidings{Rows: yard.Rows[:4]})
	return d, func() bool {
		return slices.Equal(edges, wereEdges) && slices.Equal(calls, wereCalls) && sameTable(trips, wereTrips) && slices.Equal(held, wereHeld) && slices.Equal(memory, wasMemory) && sameYard(impl.Sidings{Rows: yard.Rows[:4]}, wereRows)
	}
}

func TestDeskLeavesItsArgumentsAlone(t *testing.T) {
	list := append([]string{"", "", "#", "", "x", "no", "nodes 3", "no"}, doneLines()...)
	for k := 0; k < len(list); k += 2 {
		d, asItWas := deskWithRoom()
		if !impl.DeskOk(d) || !deskByWords(d) {
			t.Fatal(d)
		}
		checkLine(t, d, list[k])
		room := []string{list[k], "trip n 0@00:10-00:10 1@00:20-00:22", "settle 60", "edge 0 1 9 9", "book 9 0 1", "shunt 0 1 1", "shunt 1 2 2", "hump 0", "drop a", "unbook 3", "cut 0", "behind", "behind"}
		given := slices.Clone(room)
		checkReplay(t, d, room[:11])
		if !asItWas() || !slices.Equal(room, given) {
			t.Fatalf("%q: the desk was changed", list[k])
		}
		then, told := impl.Replay(d, room[:11])
		for place := range told {
			told[place] = "spoilt"
		}
		_ = append(told, "spoilt")
		if !spoilDesk(then) || !asItWas() || !slices.Equal(room, given) {
			t.Fatalf("%q: memory is shared", list[k])
		}
	}
}

// TestDesksAreOne asks from many sides at once: no call knows of another.
func TestDesksAreOne(t *testing.T) {
	before := runtime.NumGoroutine()
	d := &dice{state: 223}
	desk, lines := impl.NewDesk(), []string(nil)
	for range 100 {
		line := lineAt(d, desk)
		desk, _ = impl.DoLine(desk, line)
		lines = append(lines, line)
	}
	want, wanted := checkReplay(t, impl.NewDesk(), lines)
	text := "nodes 2\nedge 0 1 9 9\ntrip a 0@00:10-00:10 1@00:20-00:20\nlate a 3\nbook 1 0 5\nhump 0\nshow yard"
	var all sync.WaitGroup
	for range 16 {
		all.Go(func() {
			for range 10 {
				then, told := impl.Replay(impl.NewDesk(), lines)
				if !sameDesk(then, want) || !slices.Equal(told, wanted) {
					t.Error("another replay")
				}
				if told, n := impl.Session(text); told != "ok\n0\nok\na+3\n0\n3\n1,2,3,4,5 - -\n" || n != 7 {
					t.Error("another session", told, n)
				}
			}
		})
	}
	all.Wait()
	for try := 0; try < 10000 && runtime.NumGoroutine() > before; try++ {
		runtime.Gosched()
	}
	if after := runtime.NumGoroutine(); after > before {
		t.Error("goroutines are left", before, after)
	}
}

func TestDeskNeverPanics(t *testing.T) {
	d := &dice{state: 224}
	extremes := []int{math.MinInt, math.MinInt + 1, -1, 0, 1, 2, 5, 30, 31, 60, 61, 100000, math.MaxInt - 1, math.MaxInt}
	pick := func() int { return extremes[d.below(len(extremes))] }
	for range 3000 {
		desk := busyDesk()
		switch d.below(6) {
		case 0:
			desk.Net = impl.Net{Nodes: pick(), Edges: []impl.Edge{{A: pick(), B: pick(), Len: pick(), Limit: pick()}}}
		case 1:
			desk.Table = []impl.Trip{tripOf("a", at(pick(), pick(), pick()), at(pick(), pick(), pick())), {}}[:d.below(3)]
		case 2:
			desk.Seats = coach(pick(), pick(), booked(pick(), pick(), pick(), pick()))
		case 3:
			desk.Yard = yardWith([]int{pick(), pick()}, []int{pick()}, nil)
		case 4:
			desk = impl.Desk{}
		}
		line := lineAt(d, busyDesk())
		if d.below(3) == 0 {
			line = string(someBytes(d, d.below(30), 3))
		}
		if panicsIn(func() {
			checkLine(t, desk, line)
			checkReplay(t, desk, []string{line, "show net", line})
			checkSession(t, line)
			if impl.DeskOk(desk) != deskByWords(desk) {
				t.Errorf("DeskOk(%v)", desk)
			}
		}) {
			t.Fatalf("%v, %q", desk, line)
		}
	}
	if impl.DeskOk(impl.Desk{}) {
		t.Error("the zero value")
	}
	huge := impl.Desk{Net: impl.Net{Nodes: 2, Edges: make([]impl.Edge, 100000)}, Table: make([]impl.Trip, 100000), Seats: impl.Train{Held: make([]impl.Booking, 100000)}, Yard: impl.Sidings{Room: make([]int, 100000), Rows: make([][]int, 100000)}}
	if then, told := impl.DoLine(huge, "show net"); told != "no" || impl.DeskOk(huge) || !sameDesk(then, huge) {
		t.Error("a huge desk")
	}
}

// programText has the declarations of the program by their names: functions, methods, and what stands at package level.
func programText(t *testing.T) map[string][]ast.Node {
	t.Helper()
	files, err := filepath.Glob("../impl/*.go")
	if err != nil || len(files) == 0 {
		t.Fatal(files, err)
	}
	named := map[string][]ast.Node{}
	for _, name := range files {
		file, err := parser.ParseFile(token.NewFileSet(), name, nil, parser.SkipObjectResolution)
		if err != nil {
			t.Fatal(err)
		}
		for _, d := range file.Decls {
			switch x := d.(type) {
			case *ast.FuncDecl:
				named[x.Name.Name] = append(named[x.Name.Name], x)
			case *ast.GenDecl:
				for _, s := range x.Specs {
					if v, ok := s.(*ast.ValueSpec); ok {
						for _, n := range v.Names {
							named[n.Name] = append(named[n.Name], v)
						}
					}
				}
			}
		}
	}
	return named
}

// reachedFrom has all names that the declaration of a name leads to, by names alone: rather one too many than one too few.
func reachedFrom(named map[string][]ast.Node, name string) map[string]bool {
	reached := map[string]bool{}
	work := []string{name}
	for len(work) > 0 {
		first := work[0]
		work = work[1:]
		for _, n := range named[first] {
			ast.Inspect(n, func(n ast.Node) bool {
				if id, ok := n.(*ast.Ident); ok && !reached[id.Name] {
					reached[id.Name] = true
					work = append(work, id.Name)
				}
				return true
			})
		}
	}
	return reached
}

// textsIn has the texts that are written out in the declaration of a name, sorted.
func textsIn(t *testing.T, named map[string][]ast.Node, name string) []string {
	t.Helper()
	if len(named[name]) != 1 {
		t.Fatalf("%s stands %d times", name, len(named[name]))
	}
	var texts []string
	ast.Inspect(named[name][0], func(n ast.Node) bool {
		if lit, ok := n.(*ast.BasicLit); ok && lit.Kind == token.STRING {
			text, err := strconv.Unquote(lit.Value)
			if err != nil {
				t.Fatal(err)
			}
			texts = append(texts, text)
		}
		return true
	})
	slices.Sort(texts)
	return texts
}

// TestRegistryStandsBeside asks the program's text, since no answer hangs on the registry: start-up fills it, once, with all
// commands; Session alone reads it; and what a line does is told without it.
func TestRegistryStandsBeside(t *testing.T) {
	named := programText(t)
	start := reachedFrom(named, "init")
	for _, name := range []string{"commands", "commandsMade", "Once", "Do", "makeCommands", "commandNamed"} {
		if !start[name] {
			t.Error("start-up has no", name)
		}
	}
	for _, name := range []string{"DeskOk", "NewDesk", "DoLine", "Session", "Replay"} {
		reached := reachedFrom(named, name)
		for _, kept := range []string{"commands", "commandsMade"} {
			if reached[kept] != (name == "Session") {
				t.Errorf("%s reads %s: %v", name, kept, reached[kept])
			}
		}
	}
	wanted := []string{"nodes", "edge", "cut", "way", "trip", "drop", "clash", "settle", "board", "go", "day", "late", "fare", "book", "unbook", "shunt", "hump", "form", "turn", "show"}
	slices.Sort(wanted)
	for _, name := range []string{"makeCommands", "commandNamed"} {
		if texts := textsIn(t, named, name); !slices.Equal(texts, wanted) {
			t.Error(name, texts)
		}
	}
}
