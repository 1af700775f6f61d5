package tests

import (
	"math"
	"slices"
	"sync"
	"testing"

	"loop.example/g00075/impl"
)

func coach(seats, count int, held ...impl.Booking) impl.Train {
	return impl.Train{Seats: seats, Pieces: count, Held: held}
}

func booked(id, seat, on, off int) impl.Booking {
	return impl.Booking{Id: id, Seat: seat, On: on, Off: off}
}

func toSell(id, on, off int) impl.Sale {
	return impl.Sale{Kind: 0, Id: id, On: on, Off: off}
}

func toTakeBack(id int) impl.Sale {
	return impl.Sale{Kind: 1, Id: id}
}

// crowd books so many times one piece of a train with all seats and all pieces, seat after seat.
func crowd(count int) impl.Train {
	f := coach(60, 11)
	for k := range count {
		f.Held = append(f.Held, booked(k+1, k/11%60, k%11, k%11+1))
	}
	return f
}

func coachCopy(f impl.Train) impl.Train {
	f.Held = slices.Clone(f.Held)
	return f
}

func sameCoach(a, b impl.Train) bool {
	return a.Seats == b.Seats && a.Pieces == b.Pieces && slices.Equal(a.Held, b.Held)
}

func rideByWords(f impl.Train, on, off int) bool {
	return 0 <= on && on < off && off <= f.Pieces
}

// coachByWords holds every two bookings against each other.
func coachByWords(f impl.Train) bool {
	if f.Seats < 1 || f.Seats > 60 || f.Pieces < 1 || f.Pieces > 11 || len(f.Held) > 200 {
		return false
	}
	for k, a := range f.Held {
		if a.Id < 1 || a.Seat < 0 || a.Seat >= f.Seats || !rideByWords(f, a.On, a.Off) {
			return false
		}
		for _, b := range f.Held[:k] {
			if b.Id >= a.Id || a.Seat == b.Seat && max(a.On, b.On) < min(a.Off, b.Off) {
				return false
			}
		}
	}
	return true
}

func heldByWords(f impl.Train, seat, piece int) bool {
	return slices.ContainsFunc(f.Held, func(b impl.Booking) bool { return b.Seat == seat && b.On <= piece && piece < b.Off })
}

func freeAllAlong(f impl.Train, seat, on, off int) bool {
	for piece := on; piece < off; piece++ {
		if heldByWords(f, seat, piece) {
			return false
		}
	}
	return true
}

func freeSeatsByWords(f impl.Train, on, off int) []int {
	var free []int
	if !coachByWords(f) || !rideByWords(f, on, off) {
		return nil
	}
	for seat := range f.Seats {
		if freeAllAlong(f, seat, on, off) {
			free = append(free, seat)
		}
	}
	return free
}

// holeByWords asks each run of pieces around the ride.
func holeByWords(f impl.Train, seat, on, off int) int {
	most := 0
	if !slices.Contains(freeSeatsByWords(f, on, off), seat) {
		return 0
	}
	for first := 0; first <= on; first++ {
		for end := off; end <= f.Pieces; end++ {
			if freeAllAlong(f, seat, first, end) {
				most = max(most, end-first)
			}
		}
	}
	return most
}

func hasIdByWords(f impl.Train, id int) bool {
	return slices.ContainsFunc(f.Held, func(b impl.Booking) bool { return b.Id == id })
}

func bookByWords(f impl.Train, id, on, off int) (impl.Train, int) {
	then := coachCopy(f)
	if !coachByWords(f) || id <= 0 || hasIdByWords(f, id) || len(f.Held) == 200 {
		return then, -1
	}
	best := -1
	for _, seat := range freeSeatsByWords(f, on, off) {
		if best < 0 || holeByWords(f, seat, on, off) < holeByWords(f, best, on, off) {
			best = seat
		}
	}
	if best >= 0 {
		then.Held = append(then.Held, booked(id, best, on, off))
		slices.SortFunc(then.Held, func(a, b impl.Booking) int { return a.Id - b.Id })
	}
	return then, best
}

func unbookByWords(f impl.Train, id int) (impl.Train, bool) {
	then := coachCopy(f)
	if !coachByWords(f) || !hasIdByWords(f, id) {
		return then, false
	}
	then.Held = slices.DeleteFunc(then.Held, func(b impl.Booking) bool { return b.Id == id })
	return then, true
}

func spreadByWords(f impl.Train, on, off int) []int {
	if !coachByWords(f) || !rideByWords(f, on, off) {
		return nil
	}
	var list []int
	for on+len(list) < off {
		at, best, most := on+len(list), -1, 0
		for seat := range f.Seats {
			for count := most + 1; at+count <= off && freeAllAlong(f, seat, at, at+count); count++ {
				best, most = seat, count
			}
		}
		if most == 0 {
			return nil
		}
		for range most {
			list = append(list, best)
		}
	}
	return list
}

// fewestChanges goes piece by piece and keeps for each seat how often one has changed who sits there; -1 when on some
// piece no seat is free.
func fewestChanges(f impl.Train, on, off int) int {
	const never = 1000
	past := make([]int, f.Seats)
	for piece := on; piece < off; piece++ {
		now := slices.Repeat([]int{never}, f.Seats)
		for seat := range f.Seats {
			if heldByWords(f, seat, piece) {
				continue
			}
			now[seat] = min(past[seat], slices.Min(past)+1)
		}
		past = now
	}
	if slices.Min(past) >= never {
		return -1
	}
	return slices.Min(past)
}

func salesByWords(f impl.Train, sales []impl.Sale) (impl.Train, []int) {
	then, list := coachCopy(f), []int(nil)
	if !coachByWords(f) || len(sales) > 200 {
		return then, nil
	}
	for _, s := range sales {
		answer, gone := -1, false
		switch s.Kind {
		case 0:
			then, answer = bookByWords(then, s.Id, s.On, s.Off)
		case 1:
			if then, gone = unbookByWords(then, s.Id); gone {
				answer = 0
			}
		}
		list = append(list, answer)
	}
	return then, list
}

// checkRide asks all that reads a train for one ride.
func checkRide(t *testing.T, f impl.Train, on, off int) {
	t.Helper()
	was := coachCopy(f)
	if got := impl.TrainOk(f); got != coachByWords(f) {
		t.Fatalf("TrainOk(%+v): %v", f, got)
	}
	if got, want := impl.FreeSeats(f, on, off), freeSeatsByWords(f, on, off); !slices.Equal(got, want) {
		t.Fatalf("FreeSeats(%+v, %d, %d): %v, not %v", f, on, off, got, want)
	}
	seats := []int{math.MinInt, -1, 0, 59, 60, math.MaxInt}
	for seat := 1; seat <= f.Seats && seat <= 61; seat++ {
		seats = append(seats, seat)
	}
	for _, seat := range seats {
		if got, want := impl.Hole(f, seat, on, off), holeByWords(f, seat, on, off); got != want {
			t.Fatalf("Hole(%+v, %d, %d, %d): %d, not %d", f, seat, on, off, got, want)
		}
	}
	if got, want := impl.Spread(f, on, off), spreadByWords(f, on, off); !slices.Equal(got, want) {
		t.Fatalf("Spread(%+v, %d, %d): %v, not %v", f, on, off, got, want)
	}
	if !sameCoach(f, was) {
		t.Fatalf("%+v was %+v", f, was)
	}
}

func checkBook(t *testing.T, f impl.Train, id, on, off int) (impl.Train, int) {
	t.Helper()
	was := coachCopy(f)
	want, wantSeat := bookByWords(f, id, on, off)
	got, seat := impl.Book(f, id, on, off)
	if !sameCoach(got, want) || seat != wantSeat {
		t.Fatalf("Book(%+v, %d, %d, %d): %+v, %d, not %+v, %d", f, id, on, off, got, seat, want, wantSeat)
	}
	if !sameCoach(f, was) {
		t.Fatalf("%+v was %+v", f, was)
	}
	return got, seat
}

func checkUnbook(t *testing.T, f impl.Train, id int) (impl.Train, bool) {
	t.Helper()
	was := coachCopy(f)
	want, wantGone := unbookByWords(f, id)
	got, gone := impl.Unbook(f, id)
	if !sameCoach(got, want) || gone != wantGone {
		t.Fatalf("Unbook(%+v, %d): %+v, %v, not %+v, %v", f, id, got, gone, want, wantGone)
	}
	if !sameCoach(f, was) {
		t.Fatalf("%+v was %+v", f, was)
	}
	return got, gone
}

func checkSales(t *testing.T, f impl.Train, sales []impl.Sale) (impl.Train, []int) {
	t.Helper()
	was, sales0 := coachCopy(f), slices.Clone(sales)
	want, wantList := salesByWords(f, sales)
	got, list := impl.PlaySales(f, sales)
	if !sameCoach(got, want) || !slices.Equal(list, wantList) {
		t.Fatalf("PlaySales(%+v, %v): %+v, %v, not %+v, %v", f, sales, got, list, want, wantList)
	}
	if !sameCoach(f, was) || !slices.Equal(sales, sales0) {
		t.Fatalf("%+v was %+v, %v was %v", f, was, sales, sales0)
	}
	return got, list
}

// wrongCoaches are each wrong in one thing alone.
func wrongCoaches() map[string]impl.Train {
	a, c := booked(1, 0, 0, 2), booked(9, 1, 2, 4)
	return map[string]impl.Train{
		"the zero value":                {},
		"Seats of 0":                    coach(0, 4),
		"Seats of -1":                   coach(-1, 4),
		"Seats of one more":             coach(61, 4),
		"the least Seats":               coach(math.MinInt, 4),
		"the greatest Seats":            coach(math.MaxInt, 4),
		"Pieces of 0":                   coach(2, 0),
		"Pieces of -1":                  coach(2, -1),
		"Pieces of one more":            coach(2, 12),
		"the least Pieces":              coach(2, math.MinInt),
		"the greatest Pieces":           coach(2, math.MaxInt),
		"one booking too many":          crowd(201),
		"a huge list of bookings":       {Seats: 2, Pieces: 4, Held: make([]impl.Booking, 100000)},
		"an Id of 0":                    coach(2, 4, booked(0, 0, 0, 2), c),
		"an Id of -1":                   coach(2, 4, booked(-1, 0, 0, 2), c),
		"Ids below 0":                   coach(2, 4, booked(-5, 0, 0, 2), booked(-3, 1, 0, 2)),
		"the least Id":                  coach(2, 4, booked(math.MinInt, 0, 0, 2)),
		"Ids alike":                     coach(2, 4, a, booked(1, 1, 2, 4)),
		"Ids alike behind others":       coach(2, 4, a, c, booked(9, 0, 2, 4)),
		"Ids out of order":              coach(2, 4, c, a),
		"the last Id out of order":      coach(2, 4, a, c, booked(8, 0, 2, 4)),
		"the last Id the least":         coach(2, 4, booked(2, 0, 0, 2), c, booked(1, 0, 2, 4)),
		"a Seat of -1":                  coach(2, 4, booked(1, -1, 0, 2)),
		"a Seat one beyond":             coach(2, 4, booked(1, 2, 0, 2)),
		"the last Seat one beyond":      coach(2, 4, a, c, booked(10, 2, 0, 1)),
		"the least Seat":                coach(2, 4, booked(1, math.MinInt, 0, 2)),
		"the greatest Seat":             coach(2, 4, booked(1, math.MaxInt, 0, 2)),
		"an On of -1":                   coach(2, 4, booked(1, 0, -1, 2)),
		"On and Off of -1":              coach(2, 4, booked(1, 0, -1, -1)),
		"an On of -1 and an Off of 0":   coach(2, 4, booked(1, 0, -1, 0)),
		"the least On":                  coach(2, 4, booked(1, 0, math.MinInt, 2)),
		"On and Off alike":              coach(2, 4, booked(1, 0, 2, 2)),
		"On and Off of 0":               coach(2, 4, booked(1, 0, 0, 0)),
		"On and Off at the end":         coach(2, 4, booked(1, 0, 4, 4)),
		"On behind Off":                 coach(2, 4, booked(1, 0, 3, 2)),
		"an Off one beyond":             coach(2, 4, booked(1, 0, 0, 5)),
		"On at the end, Off beyond":     coach(2, 4, booked(1, 0, 4, 5)),
		"an Off of all that may be":     coach(2, 4, booked(1, 0, 0, 11)),
		"an Off of one more than those": coach(2, 11, booked(1, 0, 0, 12)),
		"the greatest Off":              coach(2, 4, booked(1, 0, 0, math.MaxInt)),
		"the least and the greatest":    coach(2, 4, booked(1, 0, math.MinInt, math.MaxInt)),
		"one piece is shared":           coach(2, 4, a, booked(2, 0, 1, 3)),
		"one piece is shared, turned":   coach(2, 4, booked(1, 0, 1, 3), booked(2, 0, 0, 2)),
		"the same pieces":               coach(2, 4, a, booked(2, 0, 0, 2)),
		"one within another":            coach(2, 4, booked(1, 0, 0, 4), booked(2, 0, 1, 2)),
		"one around another":            coach(2, 4, booked(1, 0, 1, 2), booked(2, 0, 0, 4)),
		"the last piece is shared":      coach(2, 4, a, c, booked(10, 1, 0, 1), booked(11, 1, 3, 4)),
		"the last shares with the 1st":  coach(2, 4, a, booked(2, 1, 0, 4), booked(3, 0, 2, 4), booked(4, 0, 0, 1)),
		"a wrong one between":           coach(2, 4, a, booked(5, 0, 3, 3), c),
	}
}

// wrongRides are on and off that are not so, for so many pieces.
func wrongRides(count int) [][2]int {
	return [][2]int{
		{-1, 1}, {-1, 0}, {-1, -1}, {-2, -1}, {-1, count}, {0, 0}, {1, 1}, {1, 0}, {count, count}, {count, count + 1}, {count - 1, count + 1},
		{0, count + 1}, {count, 0}, {count, count - 1}, {0, -1}, {0, 12}, {11, 12}, {12, 13}, {0, math.MaxInt}, {math.MinInt, 1},
		{math.MinInt, math.MaxInt}, {math.MaxInt, math.MinInt}, {math.MinInt, math.MinInt}, {math.MaxInt, math.MaxInt},
	}
}

// someCoach fills a train of some seats and pieces with bookings of ids that are thrown; dense says how many of eight
// pieces may be held.
func someCoach(d *dice, seats, count, dense int) impl.Train {
	f := coach(seats, count)
	for seat := range seats {
		for at := 0; at < count; at++ {
			if d.below(8) >= dense || len(f.Held) == 200 {
				continue
			}
			off := at + 1 + d.below(min(3, count-at))
			f.Held = append(f.Held, booked(0, seat, at, off))
			at = off - 1
		}
	}
	for k := range f.Held {
		other := d.below(k + 1)
		f.Held[k], f.Held[other] = f.Held[other], f.Held[k]
	}
	id := 0
	for k := range f.Held {
		id += 1 + d.below(3)
		f.Held[k].Id = id
	}
	return f
}

// manyCoaches gives every way to hold pieces of few seats, with bookings of one piece or of as many as there are in a row.
func manyCoaches(seats, count int, f func(train impl.Train)) {
	for set := range 1 << (seats * count) {
		single, long := coach(seats, count), coach(seats, count)
		for k := seats*count - 1; k >= 0; k-- {
			if set>>k&1 == 0 {
				continue
			}
			seat, piece := k/count, k%count
			single.Held = append(single.Held, booked(len(single.Held)+1, seat, piece, piece+1))
			last := len(long.Held) - 1
			if last >= 0 && long.Held[last].Seat == seat && long.Held[last].On == piece+1 {
				long.Held[last].On = piece
			} else {
				long.Held = append(long.Held, booked(2*last+5, seat, piece, piece+1))
			}
		}
		f(single)
		f(long)
	}
}

func TestSeatConstants(t *testing.T) {
	if impl.MaxSeats != 60 || impl.MaxPieces != 11 || impl.MaxBookings != 200 {
		t.Error(impl.MaxSeats, impl.MaxPieces, impl.MaxBookings)
	}
}

func TestTrainOk(t *testing.T) {
	right := map[string]impl.Train{
		"the least":                    coach(1, 1),
		"the greatest":                 crowd(200),
		"an empty list":                {Seats: 1, Pieces: 1, Held: []impl.Booking{}},
		"Seats of 1":                   coach(1, 4),
		"MaxSeats":                     coach(60, 4),
		"Pieces of 1":                  coach(2, 1),
		"MaxPieces":                    coach(2, 11),
		"199 bookings":                 crowd(199),
		"an Id of 1":                   coach(2, 4, booked(1, 0, 0, 2)),
		"the greatest Id":              coach(2, 4, booked(1, 0, 0, 2), booked(math.MaxInt, 0, 2, 4)),
		"a Seat of 0":                  coach(2, 4, booked(1, 0, 0, 2)),
		"the last Seat":                coach(2, 4, booked(1, 1, 0, 2)),
		"the last Seat of all":         coach(60, 4, booked(1, 59, 0, 2)),
		"all pieces":                   coach(2, 4, booked(1, 0, 0, 4)),
		"all pieces that may be":       coach(2, 11, booked(1, 0, 0, 11)),
		"the first piece alone":        coach(2, 4, booked(1, 0, 0, 1)),
		"the last piece alone":         coach(2, 4, booked(1, 0, 3, 4)),
		"two that meet at a call":      coach(2, 4, booked(1, 0, 0, 2), booked(2, 0, 2, 4)),
		"two that meet, turned":        coach(2, 4, booked(1, 0, 2, 4), booked(2, 0, 0, 2)),
		"one between two":              coach(1, 4, booked(1, 0, 0, 1), booked(2, 0, 3, 4), booked(3, 0, 1, 3)),
		"the same pieces, other seats": coach(2, 4, booked(1, 1, 0, 4), booked(2, 0, 0, 4)),
		"the only piece":               coach(1, 1, booked(7, 0, 0, 1)),
		"room for more":                {Seats: 2, Pieces: 4, Held: make([]impl.Booking, 0, 300)},
	}
	for name, f := range right {
		if !impl.TrainOk(f) {
			t.Errorf("%s: not right", name)
		}
		checkRide(t, f, 0, 1)
		checkSales(t, f, []impl.Sale{toSell(1000, 0, 1), toTakeBack(1)})
	}
	for name, f := range wrongCoaches() {
		if impl.TrainOk(f) {
			t.Errorf("%s: not wrong", name)
		}
	}
	limits := []int{math.MinInt, -1, 0, 1, 2, 10, 11, 12, 59, 60, 61, math.MaxInt}
	for _, seats := range limits {
		for _, count := range limits {
			checkRide(t, coach(seats, count), 0, 1)
			checkRide(t, coach(seats, count, booked(1, 0, 0, 1)), 0, 1)
			checkRide(t, coach(seats, count, booked(1, 59, 0, 11)), 0, 11)
		}
	}
	for count := 197; count <= 204; count++ {
		checkRide(t, crowd(count), 3, 6)
	}
}

// TestTrainOkOfAllSmallBookings holds every two bookings of small numbers against the words.
func TestTrainOkOfAllSmallBookings(t *testing.T) {
	var choices []impl.Booking
	for id := range 3 {
		for seat := -1; seat <= 2; seat++ {
			for on := -1; on <= 3; on++ {
				for off := -1; off <= 4; off++ {
					choices = append(choices, booked(id, seat, on, off))
				}
			}
		}
	}
	right := 0
	manyLists(2, choices, func(list []impl.Booking) {
		f := coach(2, 3, list...)
		if got := impl.TrainOk(f); got != coachByWords(f) {
			t.Fatalf("TrainOk(%+v): %v", f, got)
		} else if got {
			right++
		}
	})
	// No booking; one of 2 ids, 2 seats and 6 rides; of two on other seats 36 for each order, and on one seat the 10
	// rides that don't meet.
	if want := 1 + 24 + 2*36 + 2*10; right != want {
		t.Errorf("%d are right, not %d", right, want)
	}
}

// TestWrongTrains holds every function against a train that is wrong.
func TestWrongTrains(t *testing.T) {
	for name, f := range wrongCoaches() {
		was := coachCopy(f)
		for _, ride := range [][2]int{{0, 1}, {0, 4}, {1, 3}, {-1, 1}, {2, 2}} {
			on, off := ride[0], ride[1]
			if len(impl.FreeSeats(f, on, off)) != 0 || len(impl.Spread(f, on, off)) != 0 {
				t.Errorf("%s: seats from %d to %d", name, on, off)
			}
			for seat := -1; seat <= 3; seat++ {
				if impl.Hole(f, seat, on, off) != 0 {
					t.Errorf("%s: a hole on seat %d", name, seat)
				}
			}
			if then, seat := impl.Book(f, 700, on, off); seat != -1 || !sameCoach(then, was) {
				t.Errorf("%s: book %d", name, seat)
			}
		}
		for _, id := range []int{-1, 0, 1, 9} {
			if then, gone := impl.Unbook(f, id); gone || !sameCoach(then, was) {
				t.Errorf("%s: unbook %d", name, id)
			}
		}
		for _, sales := range [][]impl.Sale{nil, {}, {toSell(700, 0, 1)}, {toTakeBack(1)}, make([]impl.Sale, 201)} {
			if then, list := impl.PlaySales(f, sales); len(list) != 0 || !sameCoach(then, was) {
				t.Errorf("%s: sales %v", name, list)
			}
		}
		if !sameCoach(f, was) {
			t.Errorf("%s: %+v", name, f)
		}
	}
}

// TestWrongRides holds every function that takes on and off against such as are not so.
func TestWrongRides(t *testing.T) {
	for _, count := range []int{1, 4, 10, 11} {
		for _, f := range []impl.Train{coach(2, count), coach(2, count, booked(3, 1, 0, 1)), coach(60, count)} {
			for _, ride := range wrongRides(count) {
				on, off := ride[0], ride[1]
				if len(impl.FreeSeats(f, on, off)) != 0 || len(impl.Spread(f, on, off)) != 0 || impl.Hole(f, 0, on, off) != 0 {
					t.Errorf("%d pieces: from %d to %d", count, on, off)
				}
				if then, seat := impl.Book(f, 5, on, off); seat != -1 || !sameCoach(then, f) {
					t.Errorf("%d pieces: book %d from %d to %d", count, seat, on, off)
				}
				then, list := impl.PlaySales(f, []impl.Sale{toSell(5, on, off)})
				if !slices.Equal(list, []int{-1}) || !sameCoach(then, f) {
					t.Errorf("%d pieces: sold %v from %d to %d", count, list, on, off)
				}
				checkRide(t, f, on, off)
			}
		}
	}
	for on := -3; on <= 14; on++ {
		for off := -3; off <= 14; off++ {
			for count := 1; count <= 11; count++ {
				checkRide(t, coach(2, count, booked(3, 0, count-1, count)), on, off)
				checkBook(t, coach(2, count, booked(3, 0, count-1, count)), 2, on, off)
			}
		}
	}
}

func TestFreeSeatsByHand(t *testing.T) {
	f := coach(4, 6, booked(1, 1, 0, 6), booked(2, 0, 2, 4), booked(5, 2, 0, 2), booked(7, 2, 4, 6))
	cases := map[string]struct {
		on, off int
		want    []int
	}{
		"the first piece":         {0, 1, []int{0, 3}},
		"up to a booking":         {0, 2, []int{0, 3}},
		"into a booking":          {0, 3, []int{3}},
		"within a booking":        {3, 4, []int{2, 3}},
		"just a booking's pieces": {2, 4, []int{2, 3}},
		"out of a booking":        {3, 6, []int{3}},
		"from a booking on":       {4, 6, []int{0, 3}},
		"the last piece":          {5, 6, []int{0, 3}},
		"all the way":             {0, 6, []int{3}},
		"around a booking":        {1, 5, []int{3}},
		"nowhere":                 {3, 3, nil},
		"back":                    {4, 3, nil},
		"one beyond":              {5, 7, nil},
		"one ahead":               {-1, 2, nil},
	}
	for name, c := range cases {
		checkInts(t, name, impl.FreeSeats(f, c.on, c.off), c.want)
		checkRide(t, f, c.on, c.off)
	}
	checkInts(t, "all seats", impl.FreeSeats(coach(60, 11), 0, 11), numbers(0, 59))
	checkInts(t, "the only seat", impl.FreeSeats(coach(1, 1), 0, 1), []int{0})
	checkInts(t, "no seat", impl.FreeSeats(coach(1, 1, booked(1, 0, 0, 1)), 0, 1), nil)
	checkInts(t, "beside a crowd", impl.FreeSeats(crowd(200), 0, 11), numbers(19, 59))
	checkInts(t, "one piece beside a crowd", impl.FreeSeats(crowd(200), 2, 3), numbers(18, 59))
}

func TestHoleByHand(t *testing.T) {
	f := coach(5, 8, booked(1, 0, 2, 3), booked(2, 0, 6, 7), booked(3, 1, 7, 8), booked(4, 2, 0, 1), booked(5, 3, 0, 8))
	cases := map[string]struct {
		seat, on, off int
		want          int
	}{
		"to the first piece":               {0, 0, 1, 2},
		"to the first piece, from there":   {0, 1, 2, 2},
		"all of it to the first":           {0, 0, 2, 2},
		"to the last piece":                {0, 7, 8, 1},
		"between two":                      {0, 3, 4, 3},
		"between two, in the middle":       {0, 4, 5, 3},
		"between two, all of it":           {0, 3, 6, 3},
		"between two, its end":             {0, 5, 6, 3},
		"the first to the last but one":    {1, 3, 4, 7},
		"all but the last":                 {1, 0, 7, 7},
		"the first piece, all but last":    {1, 0, 1, 7},
		"all but the first":                {2, 1, 8, 7},
		"the last piece, all but first":    {2, 7, 8, 7},
		"the whole train":                  {4, 0, 8, 8},
		"the whole train, the first":       {4, 0, 1, 8},
		"the whole train, the last":        {4, 7, 8, 8},
		"the whole train, in the middle":   {4, 3, 5, 8},
		"held on all":                      {3, 2, 3, 0},
		"held on the first of them":        {0, 2, 4, 0},
		"held on the last of them":         {0, 1, 3, 0},
		"held between":                     {0, 1, 4, 0},
		"held on just that":                {0, 2, 3, 0},
		"two bookings between":             {0, 0, 8, 0},
		"held on the last piece of all":    {1, 6, 8, 0},
		"held on the first piece of all":   {2, 0, 2, 0},
		"a seat of -1":                     {-1, 3, 4, 0},
		"a seat one beyond":                {5, 3, 4, 0},
		"a seat of MaxSeats":               {60, 3, 4, 0},
		"the least seat":                   {math.MinInt, 3, 4, 0},
		"the greatest seat":                {math.MaxInt, 3, 4, 0},
		"on and off alike":                 {4, 3, 3, 0},
		"on behind off":                    {4, 4, 3, 0},
		"an off one beyond":                {4, 3, 9, 0},
		"an on of -1":                      {4, -1, 3, 0},
		"nothing at all":                   {4, 0, 0, 0},
		"on at the end":                    {4, 8, 8, 0},
		"an off of all that trains may be": {4, 0, 11, 0},
	}
	for name, c := range cases {
		if got := impl.Hole(f, c.seat, c.on, c.off); got != c.want {
			t.Errorf("%s: %d, not %d", name, got, c.want)
		}
		checkRide(t, f, c.on, c.off)
	}
	for count := 1; count <= 11; count++ {
		for on := range count {
			if got := impl.Hole(coach(2, count), 1, on, on+1); got != count {
				t.Errorf("an empty train of %d pieces: %d", count, got)
			}
		}
	}
}

func TestBookByHand(t *testing.T) {
	given := []impl.Booking{booked(4, 0, 0, 2), booked(6, 1, 3, 4)}
	full := []impl.Booking{booked(1, 1, 0, 2), booked(2, 0, 0, 3), booked(3, 2, 1, 4)}
	cases := map[string]struct {
		train       impl.Train
		id, on, off int
		want        int
		held        []impl.Booking
	}{
		"an empty train":               {coach(3, 4), 5, 1, 2, 0, []impl.Booking{booked(5, 0, 1, 2)}},
		"an id of 1":                   {coach(3, 4), 1, 0, 4, 0, []impl.Booking{booked(1, 0, 0, 4)}},
		"the greatest id":              {coach(3, 4), math.MaxInt, 0, 4, 0, []impl.Booking{booked(math.MaxInt, 0, 0, 4)}},
		"an id of 0":                   {coach(3, 4), 0, 1, 2, -1, nil},
		"an id of -1":                  {coach(3, 4), -1, 1, 2, -1, nil},
		"the least id":                 {coach(3, 4), math.MinInt, 1, 2, -1, nil},
		"the id is there":              {coach(3, 4, given...), 4, 2, 3, -1, given},
		"the last id is there":         {coach(3, 4, given...), 6, 0, 1, -1, given},
		"ahead of all":                 {coach(3, 4, given...), 3, 2, 3, 0, []impl.Booking{booked(3, 0, 2, 3), given[0], given[1]}},
		"between two":                  {coach(3, 4, given...), 5, 2, 3, 0, []impl.Booking{given[0], booked(5, 0, 2, 3), given[1]}},
		"behind all":                   {coach(3, 4, given...), 7, 2, 3, 0, []impl.Booking{given[0], given[1], booked(7, 0, 2, 3)}},
		"a greater seat, a small hole": {coach(3, 4, given...), 7, 0, 1, 1, []impl.Booking{given[0], given[1], booked(7, 1, 0, 1)}},
		"the one seat that is free":    {coach(3, 4, given...), 7, 1, 4, 2, []impl.Booking{given[0], given[1], booked(7, 2, 1, 4)}},
		"no seat is free":              {coach(3, 4, full...), 7, 1, 2, -1, full},
		"free, but not all along":      {coach(3, 4, full...), 7, 0, 2, -1, full},
		"the last seat":                {coach(3, 4, full...), 7, 0, 1, 2, append(slices.Clone(full), booked(7, 2, 0, 1))},
		"holes alike":                  {coach(3, 4, booked(1, 1, 0, 1), booked(2, 2, 0, 1)), 7, 2, 4, 1, []impl.Booking{booked(1, 1, 0, 1), booked(2, 2, 0, 1), booked(7, 1, 2, 4)}},
		"holes alike at both ends":     {coach(3, 4, booked(1, 1, 3, 4), booked(2, 2, 0, 1)), 7, 1, 3, 1, []impl.Booking{booked(1, 1, 3, 4), booked(2, 2, 0, 1), booked(7, 1, 1, 3)}},
		"holes alike, one free beyond": {coach(2, 3, booked(1, 0, 0, 1), booked(2, 1, 2, 3)), 7, 1, 2, 0, []impl.Booking{booked(1, 0, 0, 1), booked(2, 1, 2, 3), booked(7, 0, 1, 2)}},
		"two seats, the train's end":   {coach(2, 4, booked(1, 1, 1, 2)), 7, 3, 4, 1, []impl.Booking{booked(1, 1, 1, 2), booked(7, 1, 3, 4)}},
		"two seats, its beginning":     {coach(2, 4, booked(1, 1, 1, 2)), 7, 0, 1, 1, []impl.Booking{booked(1, 1, 1, 2), booked(7, 1, 0, 1)}},
		"on and off alike":             {coach(3, 4), 5, 2, 2, -1, nil},
		"on behind off":                {coach(3, 4), 5, 3, 2, -1, nil},
		"an on of -1":                  {coach(3, 4), 5, -1, 2, -1, nil},
		"an off one beyond":            {coach(3, 4), 5, 2, 5, -1, nil},
	}
	for name, c := range cases {
		then, seat := impl.Book(c.train, c.id, c.on, c.off)
		if seat != c.want || !sameCoach(then, coach(c.train.Seats, c.train.Pieces, c.held...)) {
			t.Errorf("%s: %+v, %d", name, then, seat)
		}
		checkBook(t, c.train, c.id, c.on, c.off)
	}
}

func TestBookOfAFullTrain(t *testing.T) {
	f, seat := checkBook(t, crowd(199), 300, 0, 11)
	if seat != 19 || len(f.Held) != 200 {
		t.Errorf("the last booking: %d, %d of them", seat, len(f.Held))
	}
	for _, id := range []int{1, 200, 201, 299, 300, 301} {
		if then, other := checkBook(t, f, id, 0, 1); other != -1 || !sameCoach(then, f) {
			t.Errorf("one more: %d under %d", other, id)
		}
	}
	fewer, _ := checkUnbook(t, f, 7)
	if then, other := checkBook(t, fewer, 7, 6, 7); other != 0 || !sameCoach(then, f) {
		t.Errorf("one given back, and one more: %d", other)
	}
	if _, seat = checkBook(t, crowd(200), 500, 0, 1); seat != -1 {
		t.Errorf("%d, though there are MaxBookings", seat)
	}
	whole := coach(60, 11)
	for k := range 60 {
		if whole, seat = checkBook(t, whole, 1000-k, 0, 11); seat != k {
			t.Fatalf("seat %d, not %d", seat, k)
		}
	}
	for on := range 11 {
		if _, seat = checkBook(t, whole, 5, on, on+1); seat != -1 {
			t.Errorf("seat %d of none", seat)
		}
	}
}

func TestUnbookByHand(t *testing.T) {
	a, b, c := booked(2, 0, 0, 2), booked(5, 0, 2, 4), booked(9, 1, 0, 4)
	f := coach(2, 4, a, b, c)
	cases := map[string]struct {
		id   int
		gone bool
		held []impl.Booking
	}{
		"the first":             {2, true, []impl.Booking{b, c}},
		"one between":           {5, true, []impl.Booking{a, c}},
		"the last":              {9, true, []impl.Booking{a, b}},
		"one ahead of all":      {1, false, []impl.Booking{a, b, c}},
		"one between the first": {3, false, []impl.Booking{a, b, c}},
		"one between the last":  {6, false, []impl.Booking{a, b, c}},
		"one behind all":        {10, false, []impl.Booking{a, b, c}},
		"an id of 0":            {0, false, []impl.Booking{a, b, c}},
		"an id of -1":           {-1, false, []impl.Booking{a, b, c}},
		"the least id":          {math.MinInt, false, []impl.Booking{a, b, c}},
		"the greatest id":       {math.MaxInt, false, []impl.Booking{a, b, c}},
	}
	for name, x := range cases {
		then, gone := impl.Unbook(f, x.id)
		if gone != x.gone || !sameCoach(then, coach(2, 4, x.held...)) {
			t.Errorf("%s: %+v, %v", name, then, gone)
		}
		checkUnbook(t, f, x.id)
	}
	then, gone := impl.Unbook(coach(2, 4, c), 9)
	if !gone || !sameCoach(then, coach(2, 4)) {
		t.Errorf("the only one: %+v, %v", then, gone)
	}
	if then, gone = impl.Unbook(then, 9); gone || !sameCoach(then, coach(2, 4)) {
		t.Errorf("of none: %+v, %v", then, gone)
	}
	for id := 0; id <= 201; id++ {
		checkUnbook(t, crowd(200), id)
	}
}

func TestSpreadByHand(t *testing.T) {
	stairs := coach(3, 3, booked(1, 0, 1, 3), booked(2, 1, 0, 1), booked(3, 1, 2, 3), booked(4, 2, 0, 2))
	gap := coach(2, 5, booked(1, 0, 2, 3), booked(2, 1, 1, 4))
	cases := map[string]struct {
		train   impl.Train
		on, off int
		want    []int
	}{
		"an empty train":                    {coach(3, 4), 0, 4, []int{0, 0, 0, 0}},
		"one piece":                         {coach(3, 4), 3, 4, []int{0}},
		"all pieces that may be":            {coach(60, 11), 0, 11, make([]int, 11)},
		"one seat all the way":              {coach(3, 4, booked(1, 0, 3, 4), booked(2, 2, 0, 1)), 0, 4, []int{1, 1, 1, 1}},
		"a change at each piece":            {stairs, 0, 3, []int{0, 1, 2}},
		"a change, a part of the way":       {stairs, 1, 3, []int{1, 2}},
		"two as long":                       {coach(3, 4, booked(1, 0, 1, 4), booked(2, 1, 3, 4), booked(3, 2, 3, 4)), 0, 3, []int{1, 1, 1}},
		"two as long, and then another":     {coach(3, 4, booked(1, 1, 2, 3), booked(2, 2, 2, 3), booked(3, 0, 0, 1)), 0, 4, []int{1, 1, 0, 0}},
		"free beyond off counts no more":    {coach(2, 4, booked(1, 0, 2, 4)), 0, 2, []int{0, 0}},
		"free ahead of on counts no more":   {coach(2, 4, booked(1, 0, 0, 2)), 2, 4, []int{0, 0}},
		"later, free beyond off":            {coach(3, 5, booked(1, 0, 3, 5), booked(2, 1, 0, 3), booked(3, 1, 4, 5), booked(4, 2, 0, 3)), 0, 4, []int{0, 0, 0, 1}},
		"later, not free beyond off":        {coach(3, 5, booked(1, 0, 3, 5), booked(2, 1, 0, 3), booked(3, 1, 4, 5), booked(4, 2, 0, 3)), 0, 5, []int{0, 0, 0, 2, 2}},
		"no way back to the first":          {coach(2, 4, booked(1, 0, 1, 2)), 0, 4, []int{1, 1, 1, 1}},
		"back to the first":                 {coach(2, 4, booked(1, 0, 1, 2), booked(2, 1, 0, 1), booked(3, 1, 2, 4)), 0, 4, []int{0, 1, 0, 0}},
		"the longest, not the least":        {coach(2, 4, booked(1, 0, 1, 4)), 0, 4, []int{1, 1, 1, 1}},
		"a piece in the middle":             {gap, 0, 5, nil},
		"a piece at the end":                {gap, 0, 3, nil},
		"a piece at the beginning":          {gap, 2, 5, nil},
		"that piece alone":                  {gap, 2, 3, nil},
		"up to that piece":                  {gap, 0, 2, []int{0, 0}},
		"from behind that piece":            {gap, 3, 5, []int{0, 0}},
		"no seat at all":                    {coach(1, 2, booked(1, 0, 0, 2)), 0, 2, nil},
		"on and off alike":                  {coach(3, 4), 2, 2, nil},
		"on behind off":                     {coach(3, 4), 3, 2, nil},
		"an on of -1":                       {coach(3, 4), -1, 2, nil},
		"an off one beyond":                 {coach(3, 4), 0, 5, nil},
		"one sits on for as long as one is": {coach(2, 4, booked(1, 0, 2, 3), booked(2, 1, 0, 1)), 0, 4, []int{0, 0, 1, 1}},
	}
	for name, c := range cases {
		checkInts(t, name, impl.Spread(c.train, c.on, c.off), c.want)
		checkRide(t, c.train, c.on, c.off)
	}
}

func TestPlaySalesByHand(t *testing.T) {
	f := coach(2, 4, booked(5, 0, 0, 2))
	cases := map[string]struct {
		sales []impl.Sale
		want  []int
		held  []impl.Booking
	}{
		"nil":                {nil, nil, f.Held},
		"no sale":            {[]impl.Sale{}, nil, f.Held},
		"a Kind of 0":        {[]impl.Sale{toSell(7, 2, 4)}, []int{0}, []impl.Booking{f.Held[0], booked(7, 0, 2, 4)}},
		"a Kind of 1":        {[]impl.Sale{toTakeBack(5)}, []int{0}, nil},
		"a Kind of -1":       {[]impl.Sale{{Kind: -1, Id: 5, On: 2, Off: 4}}, []int{-1}, f.Held},
		"a Kind of -1, new":  {[]impl.Sale{{Kind: -1, Id: 7, On: 2, Off: 4}}, []int{-1}, f.Held},
		"a Kind of 2":        {[]impl.Sale{{Kind: 2, Id: 5, On: 2, Off: 4}}, []int{-1}, f.Held},
		"a Kind of 2, new":   {[]impl.Sale{{Kind: 2, Id: 7, On: 2, Off: 4}}, []int{-1}, f.Held},
		"the least Kind":     {[]impl.Sale{{Kind: math.MinInt, Id: 5, On: 0, Off: 1}}, []int{-1}, f.Held},
		"the greatest Kind":  {[]impl.Sale{{Kind: math.MaxInt, Id: 5, On: 0, Off: 1}}, []int{-1}, f.Held},
		"back, On not asked": {[]impl.Sale{{Kind: 1, Id: 5, On: -9, Off: 99}}, []int{0}, nil},
		"back, On as it is":  {[]impl.Sale{{Kind: 1, Id: 5, On: 0, Off: 2}}, []int{0}, nil},
		"back, there is none": {
			[]impl.Sale{toTakeBack(4), toTakeBack(6), toTakeBack(0), toTakeBack(-1)}, []int{-1, -1, -1, -1}, f.Held},
		"refused amid others": {
			[]impl.Sale{toSell(9, 2, 4), toSell(8, 0, 4), toSell(3, 3, 4), toSell(2, 0, 5), toTakeBack(9), toSell(3, 3, 4)},
			[]int{0, 1, -1, -1, 0, 0}, []impl.Booking{booked(3, 0, 3, 4), f.Held[0], booked(8, 1, 0, 4)}},
		"booked and given back": {
			[]impl.Sale{toSell(3, 1, 3), toTakeBack(3), toSell(3, 2, 4), toTakeBack(3)}, []int{1, 0, 0, 0}, f.Held},
		"given back, and the seat sold again": {
			[]impl.Sale{toTakeBack(5), toSell(6, 0, 4), toSell(5, 0, 4), toSell(7, 1, 2)}, []int{0, 0, 1, -1}, []impl.Booking{booked(5, 1, 0, 4), booked(6, 0, 0, 4)}},
		"given back twice": {
			[]impl.Sale{toTakeBack(5), toTakeBack(5)}, []int{0, -1}, nil},
		"the id twice": {
			[]impl.Sale{toSell(6, 3, 4), toSell(6, 0, 1)}, []int{0, -1}, []impl.Booking{f.Held[0], booked(6, 0, 3, 4)}},
		"a sale that is the zero value": {make([]impl.Sale, 2), []int{-1, -1}, f.Held},
		"a seat of its own for another": {
			[]impl.Sale{toSell(6, 1, 3), toTakeBack(5), toSell(7, 0, 1)}, []int{1, 0, 1}, []impl.Booking{booked(6, 1, 1, 3), booked(7, 1, 0, 1)}},
	}
	for name, c := range cases {
		then, list := impl.PlaySales(f, c.sales)
		checkInts(t, name, list, c.want)
		if !sameCoach(then, coach(2, 4, c.held...)) {
			t.Errorf("%s: %+v", name, then)
		}
		checkSales(t, f, c.sales)
	}
}

func TestPlayManySales(t *testing.T) {
	var sales []impl.Sale
	for k := range 201 {
		sales = append(sales, toSell(201-k, k%11, k%11+1))
	}
	for _, count := range []int{1, 199, 200} {
		then, list := checkSales(t, coach(60, 11), sales[:count])
		if len(list) != count || len(then.Held) != count || !impl.TrainOk(then) {
			t.Errorf("%d sales: %d answers, %d held", count, len(list), len(then.Held))
		}
	}
	if then, list := checkSales(t, coach(60, 11), sales); len(list) != 0 || len(then.Held) != 0 {
		t.Errorf("one too many: %v, %+v", list, then)
	}
	if then, list := impl.PlaySales(crowd(3), make([]impl.Sale, 100000)); len(list) != 0 || !sameCoach(then, crowd(3)) {
		t.Errorf("far too many: %v, %+v", list, then)
	}
	// At MaxBookings each sale is refused until one is given back.
	_, list := checkSales(t, crowd(199), []impl.Sale{toSell(900, 0, 1), toSell(901, 0, 1), toTakeBack(1), toSell(901, 5, 6), toSell(902, 5, 6)})
	checkInts(t, "up to MaxBookings", list, []int{19, -1, 0, 18, -1})
}

// TestAllSmallTrains holds each function against the words for every way to hold the pieces of few seats.
func TestAllSmallTrains(t *testing.T) {
	for _, size := range [][2]int{{1, 1}, {1, 2}, {2, 1}, {1, 5}, {2, 3}, {3, 3}, {5, 2}} {
		manyCoaches(size[0], size[1], func(f impl.Train) {
			for on := range f.Pieces {
				for off := on + 1; off <= f.Pieces; off++ {
					checkRide(t, f, on, off)
					checkBook(t, f, 4, on, off)
				}
			}
			for id := range 8 {
				checkUnbook(t, f, id)
			}
		})
	}
}

func TestManyTrains(t *testing.T) {
	d := &dice{state: 141}
	for k := range 400 {
		f := someCoach(d, 1+d.below(60), 1+d.below(11), d.below(9))
		if k%3 == 0 {
			f = someCoach(d, 1+d.below(6), 1+d.below(11), 1+d.below(6))
		}
		if !impl.TrainOk(f) {
			t.Fatalf("%+v: not right", f)
		}
		on := d.below(f.Pieces)
		off := on + 1 + d.below(f.Pieces-on)
		checkRide(t, f, on, off)
		checkBook(t, f, 1+d.below(30), on, off)
		checkUnbook(t, f, 1+d.below(30))
		checkBook(t, f, 100000, on, off)
	}
}

func someSales(d *dice, f impl.Train, count int) []impl.Sale {
	var sales []impl.Sale
	for range count {
		s := impl.Sale{Kind: d.below(3) / 2, Id: 1 + d.below(25), On: d.below(f.Pieces)}
		s.Off = s.On + 1 + d.below(f.Pieces-s.On)
		switch d.below(20) {
		case 0:
			s.Kind = -1 + 3*d.below(2)
		case 1:
			s.Id = -d.below(2)
		case 2:
			s.Off = s.On - d.below(2)
		case 3:
			s.Off = f.Pieces + 1
		}
		sales = append(sales, s)
	}
	return sales
}

func TestManySales(t *testing.T) {
	d := &dice{state: 142}
	for range 150 {
		f := someCoach(d, 1+d.below(5), 1+d.below(11), d.below(4))
		sales := someSales(d, f, d.below(80))
		end, list := checkSales(t, f, sales)
		now := f
		for k, s := range sales {
			want, gone := -1, false
			switch s.Kind {
			case 0:
				now, want = impl.Book(now, s.Id, s.On, s.Off)
			case 1:
				if now, gone = impl.Unbook(now, s.Id); gone {
					want = 0
				}
			}
			if list[k] != want {
				t.Fatalf("%+v, %v: %d at %d, not %d", f, sales, list[k], k, want)
			}
		}
		if !sameCoach(now, end) {
			t.Fatalf("%+v, %v: %+v, one by one %+v", f, sales, end, now)
		}
	}
}

// soldTwice says whether a seat is held twice on one piece.
func soldTwice(f impl.Train) bool {
	var holders [60][11]int
	for _, b := range f.Held {
		for piece := b.On; piece < b.Off; piece++ {
			holders[b.Seat][piece]++
			if holders[b.Seat][piece] > 1 {
				return true
			}
		}
	}
	return false
}

func TestPromise16(t *testing.T) {
	d := &dice{state: 143}
	sold := 0
	for range 120 {
		now := coach(1+d.below(8), 1+d.below(11))
		for _, s := range someSales(d, now, 60) {
			before := now
			now, _ = impl.PlaySales(before, []impl.Sale{s})
			if !impl.TrainOk(now) || soldTwice(now) {
				t.Fatalf("%+v behind %+v", now, s)
			}
			if s.Kind != 0 || len(now.Held) == len(before.Held) {
				continue
			}
			sold++
			seat := now.Held[slices.IndexFunc(now.Held, func(b impl.Booking) bool { return b.Id == s.Id })].Seat
			hole, free := impl.Hole(before, seat, s.On, s.Off), impl.FreeSeats(before, s.On, s.Off)
			for _, other := range free {
				if size := impl.Hole(before, other, s.On, s.Off); size < hole || size == hole && other < seat {
					t.Fatalf("%+v: seat %d in a hole of %d, and not %d in one of %d", before, seat, hole, other, size)
				}
			}
			if hole < s.Off-s.On || !slices.Contains(free, seat) {
				t.Fatalf("%+v: seat %d in a hole of %d", before, seat, hole)
			}
			if back, gone := impl.Unbook(now, s.Id); !gone || !sameCoach(back, before) {
				t.Fatalf("%+v: given back %+v", before, back)
			}
		}
		checkSpreads(t, now)
	}
	if sold < 1000 {
		t.Errorf("only %d were sold", sold)
	}
}

// checkSpreads asks for each ride that one sits on free seats and changes as seldom as can be.
func checkSpreads(t *testing.T, f impl.Train) {
	t.Helper()
	for on := range f.Pieces {
		for off := on + 1; off <= f.Pieces; off++ {
			list, changes := impl.Spread(f, on, off), 0
			for k, seat := range list {
				if !slices.Contains(impl.FreeSeats(f, on+k, on+k+1), seat) {
					t.Fatalf("Spread(%+v, %d, %d): %v, but piece %d is held", f, on, off, list, on+k)
				}
				if k > 0 && seat != list[k-1] {
					changes++
				}
			}
			if len(list) == 0 {
				changes = -1
			}
			if fewest := fewestChanges(f, on, off); changes != fewest || len(list) != 0 && len(list) != off-on {
				t.Fatalf("Spread(%+v, %d, %d): %v, %d changes, not %d", f, on, off, list, changes, fewest)
			}
		}
	}
}

func TestSpreadChangesAsSeldomAsCanBe(t *testing.T) {
	d := &dice{state: 144}
	for range 300 {
		checkSpreads(t, someCoach(d, 1+d.below(7), 1+d.below(11), 3+d.below(4)))
	}
}

// TestSeatsShareNoMemory spoils each answer, and then what it came from.
func TestSeatsShareNoMemory(t *testing.T) {
	spoilt := booked(77, 77, 77, 77)
	wrong := coach(2, 4, booked(3, 0, 0, 2), booked(3, 1, 0, 2))
	asks := map[string]func(f impl.Train) impl.Train{
		"booked":            func(f impl.Train) impl.Train { then, _ := impl.Book(f, 4, 0, 2); return then },
		"booked behind":     func(f impl.Train) impl.Train { then, _ := impl.Book(f, 9, 3, 4); return then },
		"refused":           func(f impl.Train) impl.Train { then, _ := impl.Book(f, 0, 0, 2); return then },
		"refused, its ride": func(f impl.Train) impl.Train { then, _ := impl.Book(f, 4, 2, 2); return then },
		"unbooked":          func(f impl.Train) impl.Train { then, _ := impl.Unbook(f, 3); return then },
		"the last unbooked": func(f impl.Train) impl.Train { then, _ := impl.Unbook(f, 6); return then },
		"not there":         func(f impl.Train) impl.Train { then, _ := impl.Unbook(f, 4); return then },
		"no sale":           func(f impl.Train) impl.Train { then, _ := impl.PlaySales(f, nil); return then },
		"sales": func(f impl.Train) impl.Train {
			then, _ := impl.PlaySales(f, []impl.Sale{toSell(4, 0, 2), toTakeBack(3)})
			return then
		},
		"too many sales": func(f impl.Train) impl.Train { then, _ := impl.PlaySales(f, make([]impl.Sale, 201)); return then },
	}
	for name, ask := range asks {
		for _, given := range []impl.Train{coach(2, 4, booked(3, 0, 0, 2), booked(6, 1, 2, 3)), wrong} {
			roomy := append(make([]impl.Booking, 0, 9), given.Held...)
			f := coach(2, 4, roomy...)
			was := slices.Clone(roomy[:9])
			first, second := ask(f), ask(f)
			if !slices.Equal(roomy[:9], was) {
				t.Errorf("%s: %v was %v", name, roomy[:9], was)
			}
			kept := coachCopy(second)
			for k := range first.Held {
				first.Held[k] = spoilt
			}
			_ = append(first.Held, spoilt)
			if !slices.Equal(roomy[:9], was) || !sameCoach(second, kept) {
				t.Errorf("%s, spoilt: %v was %v, %+v was %+v", name, roomy[:9], was, second, kept)
			}
			for k := range roomy[:9] {
				roomy[:9][k] = spoilt
			}
			if !sameCoach(second, kept) {
				t.Errorf("%s, the train spoilt: %+v was %+v", name, second, kept)
			}
		}
	}
}

func TestSalesShareNoMemory(t *testing.T) {
	sales := append(make([]impl.Sale, 0, 9), toSell(4, 0, 2), toSell(5, 0, 2), toTakeBack(9))
	f := coach(3, 4, booked(3, 0, 0, 2))
	_, first := impl.PlaySales(f, sales)
	_, second := impl.PlaySales(f, sales)
	frees, others := impl.FreeSeats(f, 0, 2), impl.FreeSeats(f, 0, 2)
	spread, another := impl.Spread(f, 0, 2), impl.Spread(f, 0, 2)
	for _, list := range [][]int{first, frees, spread} {
		for k := range list {
			list[k] = 77
		}
		_ = append(list, 78)
	}
	checkInts(t, "sales", second, []int{1, 2, -1})
	checkInts(t, "free seats", others, []int{1, 2})
	checkInts(t, "spread", another, []int{1, 1})
	want := append([]impl.Sale{toSell(4, 0, 2), toSell(5, 0, 2), toTakeBack(9)}, make([]impl.Sale, 6)...)
	if !slices.Equal(sales[:9], want) {
		t.Error(sales[:9])
	}
}

// TestSeatsAreTheSameHoweverOften lets many ask at once, with other questions between.
func TestSeatsAreTheSameHoweverOften(t *testing.T) {
	d := &dice{state: 145}
	for range 30 {
		f := someCoach(d, 1+d.below(9), 1+d.below(11), d.below(5))
		sales := someSales(d, f, 30)
		end, list := impl.PlaySales(f, sales)
		spread, free := impl.Spread(f, 0, f.Pieces), impl.FreeSeats(f, 0, 1)
		booking, seat := impl.Book(f, 5000, 0, 1)
		var group sync.WaitGroup
		for k := range 8 {
			group.Go(func() {
				impl.PlaySales(coach(k+1, k+1), []impl.Sale{toSell(k, 0, k), toSell(k+1, 0, 1), toTakeBack(k)})
				impl.Spread(crowd(20*k), 0, k)
				other, told := impl.PlaySales(f, sales)
				if !sameCoach(other, end) || !slices.Equal(told, list) {
					t.Errorf("%+v, %v, and then %+v, %v", end, list, other, told)
				}
				again, place := impl.Book(f, 5000, 0, 1)
				if !sameCoach(again, booking) || place != seat {
					t.Errorf("%+v, %d, and then %+v, %d", booking, seat, again, place)
				}
				if !slices.Equal(impl.Spread(f, 0, f.Pieces), spread) || !slices.Equal(impl.FreeSeats(f, 0, 1), free) {
					t.Error("other seats")
				}
			})
		}
		group.Wait()
	}
}

func TestSeatsNeverPanic(t *testing.T) {
	extremes := []int{math.MinInt, math.MinInt + 1, -1, 0, 1, 2, 11, 12, 60, 61, math.MaxInt - 1, math.MaxInt}
	d := &dice{state: 146}
	pick := func() int { return extremes[d.below(len(extremes))] }
	for range 10000 {
		f := coach(pick(), pick())
		if d.below(2) == 0 {
			f = coach(1+d.below(60), 1+d.below(11))
		}
		for range d.below(4) {
			f.Held = append(f.Held, booked(pick(), pick(), pick(), pick()))
		}
		var sales []impl.Sale
		for range d.below(4) {
			sales = append(sales, impl.Sale{Kind: pick(), Id: pick(), On: pick(), Off: pick()})
		}
		id, on, off := pick(), pick(), pick()
		if panicsIn(func() {
			impl.TrainOk(f)
			impl.FreeSeats(f, on, off)
			impl.Hole(f, id, on, off)
			impl.Book(f, id, on, off)
			impl.Unbook(f, id)
			impl.Spread(f, on, off)
			impl.PlaySales(f, sales)
		}) {
			t.Fatalf("%+v, %v, %d, %d, %d", f, sales, id, on, off)
		}
		checkRide(t, f, on, off)
		checkBook(t, f, id, on, off)
		checkUnbook(t, f, id)
		checkSales(t, f, sales)
	}
	if panicsIn(func() {
		impl.Hole(impl.Train{}, 0, 0, 0)
		impl.Book(impl.Train{}, 0, 0, 0)
		impl.Unbook(impl.Train{}, 0)
		impl.Spread(impl.Train{}, 0, 0)
		impl.PlaySales(impl.Train{}, nil)
	}) {
		t.Error("nothing at all")
	}
}
