package tests

// dice gives the same numbers in every run, so that a failure can be seen again.
type dice struct {
	state uint64
}

// below gives a number in 0 .. n - 1.
func (d *dice) below(n int) int {
	d.state = d.state*6364136223846793005 + 1442695040888963407
	return int(d.state>>33) % n
}

// numbers gives from, from + 1, .. to.
func numbers(from, to int) []int {
	var list []int
	for x := from; x <= to; x++ {
		list = append(list, x)
	}
	return list
}

// panicsIn says whether f panics.
func panicsIn(f func()) (bad bool) {
	defer func() { bad = recover() != nil }()
	f()
	return false
}
