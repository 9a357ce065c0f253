package seed

// step is a step of mixing: an exclusive or with the word shifted to the right, and a multiplication, with the factor that undoes it.
type step struct {
	shift      int
	times, div uint64
}

// steps are in the order of mixing; the last one multiplies by 1, so that all have one form.
var steps = [3]step{
	{shift: 30, times: 0xbf58476d1ce4e5b9, div: 0x96de1b173f119089},
	{shift: 27, times: 0x94d049bb133111eb, div: 0x319642b2d24d8ec3},
	{shift: 31, times: 1, div: 1},
}

// Mix returns the mixed word of x.
func Mix(x uint64) uint64 {
	for _, s := range steps {
		x = (x ^ x>>s.shift) * s.times
	}
	return x
}

// Unmix returns the word whose mixed word is x.
func Unmix(x uint64) uint64 {
	for i := len(steps) - 1; i >= 0; i-- {
		x = unshift(x*steps[i].div, steps[i].shift)
	}
	return x
}

// unshift returns the word y for which y ^ (y >> shift) is x.
func unshift(x uint64, shift int) uint64 {
	y := x
	// In x ^ (x >> shift) ^ (x >> 2*shift) .. all of y but its first occurrence is there twice, or shifted out.
	for n := shift; n < 64; n += shift {
		y ^= x >> n
	}
	return y
}
