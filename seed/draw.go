package seed

import "lyceum/api"

// method draws a number below n from the index i on, and returns the index behind it, too.
type method func(i, n int) (int, int, api.Errno)

// Rest returns the rest of a word, and whether it is accepted.
func Rest(w uint64, n int) (int, bool) {
	if n < 1 {
		return 0, false
	}
	d := uint64(n)
	over := -d % d // 2^64 modulo n, as -d is 2^64 - n
	if w > ^over { // ^over is 2^64 - 1 - over, the last word that is accepted
		return 0, false
	}
	return int(w % d), true
}

// Below returns a number below n, and the next index.
func (s Stream) Below(i, n int) (int, int, api.Errno) {
	if !isIndex(i) || n < 1 {
		return 0, 0, api.ErrArg
	}
	for ; i < MaxWord; i++ {
		w, _ := s.Word(i) // no error: i is the index of a word
		if v, ok := Rest(w, n); ok {
			return v, i + 1, api.OK
		}
	}
	return 0, 0, api.ErrFull
}

// Perm returns an order of the numbers below n, and the next index.
func (s Stream) Perm(i, n int) ([]int, int, api.Errno) {
	if !isIndex(i) || n < 0 || n > MaxList {
		return nil, 0, api.ErrArg
	}
	l := make([]int, n)
	for p := range l {
		l[p] = p
	}
	draw, next := drawer(i), i
	for p := n - 1; p > 0; p-- {
		v, after, e := draw(s.Below, p+1)
		if e != api.OK {
			return nil, 0, e
		}
		l[v], l[p] = l[p], l[v]
		next = after
	}
	return l, next, api.OK
}

// Choose returns k of the numbers below n, and the next index.
func (s Stream) Choose(i, n, k int) ([]int, int, api.Errno) {
	if !isIndex(i) || n > MaxList || k < 0 || k > n {
		return nil, 0, api.ErrArg
	}
	chosen := make([]bool, n)
	draw, next := drawer(i), i
	for m := n - k; m < n; m++ {
		v, after, e := draw(s.Below, m+1)
		if e != api.OK {
			return nil, 0, e
		}
		if chosen[v] {
			v = m // it is not there yet: all that were drawn before are less
		}
		chosen[v] = true
		next = after
	}
	return trueOnes(chosen), next, api.OK
}

// Weigh returns an index of a list, by the weights of its elements, and the next index.
func (s Stream) Weigh(i int, l []int) (int, int, api.Errno) {
	total, ok := sum(l)
	if !isIndex(i) || !ok {
		return 0, 0, api.ErrArg
	}
	draw := drawer(i)
	t, next, e := draw(s.Below, total)
	if e != api.OK {
		return 0, 0, e
	}
	least := 0
	for t >= l[least] { // t is below the sum, so it ends within the list
		t -= l[least]
		least++
	}
	return least, next, api.OK
}

// drawer returns a closure that draws by a method, each time from the index behind what it drew before; the first time from i.
func drawer(i int) func(by method, n int) (int, int, api.Errno) {
	return func(by method, n int) (int, int, api.Errno) {
		v, next, e := by(i, n)
		if e == api.OK {
			i = next
		}
		return v, next, e
	}
}

// isIndex reports whether drawing can begin at i: MaxWord, behind all words, counts too.
func isIndex(i int) bool { return i >= 0 && i <= MaxWord }

// trueOnes returns the indices at which l is true, in increasing order.
func trueOnes(l []bool) []int {
	var at []int
	for i, b := range l {
		if b {
			at = append(at, i)
		}
	}
	return at
}

// sum returns the sum of a list of weights, and whether it is one that can be drawn from. It looks at the limits first, within which no sum overflows.
func sum(l []int) (int, bool) {
	if len(l) > MaxList {
		return 0, false
	}
	total := 0
	for _, w := range l {
		if w < 0 || w > MaxWeight {
			return 0, false
		}
		total += w
	}
	return total, total > 0
}
