package seed

import (
	"go/parser"
	"go/token"
	"math/big"
	"path/filepath"
	"slices"
	"strings"
	"testing"

	"lyceum/api"
)

// third is the least number above a third of 2^64: a third of all words is not accepted for it, which is the most that there is.
const third = 6148914691236517206

// end is the last word.
const end = 1<<64 - 1

// P1.1: rests at the ends of what is accepted.
func TestRest(t *testing.T) {
	for _, c := range []struct {
		w    uint64
		n    int
		want int
		ok   bool
	}{
		{7, 5, 2, true},
		{0, 1, 0, true},
		{end, 1, 0, true},
		{end, 2, 1, true},
		{end, 1 << 62, 1<<62 - 1, true},
		{18446744073709551609, 10, 9, true},
		{18446744073709551610, 10, 0, false},
		{end, 10, 0, false},
		{2*third - 1, third, third - 1, true},
		{2 * third, third, 0, false},
		{7, 0, 0, false},
		{7, -1, 0, false},
		{0, -1 << 63, 0, false},
	} {
		if got, ok := Rest(c.w, c.n); got != c.want || ok != c.ok {
			t.Errorf("Rest(%d, %d) is %d, %v, not %d, %v", c.w, c.n, got, ok, c.want, c.ok)
		}
	}
}

// P1.5: for each n the words up to a multiple of n are accepted, so all rests have equally many; fewer than n words are behind it.
func TestRestsAreEven(t *testing.T) {
	all := new(big.Int).Lsh(big.NewInt(1), 64)
	numbers := []int{1 << 32, 1<<40 + 1, third, third - 1, 1<<62 + 1, 1<<63 - 1}
	for n := 1; n < 2000; n++ {
		numbers = append(numbers, n)
	}
	for _, n := range numbers {
		over := new(big.Int).Mod(all, big.NewInt(int64(n))).Uint64()
		last := end - over
		if v, ok := Rest(last, n); !ok || v != n-1 {
			t.Errorf("the last word for %d: %d, %v", n, v, ok)
		}
		if v, ok := Rest(last-uint64(n)+1, n); !ok || v != 0 {
			t.Errorf("the last words for %d begin with %d, %v", n, v, ok)
		}
		if _, ok := Rest(end, n); ok != (over == 0) {
			t.Errorf("the word at the end for %d: %v", n, ok)
		}
		if v, ok := Rest(last+1, n); over > 0 && (ok || v != 0) {
			t.Errorf("the word behind the last one for %d: %d, %v", n, v, ok)
		}
	}
}

// P1.3: a number below n, and where the next one begins.
func TestBelow(t *testing.T) {
	for _, c := range []struct {
		i, n, want, next int
		e                api.Errno
	}{
		{0, 1, 0, 1, api.OK},
		{0, 6, 1, 1, api.OK},
		{3, 6, 5, 4, api.OK},
		{2, 1000, 208, 3, api.OK},
		{0, 1 << 62, 449103355366260047, 1, api.OK},
		{1, 1<<63 - 1, 5573481420429128725, 2, api.OK},
		{2, third, 6093959265481905311, 5, api.OK}, // the words 2 and 3 are not accepted
		{3, third, 6093959265481905311, 5, api.OK},
		{MaxWord - 1, 10, 5, MaxWord, api.OK},
		{MaxWord - 1, third, 0, 0, api.ErrFull}, // the last word is not accepted
		{MaxWord, 6, 0, 0, api.ErrFull},
		{MaxWord, 1, 0, 0, api.ErrFull},
		{MaxWord + 1, 6, 0, 0, api.ErrArg},
		{1<<63 - 1, 6, 0, 0, api.ErrArg},
		{-1, 6, 0, 0, api.ErrArg},
		{0, 0, 0, 0, api.ErrArg},
		{0, -1, 0, 0, api.ErrArg},
		{MaxWord, 0, 0, 0, api.ErrArg},
	} {
		if v, next, e := New(7).Below(c.i, c.n); v != c.want || next != c.next || e != c.e {
			t.Errorf("Below(%d, %d) is %d, %d, %d, not %d, %d, %d", c.i, c.n, v, next, e, c.want, c.next, c.e)
		}
	}
}

// P1.4: orders.
func TestPerm(t *testing.T) {
	for _, c := range []struct {
		i, n int
		want []int
		next int
		e    api.Errno
	}{
		{3, 0, nil, 3, api.OK},
		{3, 1, []int{0}, 3, api.OK},
		{100, 3, []int{2, 0, 1}, 102, api.OK},
		{0, 10, []int{1, 6, 8, 2, 4, 9, 3, 0, 7, 5}, 9, api.OK},
		{5, 10, []int{5, 7, 3, 1, 8, 9, 2, 0, 6, 4}, 14, api.OK},
		{MaxWord, 0, nil, MaxWord, api.OK},
		{MaxWord, 1, []int{0}, MaxWord, api.OK},
		{MaxWord - 2, 3, []int{0, 2, 1}, MaxWord, api.OK},
		{MaxWord - 1, 3, nil, 0, api.ErrFull},
		{MaxWord, 2, nil, 0, api.ErrFull},
		{MaxWord, 1001, nil, 0, api.ErrArg},
		{MaxWord + 1, 0, nil, 0, api.ErrArg},
		{-1, 3, nil, 0, api.ErrArg},
		{0, -1, nil, 0, api.ErrArg},
		{0, 1001, nil, 0, api.ErrArg},
	} {
		l, next, e := New(7).Perm(c.i, c.n)
		if !slices.Equal(l, c.want) || next != c.next || e != c.e {
			t.Errorf("Perm(%d, %d) is %v, %d, %d, not %v, %d, %d", c.i, c.n, l, next, e, c.want, c.next, c.e)
		}
	}
	l, next, e := New(7).Perm(0, MaxList)
	slices.Sort(l)
	if e != api.OK || next != MaxList-1 || len(l) != MaxList || l[0] != 0 || l[MaxList-1] != MaxList-1 || len(slices.Compact(l)) != MaxList {
		t.Error("the order of the longest list:", l, next, e)
	}
}

// P1.4: choices.
func TestChoose(t *testing.T) {
	for _, c := range []struct {
		i, n, k int
		want    []int
		next    int
		e       api.Errno
	}{
		{0, 10, 4, []int{5, 6, 8, 9}, 4, api.OK},
		{5, 10, 4, []int{0, 2, 6, 9}, 9, api.OK},
		{3, 1000, 5, []int{483, 575, 818, 840, 872}, 8, api.OK},
		{0, 4, 4, []int{0, 1, 2, 3}, 4, api.OK},
		{9, 5, 5, []int{0, 1, 2, 3, 4}, 14, api.OK},
		{9, 5, 0, nil, 9, api.OK},
		{9, 0, 0, nil, 9, api.OK},
		{MaxWord, 5, 0, nil, MaxWord, api.OK},
		{MaxWord - 2, 3, 2, []int{0, 2}, MaxWord, api.OK},
		{MaxWord - 1, 3, 2, nil, 0, api.ErrFull},
		{MaxWord, 1, 1, nil, 0, api.ErrFull},
		{MaxWord, 4, 5, nil, 0, api.ErrArg},
		{MaxWord + 1, 4, 2, nil, 0, api.ErrArg},
		{-1, 4, 2, nil, 0, api.ErrArg},
		{0, 4, 5, nil, 0, api.ErrArg},
		{0, 4, -1, nil, 0, api.ErrArg},
		{0, -1, 0, nil, 0, api.ErrArg},
		{0, -1, -1, nil, 0, api.ErrArg},
		{0, 1001, 1, nil, 0, api.ErrArg},
	} {
		l, next, e := New(7).Choose(c.i, c.n, c.k)
		if !slices.Equal(l, c.want) || next != c.next || e != c.e {
			t.Errorf("Choose(%d, %d, %d) is %v, %d, %d, not %v, %d, %d", c.i, c.n, c.k, l, next, e, c.want, c.next, c.e)
		}
	}
	if l, next, e := New(7).Choose(0, MaxList, MaxList); len(l) != MaxList || next != MaxList || e != api.OK {
		t.Error("all of the longest list:", l, next, e)
	}
}

// P1.4: weights.
func TestWeigh(t *testing.T) {
	l := []int{1, 0, 3, 2}
	for i, want := range []int{2, 2, 2, 3, 3, 0, 0, 0, 2, 3, 3, 3} {
		if v, next, e := New(7).Weigh(i, l); v != want || next != i+1 || e != api.OK {
			t.Errorf("Weigh(%d) is %d, %d, %d, not %d", i, v, next, e, want)
		}
	}
	if !slices.Equal(l, []int{1, 0, 3, 2}) {
		t.Error("the weights were modified:", l)
	}
	for i, want := range []int{0, 2, 1, 0, 1, 1} {
		if v, _, e := New(7).Weigh(i, slices.Repeat([]int{MaxWeight}, 3)); v != want || e != api.OK {
			t.Errorf("Weigh(%d) of the greatest weights is %d, %d, not %d", i, v, e, want)
		}
	}
	for _, c := range []struct {
		i    int
		l    []int
		want int
		next int
		e    api.Errno
	}{
		{5, []int{0, 5, 0}, 1, 6, api.OK},
		{5, []int{1}, 0, 6, api.OK},
		{5, append(make([]int, 999), 1), 999, 6, api.OK},
		{MaxWord - 1, []int{0, 1}, 1, MaxWord, api.OK},
		{MaxWord, []int{1}, 0, 0, api.ErrFull},
		{MaxWord, []int{0}, 0, 0, api.ErrArg},
		{MaxWord + 1, []int{1}, 0, 0, api.ErrArg},
		{-1, []int{1}, 0, 0, api.ErrArg},
		{5, nil, 0, 0, api.ErrArg},
		{5, []int{}, 0, 0, api.ErrArg},
		{5, []int{0, 0}, 0, 0, api.ErrArg},
		{5, []int{5, -1}, 0, 0, api.ErrArg},
		{5, []int{1, MaxWeight + 1}, 0, 0, api.ErrArg},
		{5, []int{1<<63 - 1, 1<<63 - 1, 3}, 0, 0, api.ErrArg}, // a sum of 1, if it went beyond 2^64
		{5, append(make([]int, 1000), 1), 0, 0, api.ErrArg},
	} {
		if v, next, e := New(7).Weigh(c.i, c.l); v != c.want || next != c.next || e != c.e {
			t.Errorf("Weigh(%d) of %d weights is %d, %d, %d, not %d, %d, %d", c.i, len(c.l), v, next, e, c.want, c.next, c.e)
		}
	}
}

// P1.4: draws leave out what is not accepted, as Below does. Here that is the word with the index 5, in which all bits are 1; it is accepted for 2, but not for 3.
func TestDrawsLeaveOut(t *testing.T) {
	s := Stream{Unmix(end) - 6*stride&end}
	if w, e := s.Word(5); w != end || e != api.OK {
		t.Fatal(w, e)
	}
	_, after3, e3 := s.Perm(5, 3)
	_, after2, e2 := s.Perm(5, 2)
	_, chosen, e := s.Choose(5, 3, 1)
	if after3 != 8 || e3 != api.OK || after2 != 6 || e2 != api.OK || chosen != 7 || e != api.OK {
		t.Error(after3, e3, after2, e2, chosen, e)
	}
	v, weighed, e := s.Weigh(5, []int{2, 1})
	below, next, _ := s.Below(6, 3)
	if weighed != next || (v == 0) != (below < 2) || e != api.OK {
		t.Error(v, weighed, e)
	}
	if v, weighed, e := s.Weigh(5, []int{1, 1}); v != 1 || weighed != 6 || e != api.OK {
		t.Error(v, weighed, e)
	}
}

// P1.4: each draw goes on from the index that the one before it returned, and the numbers are used as the chapter says, worked out here by Below alone.
func TestDrawsGoOn(t *testing.T) {
	for i := range 300 {
		s, n := New(uint64(i)), i%25
		l, next := make([]int, n), i
		for p := range l {
			l[p] = p
		}
		var v int
		for p := n - 1; p > 0; p-- {
			v, next, _ = s.Below(next, p+1)
			l[v], l[p] = l[p], l[v]
		}
		if got, after, e := s.Perm(i, n); !slices.Equal(got, l) || after != next || e != api.OK {
			t.Error(i, got, after, e)
		}
		var chosen []int
		next = i
		for m := n - n/2; m < n; m++ {
			if v, next, _ = s.Below(next, m+1); slices.Contains(chosen, v) {
				v = m
			}
			chosen = append(chosen, v)
		}
		slices.Sort(chosen)
		if got, after, e := s.Choose(i, n, n/2); !slices.Equal(got, chosen) || after != next || e != api.OK {
			t.Error(i, got, after, e)
		}
	}
}

// P1.5: what is drawn does not depend on what was drawn before, and results share no memory.
func TestDrawsAreIndependent(t *testing.T) {
	s := New(7)
	perm, _, _ := s.Perm(0, 10)
	chosen, _, _ := s.Choose(0, 10, 4)
	for i := range 100 {
		s.Below(i, 6)
		s.Perm(i, 20)
	}
	again, _, _ := s.Perm(0, 10)
	chosenAgain, _, _ := s.Choose(0, 10, 4)
	if !slices.Equal(perm, again) || !slices.Equal(chosen, chosenAgain) {
		t.Error(perm, again, chosen, chosenAgain)
	}
	perm[0], chosen[0] = -1, -1
	if again[0] == -1 || chosenAgain[0] == -1 {
		t.Error("results share memory")
	}
}

// The chapter: the package imports only api.
func TestImports(t *testing.T) {
	files, err := filepath.Glob("*.go")
	if err != nil || len(files) == 0 {
		t.Fatal(files, err)
	}
	for _, name := range files {
		if strings.HasSuffix(name, "_test.go") {
			continue
		}
		f, err := parser.ParseFile(token.NewFileSet(), name, nil, parser.ImportsOnly)
		if err != nil {
			t.Fatal(err)
		}
		for _, i := range f.Imports {
			if i.Path.Value != `"lyceum/api"` {
				t.Error(name, "imports", i.Path.Value)
			}
		}
	}
}
