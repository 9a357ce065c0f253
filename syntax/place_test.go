package syntax

import (
	"slices"
	"testing"

	"lyceum/api"
)

// P2.2: a copy is equal, and has memory of its own.
func TestCopy(t *testing.T) {
	for _, f := range append(some(200), increasing()...) {
		before := text(f)
		g := Copy(f)
		if text(g) != before || !Same(f, g) {
			t.Fatalf("the copy of %s is %s", before, text(g))
		}
		spoil(g)
		if text(f) != before {
			t.Fatalf("%s became %s with its copy", before, text(f))
		}
		g = Copy(f)
		spoil(f)
		if text(g) != before {
			t.Fatalf("the copy of %s became %s with it", before, text(g))
		}
	}
}

// P2.3: what is at a place, and what is not.
func TestAt(t *testing.T) {
	f := example()
	p, _ := At(f, []int{0, 0})
	for _, c := range []struct {
		place []int
		want  api.Form
		e     api.Errno
	}{
		{nil, f, api.OK},
		{[]int{}, f, api.OK},
		{[]int{0}, f.Sub[0], api.OK},
		{[]int{0, 0}, atom("P", variable("x"), function("f", function("a"))), api.OK},
		{[]int{0, 1}, not(atom("Q")), api.OK},
		{[]int{0, 1, 0}, atom("Q"), api.OK},
		{[]int{1}, api.Form{}, api.ErrNone},
		{[]int{-1}, api.Form{}, api.ErrNone},
		{[]int{0, 2}, api.Form{}, api.ErrNone},
		{[]int{0, -1}, api.Form{}, api.ErrNone},
		{[]int{0, 0, 0}, api.Form{}, api.ErrNone}, // an argument is no part
		{[]int{0, 1, 0, 0}, api.Form{}, api.ErrNone},
		{[]int{1, 0}, api.Form{}, api.ErrNone},
		{[]int{-1 << 63}, api.Form{}, api.ErrNone},
		{[]int{1<<63 - 1}, api.Form{}, api.ErrNone},
		{make([]int, deep), api.Form{}, api.ErrNone},
	} {
		if got, e := At(f, c.place); text(got) != text(c.want) || e != c.e {
			t.Errorf("at %v: %s, %d, not %s, %d", c.place, text(got), e, text(c.want), c.e)
		}
		place := slices.Clone(c.place)
		got, e := With(f, c.place, atom("New"))
		if e != c.e || e != api.OK && text(got) != text(api.Form{}) {
			t.Errorf("with at %v: %s, %d", c.place, text(got), e)
		}
		if !slices.Equal(place, c.place) || text(f) != text(example()) {
			t.Fatalf("a place or the formula has changed: %v, %s", c.place, text(f))
		}
	}
	spoil(p)
	if text(f) != text(example()) {
		t.Error("a part shares memory with its formula")
	}
}

// P2.3: another part at a place, whatever it is.
func TestWith(t *testing.T) {
	f := example()
	p := atom("P", variable("x"), function("f", function("a")))
	for _, c := range []struct {
		place      []int
		part, want api.Form
	}{
		{nil, atom("R"), atom("R")},
		{nil, api.Form{}, api.Form{}},
		{[]int{0}, atom("R"), bind(api.OpSome, "x", atom("R"))},
		{[]int{0, 0}, f, bind(api.OpSome, "x", join(api.OpAnd, f, not(atom("Q"))))},
		{[]int{0, 1}, join(77, p), bind(api.OpSome, "x", join(api.OpAnd, p, join(77, p)))},
		{[]int{0, 1, 0}, atom("R", variable("x")), bind(api.OpSome, "x", join(api.OpAnd, p, not(atom("R", variable("x")))))},
	} {
		if got, e := With(f, c.place, c.part); e != api.OK || text(got) != text(c.want) {
			t.Errorf("with %s at %v: %s, %d, not %s", text(c.part), c.place, text(got), e, text(c.want))
		}
	}
	if text(f) != text(example()) {
		t.Errorf("the formula became %s", text(f))
	}
}

// P2.3: the deepest place of a formula of many levels.
func TestDeepPlace(t *testing.T) {
	f, place := nots(deep, atom("P")), make([]int, deep)
	if got, e := At(f, place); e != api.OK || text(got) != text(atom("P")) {
		t.Errorf("At: %d", e)
	}
	g, e := With(f, place, atom("Q"))
	if e != api.OK || !Same(g, nots(deep, atom("Q"))) || Same(f, g) {
		t.Errorf("With: %d", e)
	}
}

// P2.3: no result shares memory with the formula or with the part, and their spare capacity stays as it is.
func TestWithIsACopy(t *testing.T) {
	for _, f := range append(some(60), example()) {
		for _, place := range places(f) {
			whole, wholeStays := roomy(Copy(f))
			part, partStays := roomy(Copy(example()))
			at, _ := At(whole, place)
			with, _ := With(whole, place, part)
			if !wholeStays() || !partStays() || text(whole) != text(f) || text(part) != text(example()) {
				t.Fatalf("%s and a part at %v have changed", text(f), place)
			}
			was, is := text(at), text(with)
			spoil(whole)
			spoil(part)
			if text(at) != was || text(with) != is {
				t.Fatalf("the results of %s at %v share memory with it, or with the part", text(f), place)
			}
		}
	}
}

// P2.5: what is put at a place is found there, all other places that do not begin with it stay as they are, and putting back gives the formula.
func TestPuttingAndTaking(t *testing.T) {
	parts := []api.Form{atom("New"), example(), {}, join(123, atom("P"), atom("Q"), atom("R"))}
	for _, f := range some(60) {
		for i, place := range places(f) {
			part := parts[i%len(parts)]
			old, _ := At(f, place)
			g, e := With(f, place, part)
			if got, found := At(g, place); e != api.OK || found != api.OK || !Same(got, part) {
				t.Fatalf("%s with %s at %v: %s, %d", text(f), text(part), place, text(g), e)
			}
			for _, other := range places(f) {
				checkOther(t, f, g, place, other)
			}
			if back, e := With(g, place, old); e != api.OK || !Same(back, f) {
				t.Fatalf("%s with what was at %v is not %s", text(g), place, text(f))
			}
		}
	}
}

// checkOther tests that a place is in g what it was in f, unless it begins with the one at which they differ, or that one begins with it: then its Op, Name and Args are the same.
func checkOther(t *testing.T, f, g api.Form, place, other []int) {
	t.Helper()
	if len(other) >= len(place) && slices.Equal(other[:len(place)], place) {
		return
	}
	a, _ := At(f, other)
	b, e := At(g, other)
	if len(place) > len(other) && slices.Equal(place[:len(other)], other) {
		if len(a.Sub) != len(b.Sub) {
			t.Fatalf("%s has as many parts at %v as %s", text(f), other, text(g))
		}
		a.Sub, b.Sub = nil, nil
	}
	if e != api.OK || !Same(a, b) {
		t.Fatalf("%s and %s differ at %v, not at %v", text(f), text(g), other, place)
	}
}
