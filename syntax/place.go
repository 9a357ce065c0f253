package syntax

import "lyceum/api"

// Copy is a formula in memory of its own.
func Copy(f api.Form) api.Form {
	f.Args = copies(f.Args, copyTerm)
	f.Sub = copies(f.Sub, Copy)
	return f
}

// At is the part at a place.
func At(f api.Form, place []int) (api.Form, api.Errno) {
	part := find(&f, place)
	if part == nil {
		return api.Form{}, api.ErrNone
	}
	return Copy(*part), api.OK
}

// With is a formula with another part at a place.
func With(f api.Form, place []int, part api.Form) (api.Form, api.Errno) {
	f = Copy(f)
	old := find(&f, place)
	if old == nil {
		return api.Form{}, api.ErrNone
	}
	*old = Copy(part)
	return f, api.OK
}

// find returns the part at a place, in the memory of the formula; nil if there is none.
func find(f *api.Form, place []int) *api.Form {
	for _, i := range place {
		if i < 0 || i >= len(f.Sub) {
			return nil
		}
		f = &f.Sub[i]
	}
	return f
}

// copyTerm returns a term in memory of its own.
func copyTerm(t api.Term) api.Term {
	t.Args = copies(t.Args, copyTerm)
	return t
}

// copies returns the copies of the elements of a list.
func copies[T any](list []T, copyOf func(x T) T) []T {
	if len(list) == 0 {
		return nil
	}
	l := make([]T, len(list))
	for i, x := range list {
		l[i] = copyOf(x)
	}
	return l
}
