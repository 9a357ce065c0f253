package seed

import "testing"

// P1.1: mixing.
func TestMix(t *testing.T) {
	for _, c := range []struct{ x, want uint64 }{
		{0, 0},
		{1, 0x5692161d100b05e5},
		{2, 0xdbd238973a2b148a},
		{7, key7},
		{1 << 63, 0x25c26ea579cea98a},
		{1<<64 - 1, 0xb4d055fcf2cbbd7b},
	} {
		if got := Mix(c.x); got != c.want {
			t.Errorf("Mix(%#x) is %#x, not %#x", c.x, got, c.want)
		}
		if got := Unmix(c.want); got != c.x {
			t.Errorf("Unmix(%#x) is %#x, not %#x", c.want, got, c.x)
		}
	}
}

// P1.1: each of the two undoes the other, for each bit alone and for words all over.
func TestUnmix(t *testing.T) {
	var words []uint64
	for b := range 64 {
		words = append(words, 1<<b, ^uint64(1<<b), 1<<b-1)
	}
	for i := range uint64(10000) {
		words = append(words, i, -i, i*stride)
	}
	for _, x := range words {
		if Unmix(Mix(x)) != x || Mix(Unmix(x)) != x {
			t.Fatalf("%#x is mixed to %#x and back to %#x", x, Mix(x), Unmix(Mix(x)))
		}
	}
}
