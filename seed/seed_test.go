package seed

import (
	"strings"
	"testing"

	"lyceum/api"
)

// key7 is Mix(7), worked out apart from this package, as are all the numbers that the tests of this package expect.
const key7 = 0x12ae30237b17df14

func TestConstants(t *testing.T) {
	if MaxWord != 1099511627776 || MaxLabel != 32 || MaxList != 1000 || MaxWeight != 1099511627776 {
		t.Error(MaxWord, MaxLabel, MaxList, MaxWeight)
	}
}

// P1.2: the streams of numbers, of numbers in a stream, and of names in a stream.
func TestNewAndAt(t *testing.T) {
	if s := New(7); s.Key != key7 {
		t.Errorf("New(7) has the key %#x", s.Key)
	}
	if s := New(0); s.Key != 0 {
		t.Errorf("New(0) has the key %#x", s.Key)
	}
	for _, c := range []struct {
		key  uint64
		n    int
		want uint64
	}{
		{key7, 0, 0x50e3a6c7a37c0937},
		{key7, 5, 0xee53994e4dfe3b33},
		{key7, -1, 0x2d970b752f012ad3},
		{key7, -1 << 63, 0x6b95067673e6ab7},
		{1<<64 - 1, 3, 0x1e535eede31428f0}, // Key + 1 is 0
	} {
		if got := (Stream{c.key}).At(c.n); got.Key != c.want {
			t.Errorf("At(%d) of %#x has the key %#x, not %#x", c.n, c.key, got.Key, c.want)
		}
	}
}

func TestSub(t *testing.T) {
	for _, c := range []struct {
		name string
		want uint64
		e    api.Errno
	}{
		{"a", 0xa506e2b12e07ebb6, api.OK},
		{"ab", 0xbcf49d3d89776df8, api.OK},
		{"\x00", 0x50e3a6c7a37c0937, api.OK},
		{"\u00e9", 0x7bca9c6ada5f0283, api.OK}, // two bytes, taken one by one
		{"\xff\x80", 0x892aa8c4164a7829, api.OK},
		{strings.Repeat("x", 32), 0xf3316ea5e9f23988, api.OK},
		{"", 0, api.ErrArg},
		{strings.Repeat("x", 33), 0, api.ErrLong},
		{strings.Repeat("\u00e9", 17), 0, api.ErrLong}, // 17 letters, but 34 bytes
	} {
		if got, e := (Stream{key7}).Sub(c.name); got.Key != c.want || e != c.e {
			t.Errorf("Sub(%q) is %#x, %d, not %#x, %d", c.name, got.Key, e, c.want, c.e)
		}
	}
}

// P1.3: the words of a stream.
func TestWord(t *testing.T) {
	for _, c := range []struct {
		key  uint64
		i    int
		want uint64
		e    api.Errno
	}{
		{0, 0, 0xe220a8397b1dcdaf, api.OK},
		{0, 1, 0x6e789e6aa1b965f4, api.OK},
		{1234567, 0, 6457827717110365317, api.OK},
		{1234567, 4, 16408922859458223821, api.OK},
		{key7, 0, 0x863b891f4c0abd4f, api.OK},
		{key7, 1 << 20, 0xcbda1088daa8e5b8, api.OK},
		{key7, 1<<40 - 1, 0xc9b4689420e2b6ed, api.OK},
		{key7, 1 << 40, 0, api.ErrArg},
		{key7, 1<<63 - 1, 0, api.ErrArg},
		{key7, -1, 0, api.ErrArg},
		{key7, -1 << 63, 0, api.ErrArg},
	} {
		if got, e := (Stream{c.key}).Word(c.i); got != c.want || e != c.e {
			t.Errorf("Word(%d) of %#x is %#x, %d, not %#x, %d", c.i, c.key, got, e, c.want, c.e)
		}
	}
}

// P1.5: the words of a stream are all different.
func TestWordsDiffer(t *testing.T) {
	for _, s := range []Stream{{0}, {1<<64 - 1}, New(7)} {
		seen := map[uint64]bool{}
		for i := range 20000 {
			for _, at := range []int{i, MaxWord - 1 - i} {
				w, e := s.Word(at)
				if e != api.OK || seen[w] {
					t.Fatal(s, at, w, e)
				}
				seen[w] = true
			}
		}
	}
}

// P1.5: different keys, numbers, and names that differ in one byte have different streams.
func TestStreamsDiffer(t *testing.T) {
	byKey := map[string]map[uint64]bool{"New": {}, "At": {}, "Sub": {}}
	numbers, names := map[uint64]bool{}, map[uint64]bool{}
	const count = 5000
	for i := range count {
		s := Stream{uint64(i)}
		named, _ := s.Sub("name")
		byKey["New"][New(uint64(i)).Key] = true
		byKey["At"][s.At(3).Key] = true
		byKey["Sub"][named.Key] = true
		numbers[New(7).At(i-count/2).Key] = true
	}
	for place := range 3 {
		for b := range 256 {
			name := []byte("abc")
			name[place] = byte(b)
			s, e := New(7).Sub(string(name))
			if e != api.OK {
				t.Fatal(name, e)
			}
			names[s.Key] = true
		}
	}
	for what, keys := range byKey {
		if len(keys) != count {
			t.Error(what, "has only", len(keys), "streams of", count, "keys")
		}
	}
	if len(numbers) != count || len(names) != 3*255+1 { // abc itself comes up at each place
		t.Error(len(numbers), len(names))
	}
}
