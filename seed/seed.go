// Package seed is layer 1: see shared/doc/01-seed.md.
package seed

import "lyceum/api"

// Stream is a stream of words.
type Stream struct{ Key uint64 }

// Limits.
const (
	MaxWord   = 1 << 40 // words of a stream
	MaxLabel  = 32      // bytes of a name
	MaxList   = 1000    // elements of a list
	MaxWeight = 1 << 40 // of an element
)

// stride lies between the keys of neighbouring words; it is odd, so that no two of 2^64 keys in a row are equal.
const stride = 0x9e3779b97f4a7c15

// New returns the stream of a number.
func New(n uint64) Stream { return Stream{Key: Mix(n)} }

// At returns the stream of a number in a stream.
func (s Stream) At(n int) Stream { return Stream{Key: Mix(Mix(s.Key+1) ^ uint64(n))} }

// Sub returns the stream of a name in a stream.
func (s Stream) Sub(name string) (Stream, api.Errno) {
	if name == "" {
		return Stream{}, api.ErrArg
	}
	if len(name) > MaxLabel {
		return Stream{}, api.ErrLong
	}
	k := Mix(s.Key ^ uint64(len(name)))
	for i := range len(name) { // by bytes: a range over the string would give runes
		k = Mix(k ^ uint64(name[i]))
	}
	return Stream{Key: k}, api.OK
}

// Word returns the word with an index.
func (s Stream) Word(i int) (uint64, api.Errno) {
	if i < 0 || i >= MaxWord {
		return 0, api.ErrArg
	}
	return Mix(s.Key + (uint64(i)+1)*stride), api.OK
}
