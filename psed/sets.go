package psed

import (
	"iter"
	"math/bits"
)

// byteSet is a set of bytes, a bit for each.
type byteSet [4]uint64

func oneByte(b byte) byteSet {
	return byteRange(b, b)
}

// byteRange is the set of all bytes from low to high.
func byteRange(low, high byte) byteSet {
	var set byteSet
	for b := int(low); b <= int(high); b++ {
		set[b/64] |= 1 << (b % 64)
	}
	return set
}

func (s byteSet) has(b byte) bool {
	return s[b/64]>>(b%64)&1 == 1
}

func (s byteSet) with(other byteSet) byteSet {
	for i, word := range other {
		s[i] |= word
	}
	return s
}

func (s byteSet) others() byteSet {
	for i := range s {
		s[i] = ^s[i]
	}
	return s
}

// placeSet is a set of places in a text, a bit for each; the zero value is
// empty. It is shared once it has been handed on, and not changed any more.
type placeSet struct {
	words []uint64
}

func (s placeSet) has(place int) bool {
	i := place / 64
	return i < len(s.words) && s.words[i]>>(place%64)&1 == 1
}

func (s *placeSet) add(place int) {
	s.grow(place/64 + 1)
	s.words[place/64] |= 1 << (place % 64)
}

func (s *placeSet) addAll(other placeSet) {
	s.grow(len(other.words))
	for i, word := range other.words {
		s.words[i] |= word
	}
}

func (s *placeSet) grow(size int) {
	if size > len(s.words) {
		words := make([]uint64, size)
		copy(words, s.words)
		s.words = words
	}
}

// last answers the greatest place, -1 if there is none.
func (s placeSet) last() int {
	for place := range s.lastFirst() {
		return place
	}
	return -1
}

// lastFirst goes through the places, the greatest first: what is looked for is
// always the longest that will do.
func (s placeSet) lastFirst() iter.Seq[int] {
	return func(yield func(int) bool) {
		for i := len(s.words) - 1; i >= 0; i-- {
			for word := s.words[i]; word != 0; {
				top := bits.Len64(word) - 1
				if !yield(i*64 + top) {
					return
				}
				word &^= 1 << top
			}
		}
	}
}
