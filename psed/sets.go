package psed

import (
	"math"
	"math/bits"
	"slices"
)

// byteSet is a set of bytes, a bit for each.
type byteSet [4]uint64

func oneByte(b byte) byteSet {
	return byteRange(b, b)
}

// byteRange is the set of all bytes from low to high.
func byteRange(low, high byte) byteSet {
	var set byteSet
	for b := int(low); b <= int(high); b++ {
		set[b/64] |= 1 << (b % 64)
	}
	return set
}

func (s byteSet) has(b byte) bool {
	return s[b/64]>>(b%64)&1 == 1
}

func (s byteSet) with(other byteSet) byteSet {
	for i, word := range other {
		s[i] |= word
	}
	return s
}

func (s byteSet) others() byteSet {
	for i := range s {
		s[i] = ^s[i]
	}
	return s
}

// placeSet is a set of places in a text, its end too: a bit for each. Sets of one
// text have as many words. It is not changed any more once it has been handed
// on.
type placeSet []uint64

func noPlaces(length int) placeSet {
	return make(placeSet, length/64+1)
}

func onePlace(place, length int) placeSet {
	set := noPlaces(length)
	set.add(place)
	return set
}

// allPlaces is the set of all places in a text of that length.
func allPlaces(length int) placeSet {
	set := noPlaces(length)
	for i := range set {
		set[i] = math.MaxUint64
	}
	set[length/64] >>= 63 - length%64
	return set
}

func (s placeSet) add(place int) {
	s[place/64] |= 1 << (place % 64)
}

// among answers those places that are in the other set too.
func (s placeSet) among(other placeSet) placeSet {
	both := slices.Clone(s)
	for i, word := range other {
		both[i] &= word
	}
	return both
}

// with answers the places of both sets.
func (s placeSet) with(other placeSet) placeSet {
	all := slices.Clone(s)
	for i, word := range other {
		all[i] |= word
	}
	return all
}

// without answers those places that are not in the other set.
func (s placeSet) without(other placeSet) placeSet {
	rest := slices.Clone(s)
	for i, word := range other {
		rest[i] &^= word
	}
	return rest
}

// later answers the places right behind these.
func (s placeSet) later() placeSet {
	moved := slices.Clone(s)
	var carry uint64
	for i, word := range s {
		moved[i] = word<<1 | carry
		carry = word >> 63
	}
	return moved
}

// earlier answers the places right ahead of these.
func (s placeSet) earlier() placeSet {
	moved := slices.Clone(s)
	var carry uint64
	for i := len(s) - 1; i >= 0; i-- {
		moved[i] = s[i]>>1 | carry
		carry = s[i] << 63
	}
	return moved
}

func (s placeSet) isEmpty() bool {
	return s.last() < 0
}

// last answers the greatest place, -1 if there is none.
func (s placeSet) last() int {
	for i := len(s) - 1; i >= 0; i-- {
		if s[i] != 0 {
			return i*64 + bits.Len64(s[i]) - 1
		}
	}
	return -1
}

// firstFrom answers the lowest place that is not ahead of at, -1 if there is
// none.
func (s placeSet) firstFrom(at int) int {
	for i := at / 64; i < len(s); i++ {
		word := s[i]
		if i == at/64 {
			word &^= 1<<(at%64) - 1
		}
		if word != 0 {
			return i*64 + bits.TrailingZeros64(word)
		}
	}
	return -1
}
