// Package octets is layer 1, sets of bytes: see shared/doc/01-octets.md.
package octets

import (
	"math/bits"

	"shibboleth/api"
)

// Of is the set of these bytes.
func Of(bs ...byte) api.Set {
	var s api.Set
	for _, c := range bs {
		s[c/64] |= bit(c)
	}
	return s
}

// Range is the set of the bytes from the one to the other; none, if to is below from.
func Range(from, to byte) api.Set {
	var s api.Set
	// An int counts here: a byte would wrap round behind 255 and never be above to.
	for c := int(from); c <= int(to); c++ {
		s[c/64] |= bit(byte(c))
	}
	return s
}

// All is the set of all bytes.
func All() api.Set {
	return Not(api.Set{})
}

// Has tells whether c is in s.
func Has(s api.Set, c byte) bool {
	return s[c/64]&bit(c) != 0
}

// And is the set of the bytes that are in both.
func And(a, b api.Set) api.Set {
	var s api.Set
	for i := range s {
		s[i] = a[i] & b[i]
	}
	return s
}

// Or is the set of the bytes that are in one of the two, or in both.
func Or(a, b api.Set) api.Set {
	var s api.Set
	for i := range s {
		s[i] = a[i] | b[i]
	}
	return s
}

// Not is the set of the bytes that are not in s.
func Not(s api.Set) api.Set {
	var t api.Set
	for i := range t {
		t[i] = ^s[i]
	}
	return t
}

// Count is how many bytes are in s.
func Count(s api.Set) int {
	n := 0
	for _, word := range s {
		n += bits.OnesCount64(word)
	}
	return n
}

// First is the least byte of s, and true; 0 and false, if there is none.
func First(s api.Set) (byte, bool) {
	for i, word := range s {
		if word != 0 {
			return lowest(i, word), true
		}
	}
	return 0, false
}

// List is all bytes of s, rising.
func List(s api.Set) []byte {
	list := make([]byte, 0, Count(s))
	for i, word := range s {
		for word != 0 {
			list = append(list, lowest(i, word))
			word &= word - 1 // takes the lowest bit away
		}
	}
	return list
}

// bit is the bit of c in the one of the four numbers that holds it.
func bit(c byte) uint64 {
	return 1 << (c % 64)
}

// lowest is the byte that the lowest bit of the i-th number says; word is that number, and not 0.
func lowest(i int, word uint64) byte {
	return byte(i*64 + bits.TrailingZeros64(word))
}
