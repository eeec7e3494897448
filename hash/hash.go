// Package hash is layer 1: see shared/doc/01-hash.md.
package hash

import "iter"

// multiplier is odd, so that multiplying by it modulo 2^64 loses nothing.
const multiplier = 0x9E3779B97F4A7C15

// Sum returns the hash of a label and words.
func Sum(label string, words ...int) uint64 {
	s := begin(label, len(words))
	for _, w := range words {
		s = mix(s, uint64(w))
	}
	return mix(s, 0)
}

// Bytes returns the hash of a label and bytes.
func Bytes(label string, b []byte) uint64 {
	// The words are mixed in as they come: a list of them for Sum would need as much memory again as b.
	groups := (len(b) + 7) / 8
	s := begin(label, groups+1)
	for w := range wordsOf(b) {
		s = mix(s, w)
	}
	s = mix(s, uint64(len(b)))
	return mix(s, 0)
}

// Pair returns the hash of two hashes.
func Pair(a, b uint64) uint64 {
	return Sum("pair", int(a), int(b))
}

// begin returns the state before the first of count words.
func begin(label string, count int) uint64 {
	var s uint64
	for w := range wordsOf([]byte(label)) {
		s = mix(s, w)
	}
	s = mix(s, uint64(len(label)))
	return mix(s, uint64(count))
}

// mix returns the state s after the word w.
func mix(s, w uint64) uint64 {
	m := (s ^ w) * multiplier
	return m ^ m>>32
}

// wordsOf yields the words of a byte slice.
func wordsOf(b []byte) iter.Seq[uint64] {
	return func(yield func(uint64) bool) {
		for start := 0; start < len(b); start += 8 {
			if !yield(word(b[start:min(start+8, len(b))])) {
				return
			}
		}
	}
}

// word reads a group of at most 8 bytes; bytes that it lacks count as zero.
func word(group []byte) uint64 {
	var w uint64
	for i, c := range group {
		w |= uint64(c) << (8 * i)
	}
	return w
}
