// Package sum: sums of texts, by which they are known.
package sum

import (
	"math/bits"

	"oubliette/api"
)

const (
	blockSize = 64 // bytes that are mixed in at once
	sizeSize  = 8  // bytes in which a text's own size ends it
	digits    = "0123456789abcdef"
)

// roundNumbers: FIPS 180-4, 4.2.2.
var roundNumbers = [64]uint32{
	0x428a2f98, 0x71374491, 0xb5c0fbcf, 0xe9b5dba5, 0x3956c25b, 0x59f111f1, 0x923f82a4, 0xab1c5ed5,
	0xd807aa98, 0x12835b01, 0x243185be, 0x550c7dc3, 0x72be5d74, 0x80deb1fe, 0x9bdc06a7, 0xc19bf174,
	0xe49b69c1, 0xefbe4786, 0x0fc19dc6, 0x240ca1cc, 0x2de92c6f, 0x4a7484aa, 0x5cb0a9dc, 0x76f988da,
	0x983e5152, 0xa831c66d, 0xb00327c8, 0xbf597fc7, 0xc6e00bf3, 0xd5a79147, 0x06ca6351, 0x14292967,
	0x27b70a85, 0x2e1b2138, 0x4d2c6dfc, 0x53380d13, 0x650a7354, 0x766a0abb, 0x81c2c92e, 0x92722c85,
	0xa2bfe8a1, 0xa81a664b, 0xc24b8b70, 0xc76c51a3, 0xd192e819, 0xd6990624, 0xf40e3585, 0x106aa070,
	0x19a4c116, 0x1e376c08, 0x2748774c, 0x34b0bcb5, 0x391c0cb3, 0x4ed8aa4a, 0x5b9cca4f, 0x682e6ff3,
	0x748f82ee, 0x78a5636f, 0x84c87814, 0x8cc70208, 0x90befffa, 0xa4506ceb, 0xbef9a3f7, 0xc67178f2,
}

// Sum is a text's SHA-256: 32 bytes.
func Sum(s string) string {
	whole := len(s) - len(s)%blockSize
	h := mixAll(firstState(), s[:whole])
	h = mixAll(h, ending(s[whole:], uint64(len(s))))
	out := make([]byte, 0, 4*len(h))
	for _, word := range h {
		out = append(out, byte(word>>24), byte(word>>16), byte(word>>8), byte(word))
	}
	return string(out)
}

// Hex writes bytes as hexadecimal digits.
func Hex(s string) string {
	out := make([]byte, 0, 2*len(s))
	for i := range len(s) {
		out = append(out, digits[s[i]>>4], digits[s[i]&15])
	}
	return string(out)
}

// Num is a number as eight bytes, the greatest first.
func Num(n int) string {
	return string(appendNum(nil, uint64(n)))
}

// Mark is what texts are known by, of a kind: the first 16 bytes of the sum of the kind, and of each how many bytes it has, and they.
func Mark(kind byte, parts ...string) string {
	// The sizes keep parts apart: "ab", "c" is not "a", "bc".
	text := []byte{kind}
	for _, part := range parts {
		text = appendNum(text, uint64(len(part)))
		text = append(text, part...)
	}
	return Sum(string(text))[:api.MarkSize]
}

// appendNum takes 64 bits, not an int, so that a size counted in bits has room on every machine.
func appendNum(to []byte, n uint64) []byte {
	for i := range 8 {
		to = append(to, byte(n>>(56-8*i)))
	}
	return to
}

// firstState: FIPS 180-4, 5.3.3.
func firstState() [8]uint32 {
	return [8]uint32{
		0x6a09e667, 0xbb67ae85, 0x3c6ef372, 0xa54ff53a,
		0x510e527f, 0x9b05688c, 0x1f83d9ab, 0x5be0cd19,
	}
}

// ending: what is left of a text of size bytes behind its whole blocks, filled up to whole blocks (FIPS 180-4, 5.1.1).
func ending(rest string, size uint64) string {
	out := append([]byte(rest), 0x80)
	for len(out)%blockSize != blockSize-sizeSize {
		out = append(out, 0)
	}
	return string(appendNum(out, 8*size))
}

// mixAll mixes in blocks, one behind the other.
func mixAll(h [8]uint32, blocks string) [8]uint32 {
	for i := range len(blocks) / blockSize {
		h = mix(h, blocks[i*blockSize:(i+1)*blockSize])
	}
	return h
}

// mix: FIPS 180-4, 6.2.2, steps 2 to 4.
func mix(h [8]uint32, block string) [8]uint32 {
	w := schedule(block)
	v := h
	for i := range len(w) {
		v = round(v, w[i]+roundNumbers[i])
	}
	for i := range len(h) {
		h[i] += v[i]
	}
	return h
}

// schedule: FIPS 180-4, 6.2.2, step 1.
func schedule(block string) [64]uint32 {
	var w [64]uint32
	for i := range 16 {
		b := block[4*i : 4*i+4]
		w[i] = uint32(b[0])<<24 | uint32(b[1])<<16 | uint32(b[2])<<8 | uint32(b[3])
	}
	for i := range len(w) - 16 {
		near, far := w[i+14], w[i+1]
		w[i+16] = w[i] + w[i+9] +
			(right(far, 7) ^ right(far, 18) ^ far>>3) +
			(right(near, 17) ^ right(near, 19) ^ near>>10)
	}
	return w
}

// round: one turn of FIPS 180-4, 6.2.2, step 3; added is the turn's word and number together.
func round(v [8]uint32, added uint32) [8]uint32 {
	a, b, c, d := v[0], v[1], v[2], v[3]
	e, f, g, h := v[4], v[5], v[6], v[7]
	choice := e&f ^ ^e&g
	most := a&b ^ a&c ^ b&c
	t := h + (right(e, 6) ^ right(e, 11) ^ right(e, 25)) + choice + added
	u := (right(a, 2) ^ right(a, 13) ^ right(a, 22)) + most
	return [8]uint32{t + u, a, b, c, d + t, e, f, g}
}

// right turns a word to the right.
func right(word uint32, by int) uint32 {
	return bits.RotateLeft32(word, -by)
}
