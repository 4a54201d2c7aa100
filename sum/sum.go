// Package sum: checksums of bytes. See doc/01-sum.md.
package sum

import "cobbler/api"

const (
	first   = 1 // not 0, so that leading zero bytes count
	factor  = 31
	modulus = 65521 // a prime above 255, so that one changed byte always shows
)

// Of returns the checksum of b.
func Of(b []byte) int { return add(first, b) }

// On continues the checksum s with the bytes b.
func On(s int, b []byte) (int, api.Errno) {
	if s < 0 || s >= modulus {
		return 0, api.ErrRange
	}
	return add(s, b), api.OK
}

// add reduces after every byte, so that no length of b overflows.
func add(s int, b []byte) int {
	for _, x := range b {
		s = (s*factor + int(x)) % modulus
	}
	return s
}
