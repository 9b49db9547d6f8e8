// Package num writes numbers and texts as bytes: see doc/01-num.md.
package num

import (
	"donatus/api"
)

const (
	// maxBytes is how long a number can be: 64 bits, seven a byte.
	maxBytes = 10
	// maxLast is the most that the byte maxBytes can hold: of 64 bits one is left for it.
	maxLast = 1
	// maxText is the longest text that is read back.
	maxText = 1 << 20
	// more marks a byte behind which the number goes on.
	more = 128
)

// Put is b and n.
func Put(b []byte, n int64) []byte {
	return putNumber(copied(b, maxBytes), n)
}

// Get is the number at b's beginning, and how many bytes it has.
func Get(b []byte) (int64, int, api.Errno) {
	var u uint64
	for i, c := range b {
		// Asked ahead of all else: such a byte is wrong whatever may still come.
		if i == maxBytes-1 && c > maxLast {
			return 0, 0, api.ErrForm
		}
		u |= uint64(c%more) << (7 * i)
		if c >= more {
			continue
		}
		if c == 0 && i > 0 {
			return 0, 0, api.ErrForm
		}
		return unfold(u), i + 1, api.OK
	}
	return 0, 0, api.ErrMore
}

// PutText is b, the length of s, and s.
func PutText(b []byte, s string) []byte {
	out := putNumber(copied(b, maxBytes+len(s)), int64(len(s)))
	return append(out, s...)
}

// GetText is the text at b's beginning, and how many bytes it has with its length.
func GetText(b []byte) (string, int, api.Errno) {
	n, k, err := Get(b)
	if err != api.OK {
		return "", 0, err
	}
	if n < 0 || n > maxText {
		return "", 0, api.ErrForm
	}
	end := k + int(n)
	if end > len(b) {
		return "", 0, api.ErrMore
	}
	return string(b[k:end]), end, api.OK
}

// Four is n in four bytes, the highest first.
func Four(n uint32) []byte {
	return []byte{byte(n >> 24), byte(n >> 16), byte(n >> 8), byte(n)}
}

// copied is b in memory of its own, with room for more: an append to b itself could write into its caller's spare room.
func copied(b []byte, room int) []byte {
	return append(make([]byte, 0, len(b)+room), b...)
}

// putNumber appends n to out, which must be the program's own.
func putNumber(out []byte, n int64) []byte {
	u := fold(n)
	for u >= more {
		out = append(out, byte(u%more)+more)
		u /= more
	}
	return append(out, byte(u))
}

// fold is 2 n, or -2 n - 1 of n below 0; n + 1 is turned, as the least int64 itself has no opposite.
func fold(n int64) uint64 {
	if n < 0 {
		return 2*uint64(-(n+1)) + 1
	}
	return 2 * uint64(n)
}

// unfold is the number of which u is the fold.
func unfold(u uint64) int64 {
	half := int64(u / 2)
	if u%2 == 1 {
		return -half - 1
	}
	return half
}
