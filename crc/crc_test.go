package crc

import (
	"bytes"
	"hash/crc32"
	"math"
	"strings"
	"testing"
)

// known has sums that are written in other places, so that the tests do not hang on the library alone.
var known = []struct {
	s   string
	sum uint32
}{
	{"", 0},
	{"\x00", 0xd202ef8d},
	{"\xff", 0xff000000},
	{"\x00\x00\x00\x00", 0x2144df1c},
	{"\xff\xff\xff\xff", 0xffffffff},
	{"a", 0xe8b7be43},
	{"abc", 0x352441c2},
	{"123456789", 0xcbf43926},
	{"The quick brown fox jumps over the lazy dog", 0x414fa339},
}

// bytesOf makes n bytes that look like nothing: each hangs on the one ahead of it.
func bytesOf(n int) []byte {
	b := make([]byte, n)
	x := uint32(2463534242)
	for i := range b {
		x ^= x << 13
		x ^= x >> 17
		x ^= x << 5
		b[i] = byte(x >> 8)
	}
	return b
}

func wantSum(t *testing.T, b []byte, want uint32) {
	t.Helper()
	if got := Sum(b); got != want {
		t.Errorf("P2.1: Sum of %d bytes, %x .. = %08x; want %08x", len(b), b[:min(len(b), 12)], got, want)
	}
}

func TestSumKnown(t *testing.T) {
	for _, c := range known {
		wantSum(t, []byte(c.s), c.sum)
	}
}

// slow reckons a bit at a time, straight from the polynomial.
func slow(b []byte) uint32 {
	s := uint32(math.MaxUint32)
	for _, c := range b {
		for bit := range 8 {
			out := s&1 ^ uint32(c>>bit)&1
			s >>= 1
			if out == 1 {
				s ^= 0xedb88320
			}
		}
	}
	return ^s
}

func TestSumOfEachByte(t *testing.T) {
	for c := range 256 {
		for _, s := range []string{string([]byte{byte(c)}), string([]byte{byte(c), 0}), string([]byte{0, byte(c)}), string([]byte{byte(c), byte(c)})} {
			wantSum(t, []byte(s), crc32.ChecksumIEEE([]byte(s)))
			wantSum(t, []byte(s), slow([]byte(s)))
		}
	}
}

func TestSumOfEachLength(t *testing.T) {
	b := bytesOf(1500)
	for n := range len(b) + 1 {
		wantSum(t, b[:n], crc32.ChecksumIEEE(b[:n]))
	}
	long := bytesOf(3 << 20)
	wantSum(t, long, crc32.ChecksumIEEE(long))
}

func TestSumOfZeros(t *testing.T) {
	seen := map[uint32]int{}
	for n := range 300 {
		s := Sum(make([]byte, n))
		if k, ok := seen[s]; ok {
			t.Fatalf("P2.1: %d and %d zeros have one sum", k, n)
		}
		seen[s] = n
		wantSum(t, make([]byte, n), crc32.ChecksumIEEE(make([]byte, n)))
	}
}

func TestSumOfNothing(t *testing.T) {
	wantSum(t, nil, 0)
	wantSum(t, []byte{}, 0)
	wantSum(t, []byte("spare")[:0], 0)
	for _, s := range []uint32{0, 1, 0xcbf43926, math.MaxUint32} {
		for _, b := range [][]byte{nil, {}, []byte("spare")[:0]} {
			if got := More(s, b); got != s {
				t.Errorf("P2.1: More(%08x, nothing) = %08x", s, got)
			}
		}
	}
}

func TestMoreInTwoPieces(t *testing.T) {
	b := bytesOf(200)
	whole := crc32.ChecksumIEEE(b)
	for n := range len(b) + 1 {
		if got := More(Sum(b[:n]), b[n:]); got != whole {
			t.Errorf("P2.1: More behind %d bytes = %08x; want %08x", n, got, whole)
		}
	}
}

func TestMoreInSeveralPieces(t *testing.T) {
	b := []byte(strings.Repeat("some text, and 123456789\x00\xff\x80", 9))
	whole := crc32.ChecksumIEEE(b)
	for size := 1; size <= 40; size++ {
		s := Sum(nil)
		for at := 0; at < len(b); at += size {
			s = More(s, b[at:min(at+size, len(b))])
			s = More(s, nil)
		}
		if s != whole {
			t.Errorf("P2.1: More by pieces of %d = %08x; want %08x", size, s, whole)
		}
	}
}

// Any number is some text's sum, so More takes them all.
func TestMoreOfAnySum(t *testing.T) {
	b := bytesOf(31)
	for _, s := range []uint32{0, 1, 2, 0x80000000, 0x7fffffff, 0xedb88320, math.MaxUint32 - 1, math.MaxUint32} {
		for n := range len(b) + 1 {
			if got, want := More(s, b[:n]), crc32.Update(s, crc32.IEEETable, b[:n]); got != want {
				t.Errorf("P2.1: More(%08x, %d bytes) = %08x; want %08x", s, n, got, want)
			}
		}
	}
}

func TestListsAreLeftAlone(t *testing.T) {
	for _, size := range []int{0, 1, 7, 32} {
		room := bytesOf(64)
		want := bytes.Clone(room)
		sum, more := Sum(room[:size]), More(5, room[:size])
		if !bytes.Equal(room, want) {
			t.Errorf("P0.3: a list of %d or its spare room was changed: %x", size, room)
		}
		for i := range room {
			room[i] ^= 0xff
		}
		// Were the list kept, what it holds now would show in the answers behind it.
		if Sum(want[:size]) != sum || More(5, want[:size]) != more {
			t.Errorf("P0.3: a list of %d was kept", size)
		}
	}
}

func TestAnswersHangOnArgumentsAlone(t *testing.T) {
	for range 3 {
		for _, c := range known {
			wantSum(t, []byte(c.s), c.sum)
			if got := More(Sum([]byte("x")), []byte(c.s)); got != crc32.ChecksumIEEE([]byte("x"+c.s)) {
				t.Errorf("P0.5: More behind x of %q = %08x", c.s, got)
			}
		}
	}
}
