package num

import (
	"bytes"
	"math"
	"strings"
	"testing"

	"donatus/api"
)

// longest is the chapter's bound of a text, said again, so that the program's own can't drift.
const longest = 1 << 20

// known has numbers whose bytes were reckoned by hand from the chapter's words.
var known = []struct {
	n int64
	b string
}{
	{0, "\x00"},
	{-1, "\x01"},
	{1, "\x02"},
	{-2, "\x03"},
	{2, "\x04"},
	{63, "\x7e"},
	{-64, "\x7f"},
	{64, "\x80\x01"},
	{-65, "\x81\x01"},
	{150, "\xac\x02"},
	{8191, "\xfe\x7f"},
	{-8192, "\xff\x7f"},
	{8192, "\x80\x80\x01"},
	{-8193, "\x81\x80\x01"},
	{api.MaxNum, "\x80\x80\x80\x80\x80\x40"},
	{math.MaxInt64/2 + 1, "\x80\x80\x80\x80\x80\x80\x80\x80\x80\x01"},
	{math.MaxInt64 / 2, "\xfe\xff\xff\xff\xff\xff\xff\xff\x7f"},
	{math.MaxInt64 - 1, "\xfc\xff\xff\xff\xff\xff\xff\xff\xff\x01"},
	{math.MaxInt64, "\xfe\xff\xff\xff\xff\xff\xff\xff\xff\x01"},
	{math.MinInt64 + 1, "\xfd\xff\xff\xff\xff\xff\xff\xff\xff\x01"},
	{math.MinInt64, "\xff\xff\xff\xff\xff\xff\xff\xff\xff\x01"},
}

func wantGet(t *testing.T, b []byte, n int64, k int, want api.Errno) {
	t.Helper()
	if gotN, gotK, err := Get(b); gotN != n || gotK != k || err != want {
		t.Errorf("P1.1: Get(%x) = %d, %d, %d; want %d, %d, %d", b, gotN, gotK, err, n, k, want)
	}
}

func wantText(t *testing.T, b []byte, s string, k int, want api.Errno) {
	t.Helper()
	if gotS, gotK, err := GetText(b); gotS != s || gotK != k || err != want {
		t.Errorf("P1.1: GetText(%x ..) = %d bytes, %d, %d; want %d bytes, %d, %d", b[:min(len(b), 12)], len(gotS), gotK, err, len(s), k, want)
	}
}

func TestPutKnown(t *testing.T) {
	for _, c := range known {
		for _, head := range []string{"", "x", "a longer head"} {
			if got := Put([]byte(head), c.n); string(got) != head+c.b {
				t.Errorf("P1.1: Put(%q, %d) = %x; want %x", head, c.n, got, head+c.b)
			}
		}
		if got := Put(nil, c.n); string(got) != c.b {
			t.Errorf("P0.4: Put(nil, %d) = %x; want %x", c.n, got, c.b)
		}
	}
}

func TestGetKnown(t *testing.T) {
	for _, c := range known {
		wantGet(t, []byte(c.b), c.n, len(c.b), api.OK)
		for _, tail := range []string{"\x00", "\x80", "\xff\xff\xff", strings.Repeat("\xff", 100)} {
			wantGet(t, []byte(c.b+tail), c.n, len(c.b), api.OK)
		}
	}
}

func TestGetEndsWithin(t *testing.T) {
	wantGet(t, nil, 0, 0, api.ErrMore)
	wantGet(t, []byte{}, 0, 0, api.ErrMore)
	for _, c := range known {
		for k := range len(c.b) {
			wantGet(t, []byte(c.b[:k]), 0, 0, api.ErrMore)
		}
	}
	for k := 1; k < 10; k++ {
		wantGet(t, bytes.Repeat([]byte{0x80}, k), 0, 0, api.ErrMore)
		wantGet(t, bytes.Repeat([]byte{0xff}, k), 0, 0, api.ErrMore)
	}
}

func TestGetLongerThanNeeded(t *testing.T) {
	for k := 1; k < 10; k++ {
		for _, c := range []byte{0x80, 0x81, 0xff} {
			b := append(bytes.Repeat([]byte{c}, k), 0)
			wantGet(t, b, 0, 0, api.ErrForm)
			wantGet(t, append(b, 1, 2, 3), 0, 0, api.ErrForm)
		}
	}
}

func TestGetTenthByte(t *testing.T) {
	for c := range 256 {
		for _, head := range []byte{0x80, 0xff} {
			b := append(bytes.Repeat([]byte{head}, 9), byte(c))
			if c == 1 {
				n := int64(math.MaxInt64/2 + 1)
				if head == 0xff {
					n = math.MinInt64
				}
				wantGet(t, b, n, 10, api.OK)
				continue
			}
			// The bytes end here: above 127 this is told ahead of ErrMore.
			wantGet(t, b, 0, 0, api.ErrForm)
			wantGet(t, append(b, 0), 0, 0, api.ErrForm)
			wantGet(t, append(b, 1, 1), 0, 0, api.ErrForm)
		}
	}
	wantGet(t, bytes.Repeat([]byte{0xff}, 100000), 0, 0, api.ErrForm)
}

// sizeOf reckons how many bytes n needs from the range that k bytes have: 7 k bits, half of it below 0.
func sizeOf(n int64) int {
	for k := 1; k < 10; k++ {
		half := int64(1) << (7*k - 1)
		if -half <= n && n < half {
			return k
		}
	}
	return 10
}

func TestBackAndForth(t *testing.T) {
	check := func(n int64) {
		b := Put(nil, n)
		if len(b) != sizeOf(n) {
			t.Fatalf("P1.1: Put(nil, %d) has %d bytes; want %d", n, len(b), sizeOf(n))
		}
		if x, k, err := Get(b); x != n || k != len(b) || err != api.OK {
			t.Fatalf("P1.1: Get(Put(nil, %d)) = %d, %d, %d", n, x, k, err)
		}
	}
	for n := int64(-70000); n <= 70000; n++ {
		check(n)
	}
	for e := range 63 {
		for d := int64(-3); d <= 3; d++ {
			check(int64(1)<<e + d)
			check(-(int64(1) << e) + d)
		}
	}
	for d := range int64(100) {
		check(math.MaxInt64 - d)
		check(math.MinInt64 + d)
	}
	for u := uint64(1); u < 1<<63; u = u*3 + 1 {
		check(int64(u))
		check(-int64(u))
	}
}

// Whatever Get takes, Put writes just so: no number has two texts of bytes.
func TestGetTakesOneFormAlone(t *testing.T) {
	for x := range 1 << 24 {
		b := []byte{byte(x), byte(x >> 8), byte(x >> 16)}
		n, k, err := Get(b)
		if err == api.OK {
			if got := putNumber(nil, n); string(got) != string(b[:k]) {
				t.Fatalf("P1.1: Get(%x) = %d, %d; but Put says %x", b, n, k, got)
			}
			continue
		}
		want := api.ErrForm
		if b[0] >= 128 && b[1] >= 128 && b[2] >= 128 {
			want = api.ErrMore
		}
		if n != 0 || k != 0 || err != want {
			t.Fatalf("P1.1: Get(%x) = %d, %d, %d; want 0, 0, %d", b, n, k, err, want)
		}
	}
}

func TestPutText(t *testing.T) {
	long := strings.Repeat("y", 64)
	for _, c := range []struct{ head, s, want string }{
		{"", "", "\x00"},
		{"x", "", "x\x00"},
		{"", "abc", "\x06abc"},
		{"x", "abc", "x\x06abc"},
		{"x", "\x00\xff\x80", "x\x06\x00\xff\x80"},
		{"", "é", "\x04\xc3\xa9"},
		{"", long[:63], "\x7e" + long[:63]},
		{"", long, "\x80\x01" + long},
	} {
		if got := PutText([]byte(c.head), c.s); string(got) != c.want {
			t.Errorf("P1.1: PutText(%q, %q) = %x; want %x", c.head, c.s, got, c.want)
		}
	}
	if got := PutText(nil, "abc"); string(got) != "\x06abc" {
		t.Errorf("P0.4: PutText(nil, abc) = %x", got)
	}
}

func TestGetText(t *testing.T) {
	for _, n := range []int{0, 1, 3, 63, 64, 1000, 8191, 8192, longest - 1, longest} {
		s := strings.Repeat("\xfez", n/2+1)[:n]
		b := PutText(nil, s)
		wantText(t, b, s, len(b), api.OK)
		wantText(t, append(b, "behind"...), s, len(b), api.OK)
		wantText(t, append(b, 0), s, len(b), api.OK)
		wantText(t, b[:len(b)-1], "", 0, api.ErrMore)
	}
}

func TestGetTextEndsWithin(t *testing.T) {
	wantText(t, nil, "", 0, api.ErrMore)
	wantText(t, []byte{}, "", 0, api.ErrMore)
	b := PutText(nil, strings.Repeat("q", 100))
	for k := range b {
		wantText(t, b[:k], "", 0, api.ErrMore)
	}
	wantText(t, Put(nil, longest), "", 0, api.ErrMore)
	wantText(t, bytes.Repeat([]byte{0xff}, 9), "", 0, api.ErrMore)
}

func TestGetTextWrongLength(t *testing.T) {
	for _, n := range []int64{-1, -2, -64, -65, -longest, math.MinInt64, longest + 1, longest * 2, 1 << 31, 1 << 32, 1<<32 + 3, 1 << 62, math.MaxInt64} {
		b := Put(nil, n)
		// Told with or without bytes behind: it is named ahead of ErrMore.
		wantText(t, b, "", 0, api.ErrForm)
		wantText(t, append(b, "abcdef"...), "", 0, api.ErrForm)
	}
	wantText(t, PutText(nil, strings.Repeat("l", longest+1)), "", 0, api.ErrForm)
	for _, s := range []string{"\x80\x00", "\x82\x80\x00", "\x86\x00abc", "\xff\xff\xff\xff\xff\xff\xff\xff\xff\x02", "\xff\xff\xff\xff\xff\xff\xff\xff\xff\xff"} {
		wantText(t, []byte(s), "", 0, api.ErrForm)
	}
}

func TestPutTextWritesTooLongOnes(t *testing.T) {
	s := strings.Repeat("l", longest+1)
	if got := PutText([]byte("x"), s); string(got) != "x\x82\x80\x80\x01"+s {
		t.Errorf("P1.1: PutText of %d bytes: %d bytes, %x ..", len(s), len(got), got[:8])
	}
}

func TestFour(t *testing.T) {
	for n, want := range map[uint32]string{
		0:              "\x00\x00\x00\x00",
		1:              "\x00\x00\x00\x01",
		0x01020304:     "\x01\x02\x03\x04",
		0x80000000:     "\x80\x00\x00\x00",
		0xfffefdfc:     "\xff\xfe\xfd\xfc",
		math.MaxUint32: "\xff\xff\xff\xff",
	} {
		if got := Four(n); string(got) != want {
			t.Errorf("P1.1: Four(%x) = %x; want %x", n, got, want)
		}
	}
}

// puts has all calls that put something behind a list.
func puts() map[string]func(b []byte) []byte {
	return map[string]func(b []byte) []byte{
		"Put of a short number": func(b []byte) []byte { return Put(b, 5) },
		"Put of a long number":  func(b []byte) []byte { return Put(b, math.MinInt64) },
		"PutText of nothing":    func(b []byte) []byte { return PutText(b, "") },
		"PutText":               func(b []byte) []byte { return PutText(b, "some text") },
	}
}

// fill writes c into all of b and its spare room.
func fill(b []byte, c byte) {
	b = b[:cap(b)]
	for i := range b {
		b[i] = c
	}
}

func TestPutsLeaveTheirListAlone(t *testing.T) {
	for name, put := range puts() {
		for _, size := range []int{0, 1, 32} {
			room := bytes.Repeat([]byte{0xaa}, 64)
			want := string(room)
			got := put(room[:size])
			if string(room) != want {
				t.Errorf("P0.3: %s changed its list of %d or its spare room: %x", name, size, room)
			}
			before := string(got)
			fill(room, 0xbb)
			if string(got) != before {
				t.Errorf("P0.3: %s of a list of %d kept it", name, size)
			}
			fill(room, 0xcc)
			fill(got, 0xdd)
			if !bytes.Equal(room, bytes.Repeat([]byte{0xcc}, 64)) {
				t.Errorf("P0.3: %s of a list of %d answered its memory", name, size)
			}
		}
	}
}

func TestAnswersShareNothing(t *testing.T) {
	for name, put := range puts() {
		head := []byte("head")
		a, b := put(head), put(head)
		want := string(b)
		fill(a, 0xee)
		if string(b) != want || string(put(head)) != want {
			t.Errorf("P0.3: %s: two answers share memory", name)
		}
	}
	a, b := Four(7), Four(7)
	fill(a, 0xee)
	if string(b) != "\x00\x00\x00\x07" || string(Four(7)) != string(b) {
		t.Error("P0.3: Four: two answers share memory")
	}
}

func TestGetsLeaveTheirListAlone(t *testing.T) {
	for _, s := range []string{"", "\x02", "\x80", "\x80\x00", "\x06abc", "\x06ab", "\x01", "\xff\xff\xff\xff\xff\xff\xff\xff\xff\xff"} {
		room := []byte(s + "spare room")
		want := string(room)
		Get(room[:len(s)])
		GetText(room[:len(s)])
		if string(room) != want {
			t.Errorf("P0.3: Get or GetText changed %x: %x", want, room)
		}
	}
	b := PutText(nil, "some text")
	s, _, _ := GetText(b)
	fill(b, 0xee)
	if s != "some text" {
		t.Errorf("P0.3: GetText kept its list: %q", s)
	}
}

// What lies in the spare room is no part of the bytes.
func TestGetsDoNotReadSpareRoom(t *testing.T) {
	for _, c := range known {
		for k := range len(c.b) {
			wantGet(t, []byte(c.b)[:k], 0, 0, api.ErrMore)
		}
	}
	b := PutText(nil, "some text")
	for k := range b {
		wantText(t, b[:k], "", 0, api.ErrMore)
	}
}
