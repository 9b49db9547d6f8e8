package lex

import (
	"fmt"
	"slices"
	"strings"
	"testing"

	"donatus/api"
)

// w, n, g, k are words of the four kinds that have a text.
func w(at int, text string) api.Word { return api.Word{Kind: 1, Text: text, At: at} }
func n(at int, text string) api.Word { return api.Word{Kind: 2, Text: text, At: at} }
func g(at int, text string) api.Word { return api.Word{Kind: 3, Text: text, At: at} }
func k(at int, text string) api.Word { return api.Word{Kind: 4, Text: text, At: at} }

// wantWords holds Scan(s) against words, behind which the end is laid.
func wantWords(t *testing.T, s string, words ...api.Word) {
	t.Helper()
	want := append(slices.Clone(words), api.Word{Kind: 5, Text: "", At: len(s)})
	if got, at := Scan(s); !slices.Equal(got, want) || at != -1 {
		t.Errorf("P4.1: Scan(%q) = %v, %d; want %v, -1", brief(s), got, at, want)
	}
}

func wantFault(t *testing.T, s string, want int) {
	t.Helper()
	if got, at := Scan(s); got != nil || at != want {
		t.Errorf("P4.1: Scan(%q) = %v, %d; want nil, %d", brief(s), got, at, want)
	}
}

func wantName(t *testing.T, s string, want bool) {
	t.Helper()
	if got := Name(s); got != want {
		t.Errorf("P4.1: Name(%q) = %t; want %t", brief(s), got, want)
	}
}

// brief keeps a failing test's line short.
func brief(s string) string {
	return s[:min(len(s), 80)]
}

const (
	letters = "abcdefghijklmnopqrstuvwxyzABCDEFGHIJKLMNOPQRSTUVWXYZ"
	digits  = "0123456789"
	inNames = letters + digits + "_"
)

var keys = []string{"%token", "%left", "%right", "%nonassoc", "%start", "%expect", "%prec"}

func TestNameBytes(t *testing.T) {
	for c := range 256 {
		one := string([]byte{byte(c)})
		first := strings.Contains(letters+"_", one)
		wantName(t, one, first)
		wantName(t, one+"a", first)
		wantName(t, one+strings.Repeat("a", 11), first)
		later := strings.Contains(inNames, one)
		wantName(t, "a"+one, later)
		wantName(t, "_"+one+"_", later)
		wantName(t, "abcdefghijk"+one, later)
	}
	for _, s := range []string{"é", "aé", "\u212a", "\u017f", "\uff41", "a\u0661", "a b", " a", "a ", "a\n", "a\x00"} {
		wantName(t, s, false)
	}
	for _, s := range []string{"_", "__", "_9", "A9", "Expr", "token", "prec", "____________", "a00000000000"} {
		wantName(t, s, true)
	}
}

func TestNameLength(t *testing.T) {
	wantName(t, "", false)
	for long := 1; long <= 40; long++ {
		for _, c := range []string{"n", "_", "Z"} {
			wantName(t, strings.Repeat(c, long), long <= 12)
		}
		wantName(t, "a"+strings.Repeat("7", long-1), long <= 12)
	}
	wantName(t, strings.Repeat("x", 1<<20), false)
}

func TestNoWords(t *testing.T) {
	for _, s := range []string{"", " ", "\t", "\n", " \t\n ", "\n\n\n", "//", "// x", "//\n", "//x\n//y", "////", "// % é \r 01\x00\xff\n\t", "///\n ///"} {
		wantWords(t, s)
	}
}

func TestOneByte(t *testing.T) {
	for c := range 256 {
		s := string([]byte{byte(c)})
		switch {
		case strings.Contains(letters+"_", s):
			wantWords(t, s, w(0, s))
			wantWords(t, " "+s+" ", w(1, s))
		case strings.Contains(digits, s):
			wantWords(t, s, n(0, s))
			wantWords(t, " "+s+" ", n(1, s))
		case strings.Contains(":|;", s):
			wantWords(t, s, g(0, s))
			wantWords(t, "a"+s+"a", w(0, "a"), g(1, s), w(2, "a"))
		case strings.Contains(" \t\n", s):
			wantWords(t, s)
			wantWords(t, "a"+s+"a", w(0, "a"), w(2, "a"))
		default:
			wantFault(t, s, 0)
			wantFault(t, "a"+s+"a", 1)
			wantFault(t, "a : 5 "+s, 6)
		}
	}
}

func TestBetween(t *testing.T) {
	wantWords(t, "a b\tc\nd", w(0, "a"), w(2, "b"), w(4, "c"), w(6, "d"))
	wantWords(t, "  a \t\n b", w(2, "a"), w(7, "b"))
	wantWords(t, "a//b\nc", w(0, "a"), w(5, "c"))
	wantWords(t, "a//b", w(0, "a"))
	wantWords(t, "a//", w(0, "a"))
	wantWords(t, "5//6\n7", n(0, "5"), n(5, "7"))
	wantWords(t, "%token//\n%%//%", k(0, "%token"), k(9, "%%"))
	wantWords(t, ":////\n|//;", g(0, ":"), g(6, "|"))
	wantWords(t, "//x\n//y\nz", w(8, "z"))
	wantWords(t, "a // b // c\n d", w(0, "a"), w(13, "d"))
	wantWords(t, "// \r\ta\n b", w(8, "b"))
	wantFault(t, "a\r\n", 1)
	wantFault(t, "//x\r\n\r", 5)
	wantFault(t, "a\v", 1)
	wantFault(t, "a\f", 1)
	wantFault(t, "a\u00a0b", 1)
	wantFault(t, "a/", 1)
	wantFault(t, "/", 0)
	wantFault(t, "a / / b", 2)
	wantFault(t, "a/b", 1)
	wantFault(t, "/* a */", 0)
	wantFault(t, "//\n/", 3)
	wantFault(t, "/\n/", 0)
}

func TestNames(t *testing.T) {
	wantWords(t, "Expr _x9 a_B_1", w(0, "Expr"), w(5, "_x9"), w(9, "a_B_1"))
	wantWords(t, "token left prec", w(0, "token"), w(6, "left"), w(11, "prec"))
	wantWords(t, "_ __", w(0, "_"), w(2, "__"))
	wantWords(t, "a5:_5", w(0, "a5"), g(2, ":"), w(3, "_5"))
	wantFault(t, "a-b", 1)
	wantFault(t, "aé", 1)
	for long := 1; long <= 30; long++ {
		for _, name := range []string{strings.Repeat("n", long), "_" + strings.Repeat("9", long-1), strings.Repeat("_", long)} {
			for _, tail := range []string{"", " ", ":", ";x", "//", "%%"} {
				if long > 12 {
					wantFault(t, "  "+name+tail, 2)
					continue
				}
				got, at := Scan("  " + name + tail)
				if at != -1 || len(got) < 2 || got[0] != w(2, name) {
					t.Errorf("P4.1: Scan of a name of %d bytes and %q = %v, %d", long, tail, got, at)
				}
			}
		}
	}
	wantFault(t, "x : "+strings.Repeat("y", 1<<20), 4)
}

func TestNumbers(t *testing.T) {
	wantWords(t, "0 9999 12", n(0, "0"), n(2, "9999"), n(7, "12"))
	wantWords(t, "5:5|5;5%%", n(0, "5"), g(1, ":"), n(2, "5"), g(3, "|"), n(4, "5"), g(5, ";"), n(6, "5"), k(7, "%%"))
	wantWords(t, "0 0 0", n(0, "0"), n(2, "0"), n(4, "0"))
	wantWords(t, "9\t0\n", n(0, "9"), n(2, "0"))
	wantWords(t, "7%prec", n(0, "7"), k(1, "%prec"))
	for i := range 10000 {
		s := fmt.Sprint(i)
		wantWords(t, s, n(0, s))
	}
	for _, s := range []string{"10000", "99999", "123456789", strings.Repeat("1", 1<<20), "00", "01", "09", "000", "0000", "0001", "0123", "00000", "01234"} {
		wantFault(t, s, 0)
		wantFault(t, "a "+s, 2)
		wantFault(t, s+" ", 0)
		wantFault(t, s+"a", 0)
	}
	for _, c := range letters + "_" {
		for _, s := range []string{"0", "5", "12", "9999", "10000"} {
			wantFault(t, ": "+s+string(c), 2)
			wantFault(t, ": "+s+string(c)+"9 x", 2)
		}
	}
	wantFault(t, "0x1F", 0)
	wantFault(t, "1e3", 0)
	wantFault(t, "-1", 0)
	wantFault(t, "1.5", 1)
	wantFault(t, "5é", 1)
}

func TestKeys(t *testing.T) {
	for _, s := range keys {
		long := len(s)
		wantWords(t, s, k(0, s))
		wantWords(t, "x "+s+" y", w(0, "x"), k(2, s), w(3+long, "y"))
		wantWords(t, "x"+s+":", w(0, "x"), k(1, s), g(1+long, ":"))
		wantWords(t, s+s, k(0, s), k(long, s))
		wantWords(t, s+"%%", k(0, s), k(long, "%%"))
		wantWords(t, s+"\n5", k(0, s), n(long+1, "5"))
		for _, c := range inNames {
			wantFault(t, "a "+s+string(c), 2)
			wantFault(t, "a "+s+string(c)+" b", 2)
		}
		for short := 1; short < long; short++ {
			wantFault(t, s[:short], 0)
			wantFault(t, "a "+s[:short]+" ", 2)
			wantFault(t, "a "+s[:short]+" "+s[short:], 2)
		}
		wantFault(t, strings.ToUpper(s), 0)
		wantFault(t, "%"+strings.ToUpper(s[1:2])+s[2:], 0)
		wantFault(t, s+"é", long)
		wantFault(t, s+"%", long)
		wantFault(t, "% "+s[1:], 0)
	}
	for _, s := range []string{"%", "% ", "%\n", "%1", "%_", "%:", "%;%", "%//", "%é", "%type", "%union", "%empty", "%{", "%x%%", "%12", "%" + strings.Repeat("a", 1<<20)} {
		wantFault(t, s, 0)
		wantFault(t, "a "+s, 2)
	}
}

func TestPercents(t *testing.T) {
	wantWords(t, "%%", k(0, "%%"))
	wantWords(t, "%%a", k(0, "%%"), w(2, "a"))
	wantWords(t, "%%5", k(0, "%%"), n(2, "5"))
	wantWords(t, "%%_", k(0, "%%"), w(2, "_"))
	wantWords(t, "%%:", k(0, "%%"), g(2, ":"))
	wantWords(t, "%%token", k(0, "%%"), w(2, "token"))
	wantWords(t, "%%%token", k(0, "%%"), k(2, "%token"))
	wantWords(t, "%%//%", k(0, "%%"))
	wantWords(t, "a%%b", w(0, "a"), k(1, "%%"), w(3, "b"))
	for pairs := range 20 {
		var want []api.Word
		for i := range pairs {
			want = append(want, k(2*i, "%%"))
		}
		s := strings.Repeat("%%", pairs)
		wantWords(t, s, want...)
		wantFault(t, s+"%", 2*pairs)
		wantFault(t, s+"% %", 2*pairs)
	}
	wantFault(t, "% %", 0)
}

func TestSigns(t *testing.T) {
	wantWords(t, "a:b|c;", w(0, "a"), g(1, ":"), w(2, "b"), g(3, "|"), w(4, "c"), g(5, ";"))
	wantWords(t, "::||;;", g(0, ":"), g(1, ":"), g(2, "|"), g(3, "|"), g(4, ";"), g(5, ";"))
	wantWords(t, ";|:", g(0, ";"), g(1, "|"), g(2, ":"))
}

func TestFirstFault(t *testing.T) {
	wantFault(t, "a 01 % é", 2)
	wantFault(t, "a % 01 é", 2)
	wantFault(t, "a é 01 %", 2)
	wantFault(t, "abcdefghijklm 01", 0)
	wantFault(t, "01 abcdefghijklm", 0)
	wantFault(t, "'a'", 0)
	wantFault(t, "a \x00", 2)
	wantFault(t, "a \xff", 2)
	wantFault(t, strings.Repeat("a : b ;\n", 1000)+"?", 8000)
}

func TestWholeGrammar(t *testing.T) {
	s := "%token NUM // a number\n%left ADD\n%expect 1\n%start e\n%%\ne: e ADD e\n | NUM %prec ADD ;\n"
	wantWords(t, s,
		k(0, "%token"), w(7, "NUM"),
		k(23, "%left"), w(29, "ADD"),
		k(33, "%expect"), n(41, "1"),
		k(43, "%start"), w(50, "e"),
		k(52, "%%"),
		w(55, "e"), g(56, ":"), w(58, "e"), w(60, "ADD"), w(64, "e"),
		g(67, "|"), w(69, "NUM"), k(73, "%prec"), w(79, "ADD"), g(83, ";"))
}

// Whatever the text, its words stand in it where they say, in order, with nothing but what is between them; so do they where each is cut apart by a newline.
func TestAllShortTexts(t *testing.T) {
	const alphabet = "a_05%:/ \n\r"
	var grow func(s string, left int)
	grow = func(s string, left int) {
		checkText(t, s)
		for i := 0; left > 0 && i < len(alphabet); i++ {
			grow(s+alphabet[i:i+1], left-1)
		}
	}
	grow("", 5)
}

func checkText(t *testing.T, s string) {
	t.Helper()
	words, at := Scan(s)
	if at != -1 {
		if words != nil || at < 0 || at >= len(s) {
			t.Fatalf("P4.1: Scan(%q) = %v, %d", s, words, at)
		}
		if head, ahead := Scan(s[:at]); ahead != -1 || head == nil {
			t.Fatalf("P4.1: Scan(%q) tells %d, but of what stands ahead %d", s, at, ahead)
		}
		return
	}
	apart := ""
	end := 0
	for _, x := range words {
		if x.At < end || x.At > len(s) || !strings.HasPrefix(s[x.At:], x.Text) {
			t.Fatalf("P4.1: Scan(%q) = %v", s, words)
		}
		if rest, restAt := Scan(s[end:x.At]); restAt != -1 || len(rest) != 1 {
			t.Fatalf("P4.1: Scan(%q) = %v: between %d and %d are words", s, words, end, x.At)
		}
		end = x.At + len(x.Text)
		apart += x.Text + "\n"
	}
	again, _ := Scan(apart)
	same := func(a, b api.Word) bool { return a.Kind == b.Kind && a.Text == b.Text }
	if !slices.EqualFunc(words, again, same) || words[len(words)-1].Kind != 5 {
		t.Fatalf("P4.1: Scan(%q) = %v; of the words apart %v", s, words, again)
	}
}

func TestAnswersShareNothing(t *testing.T) {
	const s = "%token a // x\n%% b : a 5 ;"
	first, _ := Scan(s)
	second, _ := Scan(s)
	want := slices.Clone(second)
	whole := first[:cap(first)]
	for i := range whole {
		whole[i] = api.Word{Kind: 99, Text: "spoilt", At: 99}
	}
	third, _ := Scan(s)
	if !slices.Equal(second, want) || !slices.Equal(third, want) {
		t.Errorf("P0.3: what is written into an answer is seen in another: %v, %v", second, third)
	}
}

func TestLongText(t *testing.T) {
	const many = 200000
	words, at := Scan(strings.Repeat("a:", many))
	if at != -1 || len(words) != 2*many+1 || words[2*many-1] != g(2*many-1, ":") {
		t.Errorf("P0.1: %d words, %d", len(words), at)
	}
	wantWords(t, strings.Repeat("//x\n", many))
	wantWords(t, strings.Repeat("/", many))
	wantWords(t, strings.Repeat(" ", many))
	wantFault(t, strings.Repeat("%%", many)+"%", 2*many)
}
