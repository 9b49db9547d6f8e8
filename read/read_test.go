package read

import (
	"regexp"
	"slices"
	"strconv"
	"strings"
	"testing"

	"donatus/api"
	"donatus/gram"
	"donatus/lex"
)

func wantGram(t *testing.T, s string, want api.Gram) {
	t.Helper()
	g, f := Read(s)
	if f != (api.Fault{}) || !gram.Eq(g, want) {
		t.Errorf("P6.1: Read(%q) = %v, %v; want %v", brief(s), g, f, want)
	}
	if !gram.May(g) {
		t.Errorf("P6.1: Read(%q) = %v, which may not be", brief(s), g)
	}
}

func wantFault(t *testing.T, s string, err api.Errno, at int) {
	t.Helper()
	g, f := Read(s)
	if f != (api.Fault{Err: err, At: at}) {
		t.Errorf("P6.1: Read(%q) tells %v; want {%d %d}", brief(s), f, err, at)
	}
	if !gram.Eq(g, api.Gram{}) {
		t.Errorf("P0.2: Read(%q) = %v beside the fault %v", brief(s), g, f)
	}
}

// wantMarked reads s without its one '@', which marks the fault's place.
func wantMarked(t *testing.T, s string, err api.Errno) {
	t.Helper()
	if strings.Count(s, "@") != 1 {
		t.Fatalf("%q has not one mark", s)
	}
	wantFault(t, strings.Replace(s, "@", "", 1), err, strings.Index(s, "@"))
}

// brief keeps a failing test's line short.
func brief(s string) string {
	return s[:min(len(s), 300)]
}

func tok(name string, level, assoc int) api.Tok {
	return api.Tok{Name: name, Level: level, Assoc: assoc}
}

func rule(left string, right ...string) api.Rule {
	return api.Rule{Left: left, Right: right}
}

func prec(r api.Rule, name string) api.Rule {
	r.Prec = name
	return r
}

func names(prefix string, n int) string {
	s := ""
	for i := range n {
		s += " " + prefix + strconv.Itoa(i)
	}
	return s
}

func toks(n int) []api.Tok {
	l := make([]api.Tok, n)
	for i := range l {
		l[i].Name = "t" + strconv.Itoa(i)
	}
	return l
}

// levels are n levels of a token each, t0 and on.
func levels(n int) string {
	s := ""
	for i := range n {
		s += []string{"%left", "%right", "%nonassoc"}[i%3] + " t" + strconv.Itoa(i) + " "
	}
	return s
}

const wholeText = `// sums
%left plus minus
%token num plus
%right pow // binds most
%start e %expect 12 %nonassoc less
%%
e : e plus e | e minus e
  | minus e %prec pow
  | num | ;
none:;
e : e less e | %prec less;`

func whole() api.Gram {
	return api.Gram{
		Tokens: []api.Tok{tok("plus", 1, 1), tok("minus", 1, 1), tok("num", 0, 0), tok("pow", 2, 2), tok("less", 3, 3)},
		Start:  "e", Expect: 12,
		Rules: []api.Rule{
			rule("e", "e", "plus", "e"), rule("e", "e", "minus", "e"), prec(rule("e", "minus", "e"), "pow"), rule("e", "num"), rule("e"),
			rule("none"), rule("e", "e", "less", "e"), prec(rule("e"), "less"),
		},
	}
}

func TestWhole(t *testing.T) {
	wantGram(t, wholeText, whole())
	words, _ := lex.Scan(wholeText)
	tight, wide := "", "\n"
	for _, w := range words {
		tight += w.Text + " "
		wide += "\t" + w.Text + " // %% ; : é\n\n"
	}
	wantGram(t, tight, whole())
	wantGram(t, wide, whole())
}

func TestNoRules(t *testing.T) {
	wantGram(t, "%%", api.Gram{})
	wantGram(t, " %% ", api.Gram{})
	wantGram(t, "// x\n%%// y", api.Gram{})
	wantGram(t, "%token a %%", api.Gram{Tokens: []api.Tok{tok("a", 0, 0)}})
	wantGram(t, "%start a%%", api.Gram{Start: "a"})
	wantGram(t, "%expect 7 %%", api.Gram{Expect: 7})
}

func TestTokens(t *testing.T) {
	wantGram(t, "%token a b c %%", api.Gram{Tokens: []api.Tok{tok("a", 0, 0), tok("b", 0, 0), tok("c", 0, 0)}})
	wantGram(t, "%token c %token a b %token d %%", api.Gram{Tokens: []api.Tok{tok("c", 0, 0), tok("a", 0, 0), tok("b", 0, 0), tok("d", 0, 0)}})
	wantGram(t, "%token a A _a a_ token prec %%", api.Gram{Tokens: []api.Tok{tok("a", 0, 0), tok("A", 0, 0), tok("_a", 0, 0), tok("a_", 0, 0), tok("token", 0, 0), tok("prec", 0, 0)}})
	wantGram(t, "%token abcdefghijkl %%", api.Gram{Tokens: []api.Tok{tok("abcdefghijkl", 0, 0)}})
}

func TestLevels(t *testing.T) {
	wantGram(t, "%left a %%", api.Gram{Tokens: []api.Tok{tok("a", 1, 1)}})
	wantGram(t, "%right a b %%", api.Gram{Tokens: []api.Tok{tok("a", 1, 2), tok("b", 1, 2)}})
	wantGram(t, "%nonassoc a %%", api.Gram{Tokens: []api.Tok{tok("a", 1, 3)}})
	wantGram(t, "%left a %left b %right c d %nonassoc e %right f %%", api.Gram{Tokens: []api.Tok{tok("a", 1, 1), tok("b", 2, 1), tok("c", 3, 2), tok("d", 3, 2), tok("e", 4, 3), tok("f", 5, 2)}})
	eight := toks(8)
	for i := range eight {
		eight[i].Level, eight[i].Assoc = i+1, i%3+1
	}
	wantGram(t, levels(8)+"%%", api.Gram{Tokens: eight})
}

// A token may be said in one %token and one level, in either order; it stands where it was said first.
func TestTokenAndLevel(t *testing.T) {
	want := []api.Tok{tok("a", 0, 0), tok("b", 1, 1), tok("c", 0, 0)}
	wantGram(t, "%token a b c %left b %%", api.Gram{Tokens: want})
	wantGram(t, "%token a %left b %token c b %%", api.Gram{Tokens: want})
	wantGram(t, "%left b %token a b c %%", api.Gram{Tokens: []api.Tok{tok("b", 1, 1), tok("a", 0, 0), tok("c", 0, 0)}})
	wantGram(t, "%left c %token b %right b a %token a c %%", api.Gram{Tokens: []api.Tok{tok("c", 1, 1), tok("b", 2, 2), tok("a", 2, 2)}})
}

// The parts ahead of the rules, in each order: those without tokens change nothing by their place.
func TestPartsInAnyOrder(t *testing.T) {
	want := api.Gram{Start: "s", Expect: 3, Tokens: []api.Tok{tok("a", 0, 0), tok("b", 1, 3)}, Rules: []api.Rule{rule("s", "a")}}
	turned := want
	turned.Tokens = []api.Tok{tok("b", 1, 3), tok("a", 0, 0)}
	parts := []string{"%token a", "%nonassoc b", "%start s", "%expect 3"}
	seen := 0
	for i := range 256 {
		order := []int{i & 3, i >> 2 & 3, i >> 4 & 3, i >> 6}
		if len(slices.Compact(slices.Sorted(slices.Values(order)))) < 4 {
			continue
		}
		seen++
		text := ""
		for _, k := range order {
			text += parts[k] + "\n"
		}
		expected := want
		if slices.Index(order, 1) < slices.Index(order, 0) {
			expected = turned
		}
		wantGram(t, text+"%% s : a ;", expected)
	}
	if seen != 24 {
		t.Errorf("%d orders", seen)
	}
}

func TestStartAndExpect(t *testing.T) {
	wantGram(t, "%start abcdefghijkl %%", api.Gram{Start: "abcdefghijkl"})
	wantGram(t, "%start start %%", api.Gram{Start: "start"})
	for _, n := range []int{0, 1, 9, 10, 99, 100, 999, 1000, 9998, 9999} {
		wantGram(t, "%expect "+strconv.Itoa(n)+" %%", api.Gram{Expect: n})
	}
	for _, s := range []string{"10000", "00", "01", "5a", "-1"} {
		wantMarked(t, "%expect @"+s+" %%", api.ErrForm)
	}
}

func TestRules(t *testing.T) {
	for s, want := range map[string][]api.Rule{
		"a:;":                        {rule("a")},
		"a:b;":                       {rule("a", "b")},
		"a:b c;":                     {rule("a", "b", "c")},
		"a:|;":                       {rule("a"), rule("a")},
		"a:b|;":                      {rule("a", "b"), rule("a")},
		"a:|b;":                      {rule("a"), rule("a", "b")},
		"a:b|c d|e;":                 {rule("a", "b"), rule("a", "c", "d"), rule("a", "e")},
		"a:;b:;":                     {rule("a"), rule("b")},
		"a:b;b:a|;a:a;":              {rule("a", "b"), rule("b", "a"), rule("b"), rule("a", "a")},
		"a:;a:;":                     {rule("a"), rule("a")},
		"a:%prec p;":                 {prec(rule("a"), "p")},
		"a:b%prec p;":                {prec(rule("a", "b"), "p")},
		"a:b c %prec p|d %prec q;":   {prec(rule("a", "b", "c"), "p"), prec(rule("a", "d"), "q")},
		"a:b|%prec p|c;":             {rule("a", "b"), prec(rule("a"), "p"), rule("a", "c")},
		"a:a a %prec a;":             {prec(rule("a", "a", "a"), "a")},
		"a:b c;//x\nb\n:\nc//y\n\n;": {rule("a", "b", "c"), rule("b", "c")},
	} {
		wantGram(t, "%%"+s, api.Gram{Rules: want})
	}
}

// What names stand for is not asked here.
func TestNamesMeanNothing(t *testing.T) {
	wantGram(t, "%token a %start a %% a : b a %prec c ;", api.Gram{Tokens: []api.Tok{tok("a", 0, 0)}, Start: "a", Rules: []api.Rule{prec(rule("a", "b", "a"), "c")}})
}

func TestSource(t *testing.T) {
	wantGram(t, "%%"+strings.Repeat(" ", 1998), api.Gram{})
	wantFault(t, "%%"+strings.Repeat(" ", 1999), api.ErrLimit, 0)
	padded := wholeText + "\n//" + strings.Repeat("x", 2000-len(wholeText)-3)
	wantGram(t, padded, whole())
	wantFault(t, padded+"x", api.ErrLimit, 0)
	wantFault(t, padded+"\n", api.ErrLimit, 0)
	// Bytes are told, not runes.
	wantGram(t, "%%//"+strings.Repeat("é", 998), api.Gram{})
	wantFault(t, "%%//"+strings.Repeat("é", 998)+"x", api.ErrLimit, 0)
	// It comes ahead of all other faults.
	for _, s := range []string{"é", "5", ":", "%prec", "%token a a", "%% %%"} {
		wantFault(t, s+strings.Repeat(" ", 2001-len(s)), api.ErrLimit, 0)
	}
	wantFault(t, strings.Repeat("a", 2001), api.ErrLimit, 0)
	wantFault(t, strings.Repeat("a", 2000), api.ErrForm, 0)
	wantFault(t, strings.Repeat("\x00", 1<<20), api.ErrLimit, 0)
	wantMarked(t, strings.Repeat(" ", 2000)+"@", api.ErrForm)
}

func TestForm(t *testing.T) {
	for _, s := range []string{
		"@", "  @", "//@", "@a %%", "@5 %%", "@:", "@;", "@|", "@%prec a %%",
		"%token@", "%token @%%", "%token @5", "%token @%token a", "%token @:", "%token a@", "%token a @5", "%token a @: %%", "%token a @%prec b %%", "%token a @| %%",
		"%left @%%", "%right @5", "%nonassoc@", "%left a @;", "%right a@", "%nonassoc a @%prec a %%",
		"%start@", "%start @%%", "%start @5 %%", "%start @%start a", "%start a @b %%", "%start a @5", "%start a @:", "%start a@",
		"%expect@", "%expect @a %%", "%expect @%%", "%expect @%expect 5", "%expect 5 @6 %%", "%expect 5 @a %%", "%expect 5@",
		"%% @%%", "%% @%token a", "%% @%left a", "%% @%start a", "%% @%expect 5", "%% @%prec a", "%% @5", "%% @:", "%% @;", "%% @|",
		"%%a@", "%%a @b", "%%a @5", "%%a @;", "%%a @|", "%%a @%%", "%%a @%prec b",
		"%%a:@", "%%a: @:", "%%a: @5", "%%a: @%%", "%%a: @%token b", "%%a: b @: c;", "%%a: b@", "%%a: b @5;", "%%a: b @%%", "%%a: | @5;", "%%a:|@",
		"%%a: %prec@", "%%a: %prec @;", "%%a: %prec @|", "%%a: %prec @5", "%%a: %prec @%prec b;", "%%a: %prec b@", "%%a: %prec b @c;", "%%a: %prec b @%prec b;", "%%a: %prec b @5;", "%%a: %prec b @: c;",
		"%%a:; @;", "%%a:; @|", "%%a:; @:", "%%a:; @5", "%%a:; @%%", "%%a:; @%token b", "%%a:; b@", "%%a:b c@:d;",
		"%token a // %%\n@", "%%a: // ;\n @",
	} {
		wantMarked(t, s, api.ErrForm)
	}
}

// Each fault of lex is told at its place, behind texts that can go on there or not.
func TestLexFaults(t *testing.T) {
	for _, bad := range []string{"é", "?", "\x00", "\r", "/", "%", "%x", "%tokens", "abcdefghijklm", "00", "12345", "5x", "'a'", "%token_"} {
		for _, ahead := range []string{"", "%token ", "%token a ", "%left a ", "%start ", "%start a ", "%expect ", "%expect 5 ", "%% ", "%%a ", "%%a: ", "%%a:b ", "%%a:| ", "%%a:%prec ", "%%a:%prec b ", "%%a:; "} {
			wantMarked(t, ahead+"@"+bad, api.ErrForm)
			wantMarked(t, ahead+"@"+bad+" %% é", api.ErrForm)
		}
	}
	for i := range len(wholeText) {
		s := wholeText[:i] + "\n?"
		wantFault(t, s, api.ErrForm, wantAt(wholeText[:i], len(s)-1))
	}
}

// wantAt is lex's own fault of s, or else other.
func wantAt(s string, other int) int {
	if _, at := lex.Scan(s); at >= 0 {
		return at
	}
	return other
}

func TestSaidAgain(t *testing.T) {
	for _, s := range []string{
		"%token a @a %%", "%token a b @a %%", "%token a %token @a %%", "%token a %token b @a c %%", "%token a %left a %token @a %%", "%left a %token a %token @a %%", "%left a %token a @a %%",
		"%left a @a %%", "%left a %left @a %%", "%left a %right @a %%", "%nonassoc a b %right c @b %%", "%token a %left a %left @a %%", "%left a %token a %right @a %%", "%left b a %token a %nonassoc b0 @b %%", "%right a @a %%", "%nonassoc a @a %%",
		"%start a @%start a %%", "%start a @%start b %%", "%start a %token b @%start b %%", "%start a %expect 0 @%start b %%",
		"%expect 1 @%expect 1 %%", "%expect 0 @%expect 0 %%", "%expect 0 @%expect 5 %%", "%expect 5 @%expect 0 %%", "%expect 5 %token a @%expect 6 %%", "%expect 5 %start a @%expect 6 %%",
		// The key is at fault, whatever stands behind it.
		"%start a @%start", "%start a @%start 5", "%start a @%start é", "%expect 5 @%expect", "%expect 5 @%expect a", "%expect 5 @%expect 01",
	} {
		wantMarked(t, s, api.ErrName)
	}
}

// Of a word that can't stand there and says again too, the fault that the chapter names first is told.
func TestFormAheadOfName(t *testing.T) {
	for _, s := range []string{"%start @%start a %%", "%start a %expect @%start b", "%expect @%expect 5", "%start a %% @%start a", "%expect 5 %% @%expect 5", "%start a @%start0", "%token a %start a @a %%", "%token a %expect 5 @a %%"} {
		wantMarked(t, s, api.ErrForm)
	}
}

func TestTokenLimit(t *testing.T) {
	wantGram(t, "%token"+names("t", 40)+" %%", api.Gram{Tokens: toks(40)})
	wantMarked(t, "%token"+names("t", 40)+" @t40 %%", api.ErrForm)
	wantMarked(t, "%token"+names("t", 40)+" @t40 t41 t0 %%", api.ErrForm)
	wantMarked(t, "%token"+names("t", 40)+" %token @t40 %%", api.ErrForm)
	wantMarked(t, "%token"+names("t", 40)+" %left @t40 %%", api.ErrForm)
	wantMarked(t, "%left"+names("t", 40)+" @t40 %%", api.ErrForm)
	wantMarked(t, "%right"+names("t", 20)+" %token"+names("u", 20)+" @v %%", api.ErrForm)
	// A token that is said a second time is none more.
	levelled := toks(40)
	for i := range levelled {
		levelled[i].Level, levelled[i].Assoc = 1, 2
	}
	wantGram(t, "%token"+names("t", 40)+" %right"+names("t", 40)+" %%", api.Gram{Tokens: levelled})
	wantGram(t, "%right"+names("t", 40)+" %token"+names("t", 40)+" %%", api.Gram{Tokens: levelled})
	wantMarked(t, "%token"+names("t", 40)+" @t0 %%", api.ErrName)
	wantMarked(t, "%token"+names("t", 40)+" %left t39 @t40 %%", api.ErrForm)
	wantMarked(t, "%token"+names("t", 40)+" %left t39 %left @t39 %%", api.ErrName)
	// Other names are not told.
	wantGram(t, "%token"+names("t", 40)+" %start s %% r : x y %prec z ;", api.Gram{Tokens: toks(40), Start: "s", Rules: []api.Rule{prec(rule("r", "x", "y"), "z")}})
}

func TestLevelLimit(t *testing.T) {
	for _, key := range []string{"%left", "%right", "%nonassoc"} {
		wantMarked(t, levels(8)+"@"+key+" z %%", api.ErrForm)
		wantMarked(t, levels(8)+"@"+key, api.ErrForm)
		wantMarked(t, levels(8)+"@"+key+" t0 %%", api.ErrForm)
		wantMarked(t, levels(8)+"%token z %start s @"+key+" z z %%", api.ErrForm)
		wantMarked(t, levels(8)+"%token @"+key+" z %%", api.ErrForm)
		wantMarked(t, levels(7)+key+" @t6 %%", api.ErrName)
	}
	wantMarked(t, levels(8)+"@é %left z %%", api.ErrForm)
}

func TestRuleLimit(t *testing.T) {
	hundred := make([]api.Rule, 100)
	for i := range hundred {
		hundred[i].Left = "a"
	}
	wantGram(t, "%%"+strings.Repeat("a:;", 100), api.Gram{Rules: hundred})
	wantGram(t, "%%a:"+strings.Repeat("|", 99)+";", api.Gram{Rules: hundred})
	wantGram(t, "%%"+strings.Repeat("a:|;", 50), api.Gram{Rules: hundred})
	full := "%%" + strings.Repeat("a:;", 100)
	for _, behind := range []string{"b: @;", "b: @c;", "b: // x\n @c;", "b: @|;", "b: @%prec c;", "b:@", "b: @5", "b: @é", "b: @%%", "b @5", "b @;", "b@", "b @é", "@:", "@5"} {
		wantMarked(t, full+behind, api.ErrForm)
	}
	bars := "%%a:" + strings.Repeat("|", 99)
	for _, behind := range []string{"| @;", "|@;", "| @b;", "|\n@| ;", "| @%prec b;", "|@", "| @5", "| @é", "; b: @c;", "b | @c;", "@5 | c;", "; @| c;"} {
		wantMarked(t, bars+behind, api.ErrForm)
	}
}

func TestRightLimit(t *testing.T) {
	twenty := strings.Fields(names("x", 20))
	wantGram(t, "%%a:"+names("x", 20)+";", api.Gram{Rules: []api.Rule{rule("a", twenty...)}})
	wantGram(t, "%%a:"+names("x", 20)+" %prec p;", api.Gram{Rules: []api.Rule{prec(rule("a", twenty...), "p")}})
	wantGram(t, "%%a:"+names("x", 20)+"|"+names("x", 20)+";b:"+names("x", 20)+";", api.Gram{Rules: []api.Rule{rule("a", twenty...), rule("a", twenty...), rule("b", twenty...)}})
	wantMarked(t, "%%a:"+names("x", 20)+" @x20;", api.ErrForm)
	wantMarked(t, "%%a:"+names("x", 20)+" @x20 x21 x22;", api.ErrForm)
	wantMarked(t, "%%a:"+names("x", 20)+" @x0", api.ErrForm)
	wantMarked(t, "%%a:|"+names("x", 20)+" @x20;", api.ErrForm)
	wantMarked(t, "%%a:;b:"+names("x", 20)+" @x20 %prec p;", api.ErrForm)
	wantMarked(t, "%%a:"+names("x", 20)+" %prec p @x20;", api.ErrForm)
	wantMarked(t, "%%a:"+names("x", 20)+" @5 x20;", api.ErrForm)
}

// The lists are as long as gram.May lets, and no longer.
func TestLimitsAreGrams(t *testing.T) {
	if !gram.May(api.Gram{Tokens: toks(maxTokens)}) || gram.May(api.Gram{Tokens: toks(maxTokens + 1)}) {
		t.Error("P6.1: not May's tokens")
	}
	rules := slices.Repeat([]api.Rule{rule("a")}, maxRules+1)
	if !gram.May(api.Gram{Rules: rules[:maxRules]}) || gram.May(api.Gram{Rules: rules}) {
		t.Error("P6.1: not May's rules")
	}
	right := slices.Repeat([]string{"x"}, maxRight+1)
	if !gram.May(api.Gram{Rules: []api.Rule{rule("a", right[:maxRight]...)}}) || gram.May(api.Gram{Rules: []api.Rule{rule("a", right...)}}) {
		t.Error("P6.1: not May's symbols")
	}
}

// Two faults in one text, in each order that a text can have: the earlier is told.
func TestEarliest(t *testing.T) {
	type fault struct {
		s   string
		err api.Errno
	}
	ahead := []fault{
		{"%token a @a ", api.ErrName}, {"%left b %right @b ", api.ErrName}, {"%start s @%start s ", api.ErrName}, {"%expect 0 @%expect 0 ", api.ErrName},
		{"%token" + names("t", 40) + " @u ", api.ErrForm}, {levels(8) + "@%left v ", api.ErrForm}, {"%token @5 ", api.ErrForm}, {"@w ", api.ErrForm}, {"@é ", api.ErrForm}, {"@01 ", api.ErrForm}, {"@% ", api.ErrForm},
	}
	behind := []fault{
		{"c:" + names("x", 20) + " @x; ", api.ErrForm}, {"c:" + strings.Repeat("|", 100) + "@; ", api.ErrForm}, {"c: @: ", api.ErrForm}, {"c: %prec @; ", api.ErrForm}, {"@%token a ", api.ErrForm}, {"c: @é ", api.ErrForm}, {"@abcdefghijklm ", api.ErrForm},
	}
	plain := func(f fault) string { return strings.Replace(f.s, "@", "", 1) }
	for _, a := range ahead {
		wantMarked(t, a.s+"%%", a.err)
		for _, b := range ahead {
			wantMarked(t, a.s+plain(b)+"%%", a.err)
		}
		for _, b := range behind {
			wantMarked(t, a.s+"%%"+plain(b), a.err)
		}
	}
	for _, a := range behind {
		wantMarked(t, "%%"+a.s, a.err)
		for _, b := range slices.Concat(behind, ahead) {
			wantMarked(t, "%%"+a.s+plain(b), a.err)
		}
	}
}

// The words of the texts below, each a letter; names are all unlike, so that no token is said again.
const letters = "TLRNSE%a5:|;P"

var spelling = map[byte]string{'T': "%token", 'L': "%left", 'R': "%right", 'N': "%nonassoc", 'S': "%start", 'E': "%expect", '%': "%%", '5': "5", ':': ":", '|': "|", ';': ";", 'P': "%prec"}

// isText is the chapter's own sentence on texts.
var isText = regexp.MustCompile(`^([TLRN]a+|Sa|E5)*%(a:a*(Pa)?(\|a*(Pa)?)*;)*$`)

// goesOn tells whether some text begins with the words: each that has begun can be ended by one of a few tails.
func goesOn(words string) bool {
	for _, tail := range []string{"", "%", "a%", "5%", ":;", ";", "a;"} {
		if isText.MatchString(words + tail) {
			return true
		}
	}
	return false
}

func spell(words string) (string, []int) {
	s := ""
	var at []int
	for i := range len(words) {
		at = append(at, len(s))
		if words[i] == 'a' {
			s += "n" + strconv.Itoa(i) + " "
			continue
		}
		s += spelling[words[i]] + " "
	}
	return s, at
}

// All short texts of words, held against the chapter's sentence: a text is read, another is at fault where it first can't go on.
func TestAllShortTexts(t *testing.T) {
	texts := 0
	var grow func(words string)
	grow = func(words string) {
		s, at := spell(words)
		last := len(words) - 1
		switch {
		case words != "" && !goesOn(words):
			wantFault(t, s, api.ErrForm, at[last])
			// What comes behind is not asked any more.
			wantFault(t, s+"%% a : b ;", api.ErrForm, at[last])
			wantFault(t, s+"é", api.ErrForm, at[last])
			return
		case strings.Count(words, "S") > 1 || strings.Count(words, "E") > 1:
			wantFault(t, s, api.ErrName, at[last])
			return
		case isText.MatchString(words):
			texts++
			if g, f := Read(s); f != (api.Fault{}) || len(g.Rules) != strings.Count(words, ":")+strings.Count(words, "|") || !gram.May(g) {
				t.Errorf("P6.1: Read(%q) = %v, %v", s, g, f)
			}
		default:
			wantFault(t, s, api.ErrForm, len(s))
		}
		for i := 0; len(words) < 8 && i < len(letters); i++ {
			grow(words + letters[i:i+1])
		}
	}
	grow("")
	if texts < 500 {
		t.Errorf("%d texts alone", texts)
	}
}

// numbers is a row of numbers that looks like chance, the same each time.
type numbers uint64

func (n *numbers) below(limit int) int {
	*n = *n*6364136223846793005 + 1442695040888963407
	return int(uint64(*n) >> 33 % uint64(limit))
}

func (n *numbers) name() string {
	return []string{"a", "b9", "_c", "D", "token", "e_e", "abcdefghijkl", "f", "g", "h"}[n.below(10)]
}

func (n *numbers) gram() api.Gram {
	g := api.Gram{Tokens: toks(n.below(41)), Expect: max(0, n.below(20000)-10000)}
	for i := range g.Tokens {
		if level := n.below(9); level <= len(g.Tokens) && level > 0 {
			g.Tokens[i].Level, g.Tokens[i].Assoc = level, 1+level%3
		}
	}
	for i := range min(8, len(g.Tokens)) {
		g.Tokens[i].Level, g.Tokens[i].Assoc = i+1, 1+(i+1)%3
	}
	if n.below(2) == 1 {
		g.Start = n.name()
	}
	for range n.below(101) {
		r := rule(n.name())
		for range n.below(8) {
			r.Right = append(r.Right, n.name())
		}
		if n.below(3) == 0 {
			r.Prec = n.name()
		}
		g.Rules = append(g.Rules, r)
	}
	return g
}

func TestReadOfText(t *testing.T) {
	wantGram(t, gram.Text(whole()), whole())
	wantGram(t, gram.Text(api.Gram{}), api.Gram{})
	// What may not be has the text "", which no grammar has.
	wantFault(t, gram.Text(api.Gram{Expect: -1}), api.ErrForm, 0)
	var n numbers
	short, long := 0, 0
	for range 5000 {
		g := n.gram()
		if !gram.May(g) {
			t.Fatalf("%v may not be", g)
		}
		text := gram.Text(g)
		if len(text) > 2000 {
			long++
			wantFault(t, text, api.ErrLimit, 0)
			continue
		}
		short++
		wantGram(t, text, g)
	}
	if short < 1000 || long < 10 {
		t.Errorf("%d texts, and %d too long", short, long)
	}
}

// Of a text that is spoilt anywhere a fault lies within it, or it is a text of a grammar that may be.
func TestSpoiltTexts(t *testing.T) {
	var n numbers
	for i := range len(wholeText) + 1 {
		wantSound(t, wholeText[:i])
		wantSound(t, wholeText[i:])
		for range 40 {
			j := n.below(len(wholeText) + 1)
			wantSound(t, wholeText[:i]+wholeText[j:])
			wantSound(t, wholeText[:i]+string([]byte{byte(n.below(256))})+wholeText[i:])
		}
	}
	for _, s := range []string{"\x00", "\xff\xfe", strings.Repeat("%", 2000), strings.Repeat(":", 2000), strings.Repeat("%%", 1000), strings.Repeat("//", 1000), strings.Repeat("a ", 1000), strings.Repeat("%left a ", 250)} {
		wantSound(t, s)
	}
}

func wantSound(t *testing.T, s string) {
	t.Helper()
	g, f := Read(s)
	again, same := Read(s)
	if f != same || !gram.Eq(g, again) {
		t.Fatalf("P0.5: Read(%q) = %v, %v and then %v, %v", s, g, f, again, same)
	}
	if f.Err == api.OK {
		if f.At != 0 || !gram.May(g) {
			t.Fatalf("P6.1: Read(%q) = %v, %v", s, g, f)
		}
		wantGram(t, gram.Text(g), g)
		return
	}
	if f.Err != api.ErrForm && f.Err != api.ErrName || f.At < 0 || f.At > len(s) || !gram.Eq(g, api.Gram{}) {
		t.Fatalf("P6.1: Read(%q) = %v, %v", s, g, f)
	}
	// What stands ahead of the fault goes on: its only fault can be that it ends there.
	if _, ahead := Read(s[:f.At]); ahead.Err != api.OK && ahead != (api.Fault{Err: api.ErrForm, At: f.At}) {
		t.Fatalf("P6.1: Read(%q) tells %v, but of what stands ahead %v", s, f, ahead)
	}
}

// spoil writes into all of a grammar, its spare room too.
func spoil(g api.Gram) {
	for i := range g.Tokens[:cap(g.Tokens)] {
		g.Tokens[:cap(g.Tokens)][i] = tok("spoilt", 9, 9)
	}
	for _, r := range g.Rules {
		for i := range r.Right[:cap(r.Right)] {
			r.Right[:cap(r.Right)][i] = "spoilt"
		}
	}
	for i := range g.Rules[:cap(g.Rules)] {
		g.Rules[:cap(g.Rules)][i] = rule("spoilt")
	}
}

func TestAnswersShareNothing(t *testing.T) {
	first, _ := Read(wholeText)
	second, _ := Read(wholeText)
	spoil(first)
	if !gram.Eq(second, whole()) {
		t.Errorf("P0.3: what is written into an answer is seen in another: %v", second)
	}
	wantGram(t, wholeText, whole())
	// No two lists of one answer share memory: each, with its room, is filled by itself.
	for i, r := range second.Rules {
		for k := range r.Right[:cap(r.Right)] {
			r.Right[:cap(r.Right)][k] = strconv.Itoa(i)
		}
	}
	for i, r := range second.Rules {
		for _, symbol := range r.Right[:cap(r.Right)] {
			if symbol != strconv.Itoa(i) {
				t.Errorf("P0.3: rule %d shares its Right", i)
			}
		}
	}
}
