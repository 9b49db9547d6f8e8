package gram

import (
	"math"
	"slices"
	"strconv"
	"strings"
	"testing"

	"donatus/api"
	"donatus/lex"
)

// whole is a grammar that has each part, its Levels not in the tokens' order.
func whole() api.Gram {
	return api.Gram{
		Tokens: []api.Tok{{Name: "plus", Level: 2, Assoc: 1}, {Name: "num"}, {Name: "less", Level: 1, Assoc: 3}, {Name: "minus", Level: 2, Assoc: 1}, {Name: "pow", Level: 3, Assoc: 2}},
		Start:  "e", Expect: 12,
		Rules: []api.Rule{{Left: "e", Right: []string{"e", "plus", "e"}}, {Left: "e", Right: []string{"minus", "e"}, Prec: "pow"}, {Left: "e", Right: []string{"num"}}, {Left: "none"}, {Left: "n2", Prec: "less"}},
	}
}

const wholeText = "%token plus num less minus pow\n%nonassoc less\n%left plus minus\n%right pow\n%start e\n%expect 12\n%%\n" +
	"e : e plus e ;\ne : minus e %prec pow ;\ne : num ;\nnone : ;\nn2 : %prec less ;\n"

// wantMay holds May against want, and Text's being "" with it.
func wantMay(t *testing.T, what string, g api.Gram, want bool) {
	t.Helper()
	if got := May(g); got != want {
		t.Errorf("P5.1: May of %s = %t; want %t", what, got, want)
	}
	if got := Text(g); (got != "") != want {
		t.Errorf("P5.1: Text of %s = %q; there is one: %t", what, got, want)
	}
}

func wantEq(t *testing.T, what string, a, b api.Gram, want bool) {
	t.Helper()
	if Eq(a, b) != want || Eq(b, a) != want {
		t.Errorf("P5.1: Eq, %s: %t, turned round %t; want %t", what, Eq(a, b), Eq(b, a), want)
	}
}

func wantText(t *testing.T, g api.Gram, want string) {
	t.Helper()
	if got := Text(g); got != want {
		t.Errorf("P5.1: Text of %v = %q; want %q", g, got, want)
	}
	if !May(g) {
		t.Errorf("P5.1: May of %v = false", g)
	}
}

// changed is whole with one change.
func changed(change func(g *api.Gram)) api.Gram {
	g := whole()
	change(&g)
	return g
}

// tokens are n tokens of unlike names, without Levels.
func tokens(n int) []api.Tok {
	l := make([]api.Tok, n)
	for i := range l {
		l[i].Name = "t" + strconv.Itoa(i)
	}
	return l
}

// ladder are n tokens of the Levels 1 to n.
func ladder(n int) []api.Tok {
	l := tokens(n)
	for i := range l {
		l[i].Level, l[i].Assoc = i+1, 1+i%3
	}
	return l
}

func rules(n int) []api.Rule {
	l := make([]api.Rule, n)
	for i := range l {
		l[i].Left = "r"
	}
	return l
}

// many are n symbols.
func many(n int) []string {
	l := make([]string, n)
	for i := range l {
		l[i] = "x"
	}
	return l
}

func TestMayNames(t *testing.T) {
	for _, name := range []string{"", "a", "_", "A9_z", "token", "123456789012", "abcdefghijkl", "abcdefghijklm", "9", "9a", "a b", " a", "a ", "a-b", "é", "%prec", "%", ":", ";", "|", "a\n", "a\x00", strings.Repeat("n", 1<<16)} {
		named := lex.Name(name)
		what := strconv.Quote(name[:min(len(name), 20)])
		wantMay(t, "a token "+what, changed(func(g *api.Gram) { g.Tokens[1].Name = name }), named)
		wantMay(t, "the last token "+what, changed(func(g *api.Gram) { g.Tokens[4].Name = name }), named)
		wantMay(t, "a Left "+what, changed(func(g *api.Gram) { g.Rules[0].Left = name }), named)
		wantMay(t, "the last Left "+what, changed(func(g *api.Gram) { g.Rules[4].Left = name }), named)
		wantMay(t, "a first symbol "+what, changed(func(g *api.Gram) { g.Rules[0].Right[0] = name }), named)
		wantMay(t, "a last symbol "+what, changed(func(g *api.Gram) { g.Rules[0].Right[2] = name }), named)
		wantMay(t, "the last symbol "+what, changed(func(g *api.Gram) { g.Rules[2].Right[0] = name }), named)
		wantMay(t, "Start "+what, changed(func(g *api.Gram) { g.Start = name }), named || name == "")
		wantMay(t, "a Prec "+what, changed(func(g *api.Gram) { g.Rules[1].Prec = name }), named || name == "")
		wantMay(t, "the last Prec "+what, changed(func(g *api.Gram) { g.Rules[4].Prec = name }), named || name == "")
	}
}

// What the names stand for is not gram's to ask.
func TestMayMeansNothing(t *testing.T) {
	wantMay(t, "no grammar", api.Gram{}, true)
	wantMay(t, "a Start that is none", api.Gram{Start: "s"}, true)
	wantMay(t, "a Prec that is no token", api.Gram{Rules: []api.Rule{{Left: "s", Prec: "p"}}}, true)
	wantMay(t, "symbols that are none", api.Gram{Rules: []api.Rule{{Left: "s", Right: []string{"x", "s"}}}}, true)
	wantMay(t, "a token that is a Left", api.Gram{Tokens: tokens(1), Rules: []api.Rule{{Left: "t0"}}}, true)
	wantMay(t, "a rule twice", api.Gram{Rules: rules(2)}, true)
}

func TestMayTokenTwice(t *testing.T) {
	for _, n := range []int{2, 3, 12, 40} {
		for _, i := range []int{0, n / 2, n - 1} {
			for _, j := range []int{0, n / 2, n - 1} {
				l := tokens(n)
				l[j].Name = l[i].Name
				wantMay(t, "one name for the tokens "+strconv.Itoa(i)+" and "+strconv.Itoa(j), api.Gram{Tokens: l}, i == j)
			}
		}
	}
	wantMay(t, "one name, unlike Levels", api.Gram{Tokens: []api.Tok{{Name: "a"}, {Name: "a", Level: 1, Assoc: 1}}}, false)
	wantMay(t, "names unlike in one letter's case", api.Gram{Tokens: []api.Tok{{Name: "a"}, {Name: "A"}}}, true)
}

func TestMayLevelAndAssoc(t *testing.T) {
	numbers := []int{math.MinInt, -1 << 32, -9, -1, 0, 1, 2, 3, 4, 5, 6, 7, 8, 9, 10, 255, 256, 1 << 32, math.MaxInt}
	for _, level := range numbers {
		for _, assoc := range numbers {
			l := ladder(8)
			if 1 <= level && level <= 8 {
				l[level-1].Assoc = assoc
			} else {
				l = append(l, api.Tok{Name: "more", Level: level, Assoc: assoc})
			}
			want := level == 0 && assoc == 0 || 1 <= level && level <= 8 && 1 <= assoc && assoc <= 3
			wantMay(t, "Level "+strconv.Itoa(level)+", Assoc "+strconv.Itoa(assoc), api.Gram{Tokens: l}, want)
		}
	}
}

func TestMayOneAssocOfALevel(t *testing.T) {
	for level := 1; level <= 8; level++ {
		for assoc := 1; assoc <= 3; assoc++ {
			for other := 1; other <= 3; other++ {
				l := append(ladder(8), api.Tok{Name: "more", Level: level, Assoc: other})
				l[level-1].Assoc = assoc
				what := "the Assocs " + strconv.Itoa(assoc) + " and " + strconv.Itoa(other) + " of Level " + strconv.Itoa(level)
				wantMay(t, what, api.Gram{Tokens: l}, assoc == other)
			}
		}
	}
}

// Each set of Levels, held against a plain rule: they are just the first ones.
func TestMayLevelsWithoutGaps(t *testing.T) {
	for set := range 1 << 8 {
		l := []api.Tok{{Name: "none"}}
		for i, tok := range ladder(8) {
			if set>>i&1 == 1 {
				l = append(l, tok)
			}
		}
		want := set&(set+1) == 0
		wantMay(t, "the Levels "+strconv.FormatInt(int64(set), 2), api.Gram{Tokens: l}, want)
		slices.Reverse(l)
		wantMay(t, "turned round, the Levels "+strconv.FormatInt(int64(set), 2), api.Gram{Tokens: l}, want)
	}
}

// All short lists of tokens, held against the chapter's words one by one.
func TestMayAllSmall(t *testing.T) {
	var kinds []api.Tok
	for level := -1; level <= 3; level++ {
		for assoc := -1; assoc <= 4; assoc++ {
			kinds = append(kinds, api.Tok{Level: level, Assoc: assoc})
		}
	}
	for _, a := range kinds {
		for _, b := range kinds {
			for _, c := range kinds {
				a.Name, b.Name, c.Name = "a", "b", "c"
				l := []api.Tok{a, b, c}
				if got, want := May(api.Gram{Tokens: l}), plainMay(l); got != want {
					t.Fatalf("P5.1: May of the tokens %v = %t; want %t", l, got, want)
				}
			}
		}
	}
}

// plainMay asks each of the chapter's words of Levels from -1 to 3 by itself.
func plainMay(l []api.Tok) bool {
	has := func(level int) bool {
		return slices.ContainsFunc(l, func(t api.Tok) bool { return t.Level == level })
	}
	for _, t := range l {
		if t.Level < 0 || t.Level == 0 && t.Assoc != 0 || t.Level > 0 && (t.Assoc < 1 || t.Assoc > 3) {
			return false
		}
		for _, u := range l {
			if t.Level == u.Level && t.Assoc != u.Assoc {
				return false
			}
		}
	}
	return !(has(2) && !has(1)) && !(has(3) && !has(2))
}

func TestMayExpect(t *testing.T) {
	for expect, want := range map[int]bool{math.MinInt: false, -10000: false, -1: false, 0: true, 1: true, 7: true, 9998: true, 9999: true, 10000: false, 1 << 32: false, math.MaxInt: false} {
		wantMay(t, "Expect "+strconv.Itoa(expect), changed(func(g *api.Gram) { g.Expect = expect }), want)
		wantMay(t, "Expect alone "+strconv.Itoa(expect), api.Gram{Expect: expect}, want)
	}
}

func TestMayLengths(t *testing.T) {
	for _, n := range []int{0, 1, 11, 12, 13, 39, 40, 41, 42, 100, 1 << 16} {
		wantMay(t, strconv.Itoa(n)+" tokens", api.Gram{Tokens: tokens(n)}, n <= 40)
	}
	for _, n := range []int{0, 1, 30, 31, 99, 100, 101, 102, 1 << 16} {
		wantMay(t, strconv.Itoa(n)+" rules", api.Gram{Rules: rules(n)}, n <= 100)
	}
	for _, n := range []int{0, 1, 6, 7, 19, 20, 21, 22, 1 << 16} {
		what := strconv.Itoa(n) + " symbols of a rule"
		wantMay(t, what, api.Gram{Rules: []api.Rule{{Left: "r", Right: many(n)}}}, n <= 20)
		wantMay(t, what+", the last", api.Gram{Rules: append(rules(99), api.Rule{Left: "r", Right: many(n)})}, n <= 20)
		wantMay(t, what+" with a Prec", api.Gram{Rules: []api.Rule{{Left: "r", Right: many(n), Prec: "p"}}}, n <= 20)
	}
	full := api.Gram{Tokens: append(ladder(8), tokens(40)[8:]...), Start: "r", Expect: 9999, Rules: rules(100)}
	for i := range full.Rules {
		full.Rules[i].Right, full.Rules[i].Prec = many(20), "p"
	}
	wantMay(t, "all at their limits", full, true)
}

func TestEqPartByPart(t *testing.T) {
	wantEq(t, "the same", whole(), whole(), true)
	wantEq(t, "none", api.Gram{}, api.Gram{}, true)
	wantEq(t, "none and one", api.Gram{}, whole(), false)
	for k, change := range []func(g *api.Gram){
		func(g *api.Gram) { g.Start = "f" },
		func(g *api.Gram) { g.Start = "" },
		func(g *api.Gram) { g.Expect = 11 },
		func(g *api.Gram) { g.Expect = 12 + 1<<32 },
		func(g *api.Gram) { g.Tokens = nil },
		func(g *api.Gram) { g.Tokens = g.Tokens[:4] },
		func(g *api.Gram) { g.Tokens = append(g.Tokens, api.Tok{}) },
		func(g *api.Gram) { g.Tokens[0], g.Tokens[3] = g.Tokens[3], g.Tokens[0] },
		func(g *api.Gram) { g.Tokens[0].Name = "add" },
		func(g *api.Gram) { g.Tokens[4].Name = "poW" },
		func(g *api.Gram) { g.Tokens[4].Level = 4 },
		func(g *api.Gram) { g.Tokens[4].Assoc = 1 },
		func(g *api.Gram) { g.Rules = nil },
		func(g *api.Gram) { g.Rules = g.Rules[:4] },
		func(g *api.Gram) { g.Rules = append(g.Rules, api.Rule{}) },
		func(g *api.Gram) { g.Rules[0], g.Rules[1] = g.Rules[1], g.Rules[0] },
		func(g *api.Gram) { g.Rules[4].Left = "n3" },
		func(g *api.Gram) { g.Rules[4].Prec = "" },
		func(g *api.Gram) { g.Rules[3].Prec = "less" },
		func(g *api.Gram) { g.Rules[3].Right = []string{""} },
		func(g *api.Gram) { g.Rules[0].Right = nil },
		func(g *api.Gram) { g.Rules[0].Right = g.Rules[0].Right[:2] },
		func(g *api.Gram) { g.Rules[0].Right[2] = "f" },
		func(g *api.Gram) { g.Rules[0].Right[0], g.Rules[0].Right[1] = "plus", "e" },
	} {
		wantEq(t, "change "+strconv.Itoa(k), changed(change), whole(), false)
		wantEq(t, "change "+strconv.Itoa(k)+" twice", changed(change), changed(change), true)
	}
}

func TestEqNilLikeEmpty(t *testing.T) {
	wantEq(t, "empty lists", api.Gram{Tokens: []api.Tok{}, Rules: []api.Rule{}}, api.Gram{}, true)
	wantEq(t, "an empty Right", changed(func(g *api.Gram) { g.Rules[3].Right = []string{} }), whole(), true)
	wantEq(t, "a Right with room", changed(func(g *api.Gram) { g.Rules[3].Right = make([]string, 0, 9) }), whole(), true)
	wantText(t, api.Gram{Tokens: []api.Tok{}, Rules: []api.Rule{{Left: "s", Right: []string{}}}}, "%%\ns : ;\n")
}

// Eq is not asked whether its grammars may be.
func TestEqOfWhatMayNotBe(t *testing.T) {
	bad := func() api.Gram {
		return api.Gram{Tokens: []api.Tok{{Name: "%", Level: -5, Assoc: math.MaxInt}, {Name: "%"}}, Start: "\x00", Expect: -1, Rules: []api.Rule{{Right: many(30), Prec: "9"}}}
	}
	wantMay(t, "a bad one", bad(), false)
	wantEq(t, "two bad ones", bad(), bad(), true)
	other := bad()
	other.Rules[0].Right[29] = "y"
	wantEq(t, "two unlike bad ones", bad(), other, false)
	long := api.Gram{Tokens: tokens(1 << 16), Rules: rules(1 << 16)}
	wantEq(t, "two long ones", long, api.Gram{Tokens: tokens(1 << 16), Rules: rules(1 << 16)}, true)
}

func TestTextLines(t *testing.T) {
	wantText(t, whole(), wholeText)
	wantText(t, api.Gram{}, "%%\n")
	wantText(t, api.Gram{Start: "s"}, "%start s\n%%\n")
	wantText(t, api.Gram{Expect: 1}, "%expect 1\n%%\n")
	wantText(t, api.Gram{Expect: 9999}, "%expect 9999\n%%\n")
	wantText(t, api.Gram{Start: "s", Expect: 10}, "%start s\n%expect 10\n%%\n")
	wantText(t, api.Gram{Tokens: tokens(1)}, "%token t0\n%%\n")
	wantText(t, api.Gram{Tokens: tokens(3)}, "%token t0 t1 t2\n%%\n")
	wantText(t, api.Gram{Tokens: ladder(1)}, "%token t0\n%left t0\n%%\n")
	wantText(t, api.Gram{Rules: []api.Rule{{Left: "s"}}}, "%%\ns : ;\n")
	wantText(t, api.Gram{Rules: []api.Rule{{Left: "s", Right: []string{"x"}}}}, "%%\ns : x ;\n")
	wantText(t, api.Gram{Rules: []api.Rule{{Left: "s", Prec: "p"}}}, "%%\ns : %prec p ;\n")
	wantText(t, api.Gram{Rules: []api.Rule{{Left: "s", Right: []string{"x", "y"}, Prec: "p"}}}, "%%\ns : x y %prec p ;\n")
	// Rules of one Left are not laid together.
	wantText(t, api.Gram{Rules: []api.Rule{{Left: "s"}, {Left: "r"}, {Left: "s"}}}, "%%\ns : ;\nr : ;\ns : ;\n")
}

func TestTextLeftOut(t *testing.T) {
	lines := strings.SplitAfter(wholeText, "\n")
	without := func(left ...int) string {
		var text string
		for i, line := range lines {
			if !slices.Contains(left, i) {
				text += line
			}
		}
		return text
	}
	wantText(t, changed(func(g *api.Gram) { g.Tokens = nil }), without(0, 1, 2, 3))
	wantText(t, changed(func(g *api.Gram) { g.Start = "" }), without(4))
	wantText(t, changed(func(g *api.Gram) { g.Expect = 0 }), without(5))
	wantText(t, changed(func(g *api.Gram) { g.Rules = nil }), without(7, 8, 9, 10, 11))
	wantText(t, changed(func(g *api.Gram) {
		for i := range g.Tokens {
			g.Tokens[i].Level, g.Tokens[i].Assoc = 0, 0
		}
	}), without(1, 2, 3))
}

func TestTextLevels(t *testing.T) {
	wantText(t, api.Gram{Tokens: ladder(8)}, "%token t0 t1 t2 t3 t4 t5 t6 t7\n%left t0\n%right t1\n%nonassoc t2\n%left t3\n%right t4\n%nonassoc t5\n%left t6\n%right t7\n%%\n")
	turned := ladder(4)
	slices.Reverse(turned)
	wantText(t, api.Gram{Tokens: turned}, "%token t3 t2 t1 t0\n%left t0\n%right t1\n%nonassoc t2\n%left t3\n%%\n")
	mixed := tokens(6)
	for i := range mixed {
		mixed[i].Level, mixed[i].Assoc = 2-i%2, 3
	}
	wantText(t, api.Gram{Tokens: mixed}, "%token t0 t1 t2 t3 t4 t5\n%nonassoc t1 t3 t5\n%nonassoc t0 t2 t4\n%%\n")
}

// Of the longest of all, each word of the text is one of lex, and there are as many as there should be.
func TestTextLongest(t *testing.T) {
	g := api.Gram{Tokens: tokens(40), Start: "abcdefghijkl", Expect: 9999, Rules: rules(100)}
	for i := range g.Tokens {
		g.Tokens[i].Level, g.Tokens[i].Assoc = 1+i%8, 2
	}
	for i := range g.Rules {
		g.Rules[i].Right, g.Rules[i].Prec = many(20), "abcdefghijkl"
	}
	text := Text(g)
	words, at := lex.Scan(text)
	if want := 41 + 8 + 40 + 2 + 2 + 1 + 100*(1+1+20+2+1) + 1; len(words) != want || at != -1 {
		t.Errorf("P5.1: Text has %d words and the fault %d; want %d, -1", len(words), at, want)
	}
	if n := strings.Count(text, "\n"); n != 1+8+1+1+1+100 || !strings.HasSuffix(text, ";\n") {
		t.Errorf("P5.1: Text has %d lines; want 112", n)
	}
	if strings.Contains(text, "  ") || strings.Contains(text, " \n") || strings.Contains(text, "\n ") || strings.Contains(text, "\n\n") {
		t.Error("P5.1: Text has a blank or a newline too many")
	}
}

// roomy is whole with spare room behind each list, filled, and a check that nothing of it was changed.
func roomy() (api.Gram, func() bool) {
	g := whole()
	toks := append(slices.Clone(g.Tokens), api.Tok{Name: "spare"}, api.Tok{Name: "room"})
	ruls := append(slices.Clone(g.Rules), api.Rule{Left: "spare"}, api.Rule{Left: "room"})
	rights := make([][]string, len(g.Rules))
	for i, r := range g.Rules {
		rights[i] = append(slices.Clone(r.Right), "spare", "room", "behind", "it", "all")
		ruls[i].Right = rights[i][:len(r.Right)]
	}
	unchanged := func() bool {
		for i, r := range whole().Rules {
			if !slices.Equal(rights[i], append(slices.Clone(r.Right), "spare", "room", "behind", "it", "all")) || !sameRule(ruls[i], r) {
				return false
			}
		}
		return slices.Equal(toks, append(whole().Tokens, api.Tok{Name: "spare"}, api.Tok{Name: "room"})) &&
			ruls[5].Left == "spare" && ruls[6].Left == "room" && len(ruls) == 7
	}
	return api.Gram{Tokens: toks[:5], Start: g.Start, Expect: g.Expect, Rules: ruls[:5]}, unchanged
}

func TestNothingIsChanged(t *testing.T) {
	for what, call := range map[string]func(g api.Gram){
		"May":         func(g api.Gram) { May(g) },
		"Eq":          func(g api.Gram) { Eq(g, whole()); Eq(whole(), g); Eq(g, g) },
		"Text":        func(g api.Gram) { Text(g) },
		"May, bad":    func(g api.Gram) { g.Expect = -1; May(g) },
		"Text, bad":   func(g api.Gram) { g.Expect = -1; Text(g) },
		"Eq, unlike":  func(g api.Gram) { Eq(g, api.Gram{}) },
		"May, longer": func(g api.Gram) { g.Tokens = g.Tokens[:7]; May(g) },
	} {
		g, unchanged := roomy()
		call(g)
		if !unchanged() {
			t.Errorf("P0.3: %s changed what it was handed", what)
		}
	}
}

func TestNothingIsKept(t *testing.T) {
	g, _ := roomy()
	text := Text(g)
	g.Tokens[0].Name, g.Rules[0].Left, g.Rules[0].Right[0], g.Rules[1].Prec = "q", "q", "q", "q"
	if text != wholeText {
		t.Errorf("P0.3: a change of the grammar changed its text to %q", text)
	}
	want := strings.NewReplacer("plus num", "q num", "plus minus", "q minus", "%prec pow", "%prec q", "e : e plus", "q : q plus").Replace(wholeText)
	if got := Text(g); got != want {
		t.Errorf("P0.5: Text of the changed grammar = %q; want %q", got, want)
	}
	if Eq(g, whole()) || !May(g) {
		t.Error("P0.5: the changed grammar is asked as it was")
	}
}
