package well

import (
	"fmt"
	"math"
	"math/rand"
	"slices"
	"strconv"
	"strings"
	"testing"

	"donatus/api"
	"donatus/gram"
	"donatus/read"
)

// gramOf is the grammar that the text writes.
func gramOf(t *testing.T, text string) api.Gram {
	t.Helper()
	g, f := read.Read(text)
	if f != (api.Fault{}) {
		t.Fatalf("Read(%q): %v", text, f)
	}
	return g
}

func sameRule(a, b api.SRule) bool {
	return a.Left == b.Left && slices.Equal(a.Right, b.Right) && a.Level == b.Level && a.Assoc == b.Assoc
}

func sameSpec(a, b api.Spec) bool {
	return a.Tokens == b.Tokens && a.NTs == b.NTs && a.Start == b.Start && a.Expect == b.Expect && slices.Equal(a.Names, b.Names) &&
		slices.Equal(a.Levels, b.Levels) && slices.Equal(a.Assocs, b.Assocs) && slices.EqualFunc(a.Rules, b.Rules, sameRule)
}

func wantSpec(t *testing.T, g api.Gram, want api.Spec) {
	t.Helper()
	if s, err := Of(g); err != api.OK || !sameSpec(s, want) {
		t.Errorf("P7.1: Of(%v) = %q, %d; want %q", g, []any{s}, err, []any{want})
	}
}

// wantErr holds Of's error against want, and beside an error the zero Spec.
func wantErr(t *testing.T, what string, g api.Gram, want api.Errno) {
	t.Helper()
	s, err := Of(g)
	if err != want {
		t.Errorf("P7.1: Of, %s: %d; want %d", what, err, want)
	}
	if err != api.OK && !sameSpec(s, api.Spec{}) {
		t.Errorf("P0.2: Of, %s: %v beside the error %d", what, s, err)
	}
}

func wantErrOf(t *testing.T, text string, want api.Errno) {
	t.Helper()
	wantErr(t, text, gramOf(t, text), want)
}

func rule(left string, right ...string) api.Rule {
	return api.Rule{Left: left, Right: right}
}

func whole() api.Gram {
	return api.Gram{
		Tokens: []api.Tok{{Name: "n"}, {Name: "p", Level: 2, Assoc: 1}, {Name: "q", Level: 1, Assoc: 3}, {Name: "m", Level: 2, Assoc: 1}, {Name: "w", Level: 3, Assoc: 2}, {Name: "o"}},
		Start:  "T", Expect: 7,
		Rules: []api.Rule{
			rule("E", "E", "p", "T"), rule("T", "n", "m", "F"), {Left: "E", Right: []string{"m", "E"}, Prec: "w"}, rule("F", "p", "n"), rule("T", "E"),
			rule("F"), {Left: "F", Prec: "q"}, {Left: "E", Right: []string{"E", "p", "E"}, Prec: "n"}, rule("E", "F"), rule("F", "q", "T", "w", "E"),
		},
	}
}

func wholeSpec() api.Spec {
	return api.Spec{
		Tokens: 6, NTs: 3, Start: 8, Expect: 7,
		Names:  []string{"n", "p", "q", "m", "w", "o", "", "E", "T", "F"},
		Levels: []int{0, 2, 1, 2, 3, 0}, Assocs: []int{0, 1, 3, 1, 2, 0},
		Rules: []api.SRule{
			is(-1, 8), by(2, 1, is(7, 7, 1, 8)), by(2, 1, is(8, 0, 3, 9)), by(3, 2, is(7, 3, 7)), is(9, 1, 0), is(8, 7),
			is(9), by(1, 3, is(9)), is(7, 7, 1, 7), is(7, 9), by(3, 2, is(9, 2, 8, 4, 7)),
		},
	}
}

func TestWholeSpecs(t *testing.T) {
	wantSpec(t, whole(), wholeSpec())
	wantSpec(t, gramOf(t, "%% A : ;"), api.Spec{NTs: 1, Start: 1, Names: []string{"", "A"}, Rules: []api.SRule{is(-1, 1), is(1)}})
	wantSpec(t, gramOf(t, "%expect 9999 %token b %% A : b ;"), api.Spec{
		Tokens: 1, NTs: 1, Start: 2, Expect: 9999, Names: []string{"b", "", "A"}, Levels: []int{0}, Assocs: []int{0},
		Rules: []api.SRule{is(-1, 2), is(2, 0)},
	})
	// A Left's number is its place among the Lefts, not where it first stands in a Right.
	wantSpec(t, gramOf(t, "%token x %% S : C B ; B : x ; C : B S | ; B : ; S : ;"), api.Spec{
		Tokens: 1, NTs: 3, Start: 2, Names: []string{"x", "", "S", "B", "C"}, Levels: []int{0}, Assocs: []int{0},
		Rules: []api.SRule{is(-1, 2), is(2, 4, 3), is(3, 0), is(4, 3, 2), is(4), is(3), is(2)},
	})
	// Tokens stay in their order, whatever their levels; a rule twice stays twice.
	wantSpec(t, gramOf(t, "%token z y %right x %nonassoc z %% S : x | x ;"), api.Spec{
		Tokens: 3, NTs: 1, Start: 4, Names: []string{"z", "y", "x", "", "S"}, Levels: []int{2, 0, 1}, Assocs: []int{3, 0, 2},
		Rules: []api.SRule{is(-1, 4), by(1, 2, is(4, 2)), by(1, 2, is(4, 2))},
	})
}

// Each Left as Start, and the empty Start, which is the first rule's Left.
func TestStart(t *testing.T) {
	const rules = " %token x %% A : B x ; B : C | x ; C : A ;"
	for start, want := range map[string]int{"": 2, "%start A": 2, "%start B": 3, "%start C": 4} {
		s, err := Of(gramOf(t, start+rules))
		if err != api.OK || s.Start != want || !sameRule(s.Rules[0], api.SRule{Left: -1, Right: []int{want}}) || len(s.Rules) != 5 {
			t.Errorf("P7.1: %q: Start %d, rules %v, error %d; want the Start %d", start, s.Start, s.Rules, err, want)
		}
		if got := fmt.Sprintf("%q", s.Names); got != `["x" "" "A" "B" "C"]` {
			t.Errorf("P7.1: %q: Names %s", start, got)
		}
	}
}

func TestHowARuleBinds(t *testing.T) {
	const head = "%token o %left a b %right c %nonassoc d %% S : "
	for alternative, want := range map[string][2]int{
		"":                {0, 0},
		"S S":             {0, 0},
		"o":               {0, 0},
		"a":               {1, 1},
		"b":               {1, 1},
		"c":               {2, 2},
		"d":               {3, 3},
		"a c":             {2, 2},
		"c a":             {1, 1},
		"c S":             {2, 2},
		"S c S S":         {2, 2},
		"d S a S":         {1, 1},
		"S d o":           {0, 0}, // the last token has no level: one ahead of it does not count
		"d o S":           {0, 0},
		"d c b a o d":     {3, 3},
		"%prec d":         {3, 3},
		"S %prec c":       {2, 2},
		"a %prec c":       {2, 2},
		"c %prec a":       {1, 1},
		"o %prec d":       {3, 3},
		"d %prec o":       {0, 0}, // Prec counts, though its token has no level
		"S d S %prec o":   {0, 0},
		"a S b %prec d":   {3, 3},
		"S c S c %prec c": {2, 2},
	} {
		s, err := Of(gramOf(t, head+alternative+" | ;"))
		if err != api.OK {
			t.Fatalf("P7.1: %q: %d", alternative, err)
		}
		if got := [2]int{s.Rules[1].Level, s.Rules[1].Assoc}; got != want {
			t.Errorf("P7.1: %q binds by %v; want %v", alternative, got, want)
		}
		if got := [4]int{s.Rules[0].Level, s.Rules[0].Assoc, s.Rules[2].Level, s.Rules[2].Assoc}; got != [4]int{} {
			t.Errorf("P7.1: %q: the rules beside it bind by %v", alternative, got)
		}
	}
	s, _ := Of(gramOf(t, "%left a %left b %right c %right d %nonassoc e %nonassoc f %left g %right h %% S : a|b|c|d|e|f|g|h;"))
	for i, r := range s.Rules[1:] {
		if r.Level != i+1 || r.Assoc != []int{1, 1, 2, 2, 3, 3, 1, 2}[i] {
			t.Errorf("P7.1: the token of Level %d: its rule binds by %d, %d", i+1, r.Level, r.Assoc)
		}
	}
}

func TestWhatMayNotBe(t *testing.T) {
	for k, change := range []func(g *api.Gram){
		func(g *api.Gram) { g.Tokens[0].Name = "" },
		func(g *api.Gram) { g.Tokens[0].Name = "p" },
		func(g *api.Gram) { g.Tokens[5].Name = "a-b" },
		func(g *api.Gram) { g.Tokens[5].Name = "abcdefghijklm" },
		func(g *api.Gram) { g.Tokens[0].Level = 9 },
		func(g *api.Gram) { g.Tokens[0].Level = -1 },
		func(g *api.Gram) { g.Tokens[0].Assoc = 1 },
		func(g *api.Gram) { g.Tokens[1].Assoc = 2 },
		func(g *api.Gram) { g.Tokens[2].Level, g.Tokens[2].Assoc = 0, 0 },
		func(g *api.Gram) { g.Start = "9" },
		func(g *api.Gram) { g.Expect = -1 },
		func(g *api.Gram) { g.Expect = 10000 },
		func(g *api.Gram) { g.Rules[0].Left = "" },
		func(g *api.Gram) { g.Rules[9].Left = "%" },
		func(g *api.Gram) { g.Rules[0].Right[0] = "" },
		func(g *api.Gram) { g.Rules[9].Right[3] = "é" },
		func(g *api.Gram) { g.Rules[2].Prec = " w" },
		func(g *api.Gram) { g.Tokens = plainTokens(41) },
		func(g *api.Gram) { g.Rules = slices.Repeat([]api.Rule{rule("T")}, 101) },
		func(g *api.Gram) { g.Rules[0].Right = slices.Repeat([]string{"n"}, 21) },
		func(g *api.Gram) { g.Rules = slices.Repeat([]api.Rule{rule("T")}, 1<<16) },
	} {
		g := whole()
		change(&g)
		if gram.May(g) {
			t.Fatalf("change %d: it may be", k)
		}
		wantErr(t, "change "+strconv.Itoa(k), g, api.ErrForm)
	}
	wantErr(t, "a bad Start alone", api.Gram{Start: "-"}, api.ErrForm)
}

// plainTokens are n tokens without Levels.
func plainTokens(n int) []api.Tok {
	l := make([]api.Tok, n)
	for i := range l {
		l[i].Name = "t" + strconv.Itoa(i)
	}
	return l
}

// chain is a grammar of n Lefts, each the one before's only symbol, but for the last, which is empty.
func chain(n int) []api.Rule {
	l := make([]api.Rule, n)
	for i := range l {
		l[i] = rule("L"+strconv.Itoa(i), "L"+strconv.Itoa(i+1))
	}
	l[n-1].Right = nil
	return l
}

func limitErr(over bool) api.Errno {
	if over {
		return api.ErrLimit
	}
	return api.OK
}

func TestLimits(t *testing.T) {
	for _, n := range []int{0, 1, 11, 12, 13, 14, 39, 40} {
		wantErr(t, strconv.Itoa(n)+" tokens", api.Gram{Tokens: plainTokens(n), Rules: chain(1)}, limitErr(n > 12))
	}
	for _, n := range []int{1, 2, 29, 30, 31, 32, 99, 100} {
		wantErr(t, strconv.Itoa(n)+" rules", api.Gram{Rules: slices.Repeat(chain(1), n)}, limitErr(n > 30))
	}
	for _, n := range []int{0, 1, 5, 6, 7, 8, 19, 20} {
		long := rule("L0", slices.Repeat([]string{"t0"}, n)...)
		what := strconv.Itoa(n) + " symbols of a rule"
		wantErr(t, what, api.Gram{Tokens: plainTokens(1), Rules: []api.Rule{long}}, limitErr(n > 6))
		wantErr(t, what+", the first of three", api.Gram{Tokens: plainTokens(1), Rules: append([]api.Rule{long}, slices.Repeat(chain(1), 2)...)}, limitErr(n > 6))
		wantErr(t, what+", the last of 30", api.Gram{Tokens: plainTokens(1), Rules: append(slices.Repeat(chain(1), 29), long)}, limitErr(n > 6))
		long.Prec = "t0"
		wantErr(t, what+" with a Prec", api.Gram{Tokens: plainTokens(1), Rules: []api.Rule{long}}, limitErr(n > 6))
	}
	for _, n := range []int{1, 2, 9, 10, 11, 12, 29, 30} {
		wantErr(t, strconv.Itoa(n)+" Lefts", api.Gram{Rules: chain(n)}, limitErr(n > 10))
	}
	// Lefts that are alike count once, wherever they stand.
	wantErr(t, "ten Lefts, thrice each", api.Gram{Rules: slices.Repeat(chain(10), 3)}, api.OK)
}

func TestAllAtTheirLimits(t *testing.T) {
	g := api.Gram{Tokens: plainTokens(12), Start: "L9", Expect: 9999}
	want := api.Spec{Tokens: 12, NTs: 10, Start: 22, Expect: 9999, Rules: []api.SRule{{Left: -1, Right: []int{22}}}}
	for i := range g.Tokens {
		level := i % 9
		g.Tokens[i].Level = level
		if level > 0 {
			g.Tokens[i].Assoc = 1 + level%3
		}
		want.Names = append(want.Names, g.Tokens[i].Name)
		want.Levels, want.Assocs = append(want.Levels, level), append(want.Assocs, g.Tokens[i].Assoc)
	}
	want.Names = append(want.Names, "", "L0", "L1", "L2", "L3", "L4", "L5", "L6", "L7", "L8", "L9")
	for i := range 30 {
		left, token, next := i%10, i%12, (i+1)%10
		r := rule("L"+strconv.Itoa(left), "t0", "t"+strconv.Itoa(token), "t5", "t11", "L"+strconv.Itoa(next), "t"+strconv.Itoa(token))
		if i < 10 {
			r.Right[4] = "t1"
		}
		g.Rules = append(g.Rules, r)
		n := api.SRule{Left: 13 + left, Right: []int{0, token, 5, 11, 13 + next, token}, Level: want.Levels[token], Assoc: want.Assocs[token]}
		if i < 10 {
			n.Right[4] = 1
		}
		want.Rules = append(want.Rules, n)
	}
	wantSpec(t, g, want)
}

func TestNames(t *testing.T) {
	for text, want := range map[string]api.Errno{
		// A token that is a Left.
		"%token A %% A : ;":                     api.ErrName,
		"%token b A %% A : b ;":                 api.ErrName,
		"%token b %% A : b ; b : ;":             api.ErrName,
		"%token b c %% A : b ; A : ; c : b ;":   api.ErrName,
		"%left A %start A %% A : A ;":           api.ErrName,
		"%token a %% A : a ;":                   api.OK,
		"%token b c %% A : b ; A : ; C : A ;":   api.ErrUseless,
		"%token b c %% A : b C ; A : ; C : c ;": api.OK,
		// A symbol of a rule that is neither.
		"%% A : b ;":                     api.ErrName,
		"%% A : | A b ;":                 api.ErrName,
		"%% A : A A A A A b | ;":         api.ErrName,
		"%token b %% A : b ; A : B ;":    api.ErrName,
		"%token b %% A : b ; A : b c b;": api.ErrName,
		"%% A : a ;":                     api.ErrName,
		"%% A : B ; B : ; B : A C ;":     api.ErrName,
		"%start b %% A : b ;":            api.ErrName,
		// A Prec that is no token.
		"%% A : %prec b ;":                          api.ErrName,
		"%% A : %prec A ;":                          api.ErrName,
		"%token b %% A : b %prec A ;":               api.ErrName,
		"%token b %% A : b %prec c ;":               api.ErrName,
		"%token b %% A : b | %prec c ;":             api.ErrName,
		"%token b %% A : B ; B : b ; B : %prec B ;": api.ErrName,
		"%token b %% A : %prec b ;":                 api.OK,
		"%token b %% A : b %prec b ;":               api.OK,
		"%token b c %% A : b %prec c ;":             api.OK,
		// No rules.
		"%%":                           api.ErrName,
		"%start A %%":                  api.ErrName,
		"%token a %%":                  api.ErrName,
		"%token a %start a %%":         api.ErrName,
		"%left a %expect 5 %start A%%": api.ErrName,
		// A Start that is no Left.
		"%start B %% A : ;":                    api.ErrName,
		"%start a %% A : ;":                    api.ErrName,
		"%token b %start b %% A : b ;":         api.ErrName,
		"%token b %start b %% A : ;":           api.ErrName,
		"%token b %start C %% A : B ; B : b ;": api.ErrName,
		"%start A %% A : ;":                    api.OK,
	} {
		wantErrOf(t, text, want)
	}
	wantErr(t, "nothing at all", api.Gram{}, api.ErrName)
}

func TestUseless(t *testing.T) {
	for text, want := range map[string]api.Errno{
		// What yields nothing.
		"%% A : A ;":                                           api.ErrUseless,
		"%% A : A A ; A : A ;":                                 api.ErrUseless,
		"%token b %% A : b A ;":                                api.ErrUseless,
		"%token b %% A : b | B ; B : B b ;":                    api.ErrUseless,
		"%token b %% A : b | B ; B : C ; C : B | b C ;":        api.ErrUseless,
		"%token b %% A : B ; B : A ;":                          api.ErrUseless,
		"%token b %% A : b | b B b ; B : b B b ;":              api.ErrUseless,
		"%token b %% A : B C ; B : b ; C : A ;":                api.ErrUseless,
		"%start B %token b %% A : A ; B : b | A ;":             api.ErrUseless,
		"%token b %% A : | B D ; B : b ; D : D B | B D | D D;": api.ErrUseless,
		// What is not reached.
		"%token b %% A : b ; B : b ;":                   api.ErrUseless,
		"%token b %% A : b ; B : A ;":                   api.ErrUseless,
		"%token b %% A : b ; B : B | b ;":               api.ErrUseless,
		"%token b %% A : b ; B : C ; C : B | b ;":       api.ErrUseless,
		"%start B %token b %% A : B ; B : b ;":          api.ErrUseless,
		"%start C %% A : C ; B : A ; C : ;":             api.ErrUseless,
		"%token b %% A : b | B ; B : b ; C : A B | b ;": api.ErrUseless,
		// Neither.
		"%token b %% A : b ; B : B ;": api.ErrUseless,
		// All are of use.
		"%token b %% A : b A | b ;":                               api.OK,
		"%token b %% A : b B ; B : A | ;":                         api.OK,
		"%token b %% A : B ; B : b | A b ;":                       api.OK,
		"%% A : B ; B : C ; C : A | ;":                            api.OK,
		"%% A : A | ;":                                            api.OK,
		"%start B %token b %% A : B ; B : A | b ;":                api.OK,
		"%start C %% A : C ; B : A ; C : B | ;":                   api.OK,
		"%% A : B B B ; B : C C C ; C : D D D ; D : ;":            api.OK,
		"%token b %% A : A A | B A | b ; B : A B C | C ; C : b ;": api.OK,
		// Tokens need not be reached.
		"%token b c %% A : b ;":         api.OK,
		"%token b c d %left e %% A : ;": api.OK,
	} {
		wantErrOf(t, text, want)
	}
}

// Each fault with each other one: the first in the promise's order is told.
func TestFirstOfSeveralFaults(t *testing.T) {
	faults := []struct {
		what string
		err  api.Errno
		put  func(g *api.Gram)
	}{
		{"may not be", api.ErrForm, func(g *api.Gram) { g.Expect = -1 }},
		{"tokens", api.ErrLimit, func(g *api.Gram) { g.Tokens = append(g.Tokens, plainTokens(13)...) }},
		{"rules", api.ErrLimit, func(g *api.Gram) { g.Rules = append(g.Rules, slices.Repeat([]api.Rule{rule("A")}, 31)...) }},
		{"symbols", api.ErrLimit, func(g *api.Gram) { g.Rules = append(g.Rules, rule("A", slices.Repeat([]string{"A"}, 7)...)) }},
		{"Lefts", api.ErrLimit, func(g *api.Gram) { g.Rules = append(g.Rules, chain(11)...) }},
		{"a token is a Left", api.ErrName, func(g *api.Gram) { g.Tokens = append(g.Tokens, api.Tok{Name: "A"}) }},
		{"a symbol is neither", api.ErrName, func(g *api.Gram) { g.Rules = append(g.Rules, rule("A", "none")) }},
		{"a Prec is no token", api.ErrName, func(g *api.Gram) { g.Rules = append(g.Rules, api.Rule{Left: "A", Prec: "A"}) }},
		{"Start is no Left", api.ErrName, func(g *api.Gram) { g.Start = "none" }},
		{"yields nothing", api.ErrUseless, func(g *api.Gram) { g.Rules = append(g.Rules, rule("A", "B"), rule("B", "B")) }},
		{"is not reached", api.ErrUseless, func(g *api.Gram) { g.Rules = append(g.Rules, rule("C")) }},
	}
	order := []api.Errno{api.ErrForm, api.ErrLimit, api.ErrName, api.ErrUseless}
	for i, a := range faults {
		for j, b := range faults {
			g := api.Gram{Tokens: []api.Tok{{Name: "a"}}, Rules: []api.Rule{rule("A", "a")}}
			wantErr(t, "no fault", g, api.OK)
			a.put(&g)
			want := a.err
			if i != j {
				b.put(&g)
				want = order[min(slices.Index(order, a.err), slices.Index(order, b.err))]
			}
			wantErr(t, a.what+" and "+b.what, g, want)
		}
	}
	wantErr(t, "no rules and 13 tokens", api.Gram{Tokens: plainTokens(13)}, api.ErrLimit)
	wantErr(t, "no rules and what may not be", api.Gram{Tokens: plainTokens(41)}, api.ErrForm)
	wantErr(t, "no rules and a Start", api.Gram{Start: "A"}, api.ErrName)
}

// plainOf asks each of the promise's words by itself, of grammars that may be and are short.
func plainOf(g api.Gram) api.Errno {
	isToken := func(name string) bool {
		return slices.ContainsFunc(g.Tokens, func(t api.Tok) bool { return t.Name == name })
	}
	isLeft := func(name string) bool {
		return slices.ContainsFunc(g.Rules, func(r api.Rule) bool { return r.Left == name })
	}
	if len(g.Rules) == 0 {
		return api.ErrName
	}
	start := g.Start
	if start == "" {
		start = g.Rules[0].Left
	}
	bad := !isLeft(start)
	for _, r := range g.Rules {
		bad = bad || isToken(r.Left) || r.Prec != "" && !isToken(r.Prec)
		for _, name := range r.Right {
			bad = bad || !isToken(name) && !isLeft(name)
		}
	}
	if bad {
		return api.ErrName
	}
	good, reached := map[string]int{}, map[string]int{start: 1}
	for _, tok := range g.Tokens {
		good[tok.Name] = 1
	}
	for range len(g.Rules) {
		for _, r := range g.Rules {
			lacks := slices.IndexFunc(r.Right, func(name string) bool { return good[name] == 0 })
			if lacks < 0 {
				good[r.Left] = 1
			}
			for _, name := range r.Right {
				if reached[r.Left] == 1 {
					reached[name] = 1
				}
			}
		}
	}
	for _, r := range g.Rules {
		if good[r.Left] == 0 || reached[r.Left] == 0 {
			return api.ErrUseless
		}
	}
	return api.OK
}

// smallRules are all rules of few names and at most two symbols.
func smallRules() []api.Rule {
	names := []string{"A", "B", "a", "x"}
	rights := [][]string{nil}
	for _, a := range names {
		rights = append(rights, []string{a})
		for _, b := range names {
			rights = append(rights, []string{a, b})
		}
	}
	var rules []api.Rule
	for _, left := range names[:3] {
		for _, right := range rights {
			for _, prec := range []string{"", "a", "B"} {
				rules = append(rules, api.Rule{Left: left, Right: right, Prec: prec})
			}
		}
	}
	return rules
}

func TestAllSmall(t *testing.T) {
	seen := map[api.Errno]int{}
	try := func(g api.Gram) {
		want := plainOf(g)
		seen[want]++
		if s, err := Of(g); err != want || (err == api.OK) == sameSpec(s, api.Spec{}) {
			t.Fatalf("P7.1: Of(%v) = %v, %d; want %d", g, s, err, want)
		}
	}
	rules := smallRules()
	tokens := [][]api.Tok{nil, {{Name: "a"}}, {{Name: "a"}, {Name: "x"}}}
	starts := []string{"", "A", "B", "a", "x"}
	for _, toks := range tokens {
		for _, start := range starts {
			try(api.Gram{Tokens: toks, Start: start})
			for _, a := range rules {
				try(api.Gram{Tokens: toks, Start: start, Rules: []api.Rule{a}})
				for _, b := range rules {
					try(api.Gram{Tokens: toks, Start: start, Rules: []api.Rule{a, b}})
				}
			}
		}
	}
	random := rand.New(rand.NewSource(7))
	for range 200000 {
		g := api.Gram{Tokens: tokens[random.Intn(3)], Start: starts[random.Intn(3)]}
		for range 3 + random.Intn(3) {
			g.Rules = append(g.Rules, rules[random.Intn(len(rules)*2/3)])
		}
		try(g)
	}
	if seen[api.OK] < 1000 || seen[api.ErrName] < 1000 || seen[api.ErrUseless] < 1000 {
		t.Errorf("the grammars are all of few kinds: %v", seen)
	}
}

// spec is a Spec of so many symbols, Start the first one behind the end, with the rule of the whole ahead of rules.
func spec(tokens, nts int, rules ...api.SRule) api.Spec {
	return api.Spec{
		Tokens: tokens, NTs: nts, Start: tokens + 1,
		Names: make([]string, tokens+1+nts), Levels: make([]int, tokens), Assocs: make([]int, tokens),
		Rules: append([]api.SRule{{Left: -1, Right: []int{tokens + 1}}}, rules...),
	}
}

func is(left int, right ...int) api.SRule {
	return api.SRule{Left: left, Right: right}
}

// by is r, binding so.
func by(level, assoc int, r api.SRule) api.SRule {
	r.Level, r.Assoc = level, assoc
	return r
}

// marksOf writes yes as 1, no as 0.
func marksOf(l []bool) string {
	s := ""
	for _, b := range l {
		s += map[bool]string{true: "1", false: "0"}[b]
	}
	return s
}

// The symbols in order: tokens, the end, others.
func wantMarks(t *testing.T, what string, s api.Spec, yields, reached string) {
	t.Helper()
	if got, want := marksOf(Yields(s)), strings.ReplaceAll(yields, " ", ""); got != want {
		t.Errorf("P7.2: Yields, %s: %s; want %s", what, got, want)
	}
	if got, want := marksOf(Reached(s)), strings.ReplaceAll(reached, " ", ""); got != want {
		t.Errorf("P7.2: Reached, %s: %s; want %s", what, got, want)
	}
}

func TestYieldsAndReached(t *testing.T) {
	wantMarks(t, "an empty rule", spec(0, 1, is(1)), "0 1", "0 1")
	wantMarks(t, "one token", spec(1, 1, is(2, 0)), "1 0 1", "1 0 1")
	wantMarks(t, "a token of no rule", spec(2, 1, is(3, 1)), "11 0 1", "01 0 1")
	wantMarks(t, "itself alone", spec(1, 1, is(2, 2)), "1 0 0", "0 0 1")
	wantMarks(t, "itself and a token", spec(1, 1, is(2, 2, 0)), "1 0 0", "1 0 1")
	wantMarks(t, "itself, or a token", spec(1, 1, is(2, 2), is(2, 0)), "1 0 1", "1 0 1")
	wantMarks(t, "no rule of its own", spec(1, 1), "1 0 0", "0 0 1")
	wantMarks(t, "by its second rule", spec(1, 2, is(2, 3), is(2, 0), is(3, 3)), "1 0 10", "1 0 11")
	wantMarks(t, "by its last rule of three", spec(1, 3, is(2, 3), is(2, 4), is(2), is(3, 4), is(4, 3, 0)), "1 0 100", "1 0 111")
	wantMarks(t, "by two rules", spec(2, 2, is(3, 0), is(3, 1), is(4, 0), is(4)), "11 0 11", "11 0 10")
	wantMarks(t, "each other alone", spec(1, 2, is(2, 3), is(3, 2)), "1 0 00", "0 0 11")
	wantMarks(t, "through another", spec(1, 3, is(2, 3), is(3, 4), is(4, 0)), "1 0 111", "1 0 111")
	wantMarks(t, "through another, backwards", spec(1, 3, is(4, 0), is(3, 4), is(2, 3)), "1 0 111", "1 0 111")
	wantMarks(t, "not all of a rule yields", spec(2, 3, is(3, 4, 0, 5), is(4, 1), is(5, 5)), "11 0 010", "11 0 111")
	wantMarks(t, "the last of a rule yields nothing", spec(1, 2, is(2, 0, 0, 3), is(3, 3)), "1 0 00", "1 0 11")
	wantMarks(t, "the first of a rule yields nothing", spec(1, 2, is(2, 3, 0, 0), is(3, 3)), "1 0 00", "1 0 11")
	wantMarks(t, "one symbol often", spec(1, 2, is(2, 3, 3, 3, 3, 3, 3), is(3, 0, 0)), "1 0 11", "1 0 11")
	wantMarks(t, "one that yields nothing often", spec(1, 2, is(2, 3, 3), is(2, 0), is(3, 3, 3)), "1 0 10", "1 0 11")
	wantMarks(t, "reached behind what yields nothing", spec(2, 3, is(3, 4, 5), is(4, 4), is(5, 1)), "11 0 001", "01 0 111")
	wantMarks(t, "not reached: yields", spec(2, 2, is(3, 0), is(4, 1)), "11 0 11", "10 0 10")
	wantMarks(t, "not reached: yields nothing", spec(2, 2, is(3, 0), is(4, 4, 1)), "11 0 10", "10 0 10")
	wantMarks(t, "not reached: has Start", spec(2, 2, is(3, 0), is(4, 3, 1)), "11 0 11", "10 0 10")
	wantMarks(t, "not reached: two that reach each other", spec(1, 3, is(2, 0), is(3, 4), is(4, 3), is(4)), "1 0 111", "1 0 100")
	wantMarks(t, "in a ring", spec(1, 3, is(2, 3), is(3, 4), is(4, 2), is(4, 0)), "1 0 111", "1 0 111")
	wantMarks(t, "nothing but rules of the whole", spec(3, 4), "111 0 0000", "000 0 1000")
	other := spec(2, 3, is(3, 0, 4), is(4, 1), is(5, 5, 3))
	wantMarks(t, "Start the first", other, "11 0 110", "11 0 110")
	other.Start, other.Rules[0].Right = 4, []int{4}
	wantMarks(t, "Start the second", other, "11 0 110", "01 0 010")
	other.Start, other.Rules[0].Right = 5, []int{5}
	wantMarks(t, "Start the third", other, "11 0 110", "11 0 111")
}

// What Of takes: all Lefts yield and are reached, the end does not.
func TestYieldsAndReachedOfWhole(t *testing.T) {
	wantMarks(t, "whole", wholeSpec(), "111111 0 111", "111110 0 111")
	s, _ := Of(gramOf(t, "%token n l r %left p m %left t %right u %expect 2 %% E : E p T | T | m E %prec u ; T : T t F | F ; F : l E r | n | ;"))
	// A Prec does not reach its token.
	wantMarks(t, "sums", s, "1111111 0 111", "1111110 0 111")
}

// heights tells of each symbol whether it has a tree of tokens at most as high as there are symbols.
func heights(s api.Spec) []bool {
	n := s.Tokens + 1 + s.NTs
	now := make([]bool, n)
	for range n + 1 {
		next := make([]bool, n)
		for i := range s.Tokens {
			next[i] = true
		}
		for _, r := range s.Rules[1:] {
			if !slices.ContainsFunc(r.Right, func(symbol int) bool { return !now[symbol] }) {
				next[r.Left] = true
			}
		}
		now = next
	}
	return now
}

// ways tells of each symbol whether steps from a Left to a symbol of its rules lead from Start to it.
func ways(s api.Spec) []bool {
	n := s.Tokens + 1 + s.NTs
	way := make([][]bool, n)
	for i := range way {
		way[i] = make([]bool, n)
		way[i][i] = true
	}
	for _, r := range s.Rules[1:] {
		for _, symbol := range r.Right {
			way[r.Left][symbol] = true
		}
	}
	for k := range n {
		for i := range n {
			for j := range n {
				way[i][j] = way[i][j] || way[i][k] && way[k][j]
			}
		}
	}
	return way[s.Start]
}

func TestYieldsAndReachedAtRandom(t *testing.T) {
	random := rand.New(rand.NewSource(72))
	lacking := 0
	for range 30000 {
		tokens, nts := random.Intn(4), 1+random.Intn(8)
		s := spec(tokens, nts)
		s.Start = tokens + 1 + random.Intn(nts)
		s.Rules[0].Right[0] = s.Start
		for range random.Intn(2 * nts) {
			r := is(tokens + 1 + random.Intn(nts))
			for range random.Intn(4) {
				symbol := random.Intn(tokens + nts)
				if symbol >= tokens {
					symbol++
				}
				r.Right = append(r.Right, symbol)
			}
			s.Rules = append(s.Rules, r)
		}
		wantMarks(t, fmt.Sprint(s), s, marksOf(heights(s)), marksOf(ways(s)))
		if t.Failed() {
			return
		}
		if slices.Contains(Yields(s)[tokens+1:], false) && slices.Contains(Reached(s)[tokens+1:], false) {
			lacking++
		}
	}
	if lacking < 1000 {
		t.Errorf("only %d Specs had symbols that yield nothing and symbols that are not reached", lacking)
	}
}

// Specs that Of never makes are Specs still: as many symbols as there are Names.
func TestLongSpecs(t *testing.T) {
	const n = 200000
	s := spec(50, n)
	for i := range n - 1 {
		// The symbol that yields first stands in the last rule: going through the rules again and again would take too long.
		s.Rules = append(s.Rules, is(51+i, 51+i+1, i%50))
	}
	s.Rules = append(s.Rules, is(51+n-1, slices.Repeat([]int{49}, n)...))
	yields, reached := Yields(s), Reached(s)
	for symbol := range 51 + n {
		if want := symbol != 50; yields[symbol] != want || reached[symbol] != want {
			t.Fatalf("P7.2: the symbol %d of a long Spec: %t, %t; want %t", symbol, yields[symbol], reached[symbol], want)
		}
	}
}

// Of what is no Spec nothing is promised but that the calls end.
func TestWhatIsNoSpec(t *testing.T) {
	numbers := []int{math.MinInt, math.MinInt + 1, -1 << 40, -2, -1, 0, 1, 2, 3, 4, 22, 23, 24, 1 << 20, 1 << 40, math.MaxInt - 1, math.MaxInt}
	rights := [][]int{nil, {0}, {1, 2, 3}, {-1}, {math.MinInt}, {math.MaxInt, 0}, {4, 5, 6}, {3, -7, 2}}
	lists := [][]string{nil, make([]string, 4), make([]string, 30)}
	for _, tokens := range numbers {
		for _, nts := range numbers {
			for _, start := range numbers {
				for _, names := range lists {
					s := api.Spec{Tokens: tokens, NTs: nts, Start: start, Names: names}
					for _, left := range numbers {
						for _, right := range rights {
							s.Rules = append(s.Rules, is(left, right...))
						}
					}
					y, r := Yields(s), Reached(s)
					if len(y) != len(r) || len(y) > max(23, len(names)) {
						t.Fatalf("P0.1: %d, %d, %d, %d Names: lists of %d and %d", tokens, nts, start, len(names), len(y), len(r))
					}
				}
			}
		}
	}
	Yields(api.Spec{})
	Reached(api.Spec{})
	// Rules without the rule of the whole, and a rule that has what is no symbol.
	wantMarks(t, "numbers that are no symbols", api.Spec{Tokens: 1, NTs: 2, Start: 2, Names: make([]string, 4), Rules: []api.SRule{is(2, 0, 9), is(2, -1), is(9, 0), is(3, 0)}}, "1 0 01", "1 0 10")
	wantMarks(t, "a Left that is a token or the end", api.Spec{Tokens: 2, NTs: 1, Start: 3, Names: make([]string, 4), Rules: []api.SRule{is(3, 0, 2), is(2), is(0, 1)}}, "11 0 0", "10 1 1")
}

// roomy is whole with spare room behind each list, filled, and a check that nothing of it was changed.
func roomy() (api.Gram, func() bool) {
	g := whole()
	toks := append(g.Tokens, api.Tok{Name: "spare"}, api.Tok{Name: "room"})
	rules := append(g.Rules, rule("spare"), rule("room"))
	rights := make([][]string, len(g.Rules))
	for i, r := range g.Rules {
		rights[i] = append(slices.Clone(r.Right), "spare", "room")
		rules[i].Right = rights[i][:len(r.Right)]
	}
	unchanged := func() bool {
		for i, r := range whole().Rules {
			if !slices.Equal(rights[i], append(slices.Clone(r.Right), "spare", "room")) {
				return false
			}
		}
		return gram.Eq(api.Gram{Tokens: toks[:6], Start: "T", Expect: 7, Rules: rules[:10]}, whole()) &&
			toks[6].Name == "spare" && toks[7].Name == "room" && rules[10].Left == "spare" && rules[11].Left == "room"
	}
	return api.Gram{Tokens: toks[:6], Start: g.Start, Expect: g.Expect, Rules: rules[:10]}, unchanged
}

func TestNothingIsChanged(t *testing.T) {
	for what, change := range map[string]func(g *api.Gram){
		"taken":         func(g *api.Gram) {},
		"may not be":    func(g *api.Gram) { g.Expect = -1 },
		"a wrong Start": func(g *api.Gram) { g.Start = "none" },
		"useless":       func(g *api.Gram) { g.Rules = g.Rules[:11] },
		"no rules":      func(g *api.Gram) { g.Rules = g.Rules[:0] },
	} {
		g, unchanged := roomy()
		change(&g)
		Of(g)
		if !unchanged() {
			t.Errorf("P0.3: Of, %s, changed what it was handed", what)
		}
	}
	s := wholeSpec()
	for i := range s.Rules {
		s.Rules[i].Right = append(s.Rules[i].Right, 77, 78)[:len(s.Rules[i].Right)]
	}
	Yields(s)
	Reached(s)
	if !sameSpec(s, wholeSpec()) {
		t.Error("P0.3: Yields or Reached changed what it was handed")
	}
	for i, r := range s.Rules {
		if spare := r.Right[len(r.Right) : len(r.Right)+2]; !slices.Equal(spare, []int{77, 78}) {
			t.Errorf("P0.3: Yields or Reached changed the spare room of rule %d to %v", i, spare)
		}
	}
}

// spoil writes into all of s, its spare room too.
func spoil(s api.Spec) {
	for _, list := range [][]int{s.Levels, s.Assocs} {
		spoilList(list, 99)
	}
	spoilList(s.Names, "spoiled")
	for _, r := range s.Rules {
		spoilList(r.Right, 99)
	}
	spoilList(s.Rules, is(99, 99))
}

func spoilList[T any](list []T, with T) {
	list = list[:cap(list)]
	for i := range list {
		list[i] = with
	}
}

func TestAnswersAreNewMemory(t *testing.T) {
	g, unchanged := roomy()
	first, _ := Of(g)
	second, _ := Of(g)
	spoil(first)
	if !unchanged() {
		t.Error("P0.3: who writes into a Spec changes the grammar")
	}
	if !sameSpec(second, wholeSpec()) {
		t.Errorf("P0.3: who writes into a Spec changes another: %v", second)
	}
	wantSpec(t, g, wholeSpec())
	// No two lists of one answer share any, spare room neither.
	for i := range second.Rules {
		spoilList(second.Rules[i].Right[len(second.Rules[i].Right):], 99)
	}
	spoilList(second.Names[len(second.Names):], "spoiled")
	spoilList(second.Levels[len(second.Levels):], 99)
	spoilList(second.Assocs[len(second.Assocs):], 99)
	if !sameSpec(second, wholeSpec()) {
		t.Errorf("P0.3: the spare room of a list is another list's: %v", second)
	}
	g.Tokens[0].Name, g.Rules[0].Left, g.Rules[0].Right[0], g.Tokens[1].Level = "q", "q", "q", 8
	if !sameSpec(second, wholeSpec()) {
		t.Errorf("P0.3: a change of the grammar changes its Spec: %v", second)
	}
	for what, call := range map[string]func(api.Spec) []bool{"Yields": Yields, "Reached": Reached} {
		s := wholeSpec()
		a, b := call(s), call(s)
		before := marksOf(b)
		for i := range a {
			a[i] = !a[i]
		}
		spoilList(a[len(a):], true)
		if marksOf(b) != before || marksOf(call(s)) != before || !sameSpec(s, wholeSpec()) {
			t.Errorf("P0.3: who writes into what %s answers changes more than that", what)
		}
	}
}

func TestNilLikeEmpty(t *testing.T) {
	g := api.Gram{Tokens: []api.Tok{}, Rules: []api.Rule{{Left: "A", Right: []string{}}}}
	wantSpec(t, g, api.Spec{NTs: 1, Start: 1, Names: []string{"", "A"}, Rules: []api.SRule{is(-1, 1), is(1)}})
	wantErr(t, "empty lists", api.Gram{Tokens: []api.Tok{}, Rules: []api.Rule{}}, api.ErrName)
	s := spec(0, 1, api.SRule{Left: 1, Right: []int{}})
	s.Levels, s.Assocs = nil, []int{}
	wantMarks(t, "empty lists", s, "0 1", "0 1")
}
