package table

import (
	"fmt"
	"math"
	"math/rand"
	"slices"
	"strconv"
	"strings"
	"testing"

	"donatus/api"
	"donatus/auto"
	"donatus/look"
	"donatus/read"
	"donatus/well"
)

// specOf is the Spec of the grammar that the text writes.
func specOf(t *testing.T, text string) api.Spec {
	t.Helper()
	g, f := read.Read(text)
	if f != (api.Fault{}) {
		t.Fatalf("Read(%q): %v", text, f)
	}
	s, err := well.Of(g)
	if err != api.OK {
		t.Fatalf("well.Of(%q): %d", text, err)
	}
	return s
}

// spec has tokens and Lefts without names, and the first Left as Start.
func spec(tokens, nts int, rules ...api.SRule) api.Spec {
	whole := is(-1, tokens+1)
	return api.Spec{
		Tokens: tokens, NTs: nts, Start: tokens + 1, Names: make([]string, tokens+1+nts),
		Levels: make([]int, tokens), Assocs: make([]int, tokens), Rules: append([]api.SRule{whole}, rules...),
	}
}

func is(left int, right ...int) api.SRule {
	return api.SRule{Left: left, Right: right}
}

// rowOf is a row of n of the symbol.
func rowOf(n, symbol int) []int {
	return slices.Repeat([]int{symbol}, n)
}

func build(t *testing.T, s api.Spec) *Table {
	t.Helper()
	b, err := Build(s)
	if err != api.OK || b == nil {
		t.Fatalf("P11.1: Build(%v): %v, %d", s.Rules[:min(len(s.Rules), 20)], b, err)
	}
	return b
}

// done tells an Act in short.
func done(x api.Act) string {
	switch x {
	case api.Act{}:
		return "-"
	case api.Act{Kind: api.ActAccept}:
		return "acc"
	case api.Act{Kind: api.ActShift, N: x.N}:
		return "s" + strconv.Itoa(x.N)
	case api.Act{Kind: api.ActReduce, N: x.N}:
		return "r" + strconv.Itoa(x.N)
	}
	return fmt.Sprint(x)
}

// line tells a state: what is done with each token and the end, which is $, and where the other symbols lead.
func line(b *Table, s api.Spec, state int) string {
	var acts, gotos []string
	for tok := range s.Tokens + 1 {
		name := s.Names[tok]
		if tok == s.Tokens {
			name = "$"
		}
		if act := b.Act(state, tok); act != (api.Act{}) {
			acts = append(acts, name+":"+done(act))
		}
	}
	for sym := s.Tokens + 1; sym < len(s.Names); sym++ {
		if to := b.Goto(state, sym); to != -1 {
			gotos = append(gotos, s.Names[sym]+":"+strconv.Itoa(to))
		}
	}
	return strings.TrimSpace(strings.Join(acts, " ") + " / " + strings.Join(gotos, " "))
}

func lines(b *Table, s api.Spec) []string {
	var all []string
	for state := range b.Len() {
		all = append(all, line(b, s, state))
	}
	return all
}

// wantTable holds the table of the text's grammar against want, in which each state is a line, behind one of how many conflicts and settled there are.
func wantTable(t *testing.T, text string, want ...string) {
	t.Helper()
	s := specOf(t, text)
	b := build(t, s)
	got := append([]string{fmt.Sprint(b.Conflicts(), b.Settled())}, lines(b, s)...)
	if !slices.Equal(got, want) {
		t.Errorf("P11.1: of %q\n     %s\nwant %s", text, strings.Join(got, "\n     "), strings.Join(want, "\n     "))
	}
	wantPlain(t, s)
	if wrong := noSymbols(b, s); wrong != "" {
		t.Errorf("P11.1: of %q: %s", text, wrong)
	}
}

var strange = []int{math.MinInt, math.MinInt + 1, -1 << 40, -121, -2, -1, 120, 121, 1 << 31, 1 << 32, 1 << 40, math.MaxInt - 1, math.MaxInt}

// noSymbols tells of what is answered of numbers that are no state or no symbol; b has no more than 100 states, s no more than 100 symbols.
func noSymbols(b *Table, s api.Spec) string {
	for _, state := range append(slices.Clone(strange), b.Len(), b.Len()+1) {
		for sym := -2; sym < len(s.Names)+2; sym++ {
			if act, to := b.Act(state, sym), b.Goto(state, sym); act != (api.Act{}) || to != -1 {
				return fmt.Sprintf("of %d, which is no state, and %d: %v, %d", state, sym, act, to)
			}
		}
	}
	for state := -1; state <= b.Len(); state++ {
		for _, sym := range append(slices.Clone(strange), len(s.Names), len(s.Names)+1) {
			if act, to := b.Act(state, sym), b.Goto(state, sym); act != (api.Act{}) || to != -1 {
				return fmt.Sprintf("of %d and %d, which is no symbol: %v, %d", state, sym, act, to)
			}
		}
		for tok := range s.Tokens + 1 {
			if to := b.Goto(state, tok); to != -1 {
				return fmt.Sprintf("Goto(%d, %d), of a token or the end: %d", state, tok, to)
			}
		}
		for sym := s.Tokens + 1; sym < len(s.Names); sym++ {
			if act := b.Act(state, sym); act != (api.Act{}) {
				return fmt.Sprintf("Act(%d, %d), of a symbol that is no token: %v", state, sym, act)
			}
		}
	}
	return ""
}

// all is what the chapter's words say of one place.
type all struct {
	act       api.Act
	conflicts int
	settled   bool
}

// plain is what the chapter's words say of a place at which a shift leads to the state to (-1: none does) and the rules can be reduced.
func plain(s api.Spec, tok, to int, rules []int) all {
	var x all
	shift := to != -1
	gone := map[int]bool{}
	for _, r := range rules {
		if to == -1 || tok == s.Tokens || s.Levels[tok] == 0 || s.Rules[r].Level == 0 {
			continue
		}
		x.settled = true
		greater, alike := s.Rules[r].Level > s.Levels[tok], s.Rules[r].Level == s.Levels[tok]
		if greater || alike && s.Assocs[tok] != api.AssocRight {
			shift = false
		}
		if !greater && !(alike && s.Assocs[tok] == api.AssocLeft) {
			gone[r] = true
		}
	}
	n := len(rules) - len(gone)
	for _, r := range slices.Backward(rules) {
		if !gone[r] {
			x.act = api.Act{Kind: api.ActReduce, N: r}
		}
	}
	if x.act == (api.Act{Kind: api.ActReduce}) {
		x.act = api.Act{Kind: api.ActAccept}
	}
	if shift {
		x.act = api.Act{Kind: api.ActShift, N: to}
		n++
	}
	x.conflicts = max(n-1, 0)
	return x
}

// wantPlain holds the table of s, state by state and symbol by symbol, against what the chapter's words make of look's lookaheads and auto's states. It tells how many conflicts and settled there are.
func wantPlain(t *testing.T, s api.Spec) (int, int) {
	t.Helper()
	a, want := auto.Build(s)
	b, err := Build(s)
	if err != want || want != api.OK && b != nil {
		t.Fatalf("P11.1: Build(%v): %v, %d; auto.Build: %d", s, b, err, want)
	}
	if want != api.OK {
		return 0, 0
	}
	if b.Len() != a.Len() {
		t.Fatalf("P11.1: of %v, Len: %d; auto's: %d", s, b.Len(), a.Len())
	}
	l := look.New(s, a)
	conflicts, settled := 0, 0
	for state := range a.Len() {
		rules := make([][]int, s.Tokens+1)
		for r := range s.Rules {
			for _, tok := range l.Set(state, r) {
				rules[tok] = append(rules[tok], r)
			}
		}
		for tok := range s.Tokens + 1 {
			x := plain(s, tok, a.Go(state, tok), rules[tok])
			if got := b.Act(state, tok); got != x.act {
				t.Fatalf("P11.1: of %v, Act(%d, %d): %v; want %v", s, state, tok, got, x.act)
			}
			conflicts += x.conflicts
			if x.settled {
				settled++
			}
		}
		for sym := s.Tokens + 1; sym <= s.Tokens+s.NTs; sym++ {
			if got := b.Goto(state, sym); got != a.Go(state, sym) {
				t.Fatalf("P11.1: of %v, Goto(%d, %d): %d; want %d", s, state, sym, got, a.Go(state, sym))
			}
		}
	}
	if b.Conflicts() != conflicts || b.Settled() != settled {
		t.Fatalf("P11.1: of %v, %d conflicts, %d settled; want %d, %d", s, b.Conflicts(), b.Settled(), conflicts, settled)
	}
	return conflicts, settled
}

func TestShiftsAndReduces(t *testing.T) {
	wantTable(t, "%token a %% S : a ;",
		"0 0",
		"a:s1 / S:2",
		"$:r1 /",
		"$:acc /")
	// The end is a number of its own: without tokens it is 0.
	wantTable(t, "%% S : ;",
		"0 0",
		"$:r1 / S:1",
		"$:acc /")
	// A rule of nothing is reduced just where its lookaheads say.
	wantTable(t, "%token a b %% S : a S b | ;",
		"0 0",
		"a:s1 $:r2 / S:2",
		"a:s1 b:r2 / S:3",
		"$:acc /",
		"b:s4 /",
		"b:r1 $:r1 /")
	wantTable(t, "%token n p t l r %% E : E p T | T ; T : T t F | F ; F : l E r | n ;",
		"0 0",
		"n:s1 l:s2 / E:3 T:4 F:5",
		"p:r6 t:r6 r:r6 $:r6 /",
		"n:s1 l:s2 / E:6 T:4 F:5",
		"p:s7 $:acc /",
		"p:r2 t:s8 r:r2 $:r2 /",
		"p:r4 t:r4 r:r4 $:r4 /",
		"p:s7 r:s9 /",
		"n:s1 l:s2 / T:10 F:5",
		"n:s1 l:s2 / F:11",
		"p:r5 t:r5 r:r5 $:r5 /",
		"p:r1 t:s8 r:r1 $:r1 /",
		"p:r3 t:r3 r:r3 $:r3 /")
}

func TestConflicts(t *testing.T) {
	// The shift is done, and the rule is one too many.
	wantTable(t, "%token n o %% E : E o E | n ;",
		"1 0",
		"n:s1 / E:2",
		"o:r2 $:r2 /",
		"o:s3 $:acc /",
		"n:s1 / E:4",
		"o:s3 $:r1 /")
	wantTable(t, "%token i e x %% S : i S e S | i S | x ;",
		"1 0",
		"i:s1 x:s2 / S:3",
		"i:s1 x:s2 / S:4",
		"e:r3 $:r3 /",
		"$:acc /",
		"e:s5 $:r2 /",
		"i:s1 x:s2 / S:6",
		"e:r1 $:r1 /")
	// The least rule, wherever it stands.
	wantTable(t, "%token a %% S : A | B ; A : a ; B : a ;",
		"1 0",
		"a:s1 / S:2 A:3 B:4",
		"$:r3 /",
		"$:acc /",
		"$:r1 /",
		"$:r2 /")
	wantTable(t, "%token a %% S : B | A ; B : a ; A : a ;",
		"1 0",
		"a:s1 / S:2 B:3 A:4",
		"$:r3 /",
		"$:acc /",
		"$:r1 /",
		"$:r2 /")
	// To accept is the least rule.
	wantTable(t, "%token a %% S : S | a ;",
		"1 0",
		"a:s1 / S:2",
		"$:r2 /",
		"$:acc /")
	// Three rules at one place are two too many.
	wantTable(t, "%token a %% S : a | a | a ;",
		"2 0",
		"a:s1 / S:2",
		"$:r1 /",
		"$:acc /")
	// A shift and two rules, too; and all places count together.
	wantTable(t, "%token x o %% S : A o | B o | x o ; A : x ; B : x ;",
		"2 0",
		"x:s1 / S:2 A:3 B:4",
		"o:s5 /",
		"$:acc /",
		"o:s6 /",
		"o:s7 /",
		"$:r3 /",
		"$:r1 /",
		"$:r2 /")
	wantTable(t, "%token n p t %% E : E p E | E t E | n | n ;",
		"7 0",
		"n:s1 / E:2",
		"p:r3 t:r3 $:r3 /",
		"p:s3 t:s4 $:acc /",
		"n:s1 / E:5",
		"n:s1 / E:6",
		"p:s3 t:s4 $:r1 /",
		"p:s3 t:s4 $:r2 /")
}

func TestLevels(t *testing.T) {
	// What binds more goes first; of one level Left reduces.
	wantTable(t, "%token n %left p %left t %% E : E p E | E t E | n ;",
		"0 4",
		"n:s1 / E:2",
		"p:r3 t:r3 $:r3 /",
		"p:s3 t:s4 $:acc /",
		"n:s1 / E:5",
		"n:s1 / E:6",
		"p:r1 t:s4 $:r1 /",
		"p:r2 t:r2 $:r2 /")
	// Right shifts.
	wantTable(t, "%token n %right t %right p %% E : E p E | E t E | n ;",
		"0 4",
		"n:s1 / E:2",
		"t:r3 p:r3 $:r3 /",
		"t:s3 p:s4 $:acc /",
		"n:s1 / E:5",
		"n:s1 / E:6",
		"t:s3 p:s4 $:r2 /",
		"t:r1 p:s4 $:r1 /")
	// Of Non nothing is left; what is greater or lesser is as of the others.
	wantTable(t, "%token n %nonassoc c %nonassoc p %% E : E p E | E c E | n ;",
		"0 4",
		"n:s1 / E:2",
		"c:r3 p:r3 $:r3 /",
		"c:s3 p:s4 $:acc /",
		"n:s1 / E:5",
		"n:s1 / E:6",
		"p:s4 $:r2 /",
		"c:r1 $:r1 /")
	// Tokens of one level are as one.
	wantTable(t, "%token n %left p m %% E : E p E | E m E | n ;",
		"0 4",
		"n:s1 / E:2",
		"p:r3 m:r3 $:r3 /",
		"p:s3 m:s4 $:acc /",
		"n:s1 / E:5",
		"n:s1 / E:6",
		"p:r1 m:r1 $:r1 /",
		"p:r2 m:r2 $:r2 /")
	// A rule binds by its Prec.
	wantTable(t, "%token n %left m %left u %% E : E m E | m E %prec u | n ;",
		"0 2",
		"n:s1 m:s2 / E:3",
		"m:r3 $:r3 /",
		"n:s1 m:s2 / E:4",
		"m:s5 $:acc /",
		"m:r2 $:r2 /",
		"n:s1 m:s2 / E:6",
		"m:r1 $:r1 /")
}

func TestWithoutLevel(t *testing.T) {
	without := []string{
		"1 0",
		"n:s1 / E:2",
		"o:r2 $:r2 /",
		"o:s3 $:acc /",
		"n:s1 / E:4",
		"o:s3 $:r1 /",
	}
	// The token has none, the rule has one; the other way round; neither has.
	wantTable(t, "%token n o %left p %% E : E o E %prec p | n ;", without...)
	wantTable(t, "%token n o %nonassoc p %% E : E o E %prec p | n ;", without...)
	for _, kind := range []string{"%left", "%right", "%nonassoc"} {
		wantTable(t, "%token n "+kind+" o %% E : E o E %prec n | n ;", without...)
	}
	wantTable(t, "%token n o %% E : E o E | n ;", without...)
	// The end has none: of what can only be reduced or accepted nothing goes.
	wantTable(t, "%left a b %nonassoc c %% S : S %prec c | a | a %prec c ;",
		"2 0",
		"a:s1 / S:2",
		"$:r2 /",
		"$:acc /")
}

// Without a shift Levels settle nothing.
func TestRulesAlone(t *testing.T) {
	for _, precs := range [][2]string{{"lo", "hi"}, {"hi", "lo"}, {"o", "o"}, {"x", "hi"}, {"o", "lo"}} {
		for _, kind := range []string{"%left", "%right", "%nonassoc"} {
			wantTable(t, "%token x "+kind+" lo "+kind+" o "+kind+" hi %% S : A o | B o ; A : x %prec "+precs[0]+" ; B : x %prec "+precs[1]+" ;",
				"1 0",
				"x:s1 / S:2 A:3 B:4",
				"o:r3 /",
				"$:acc /",
				"o:s5 /",
				"o:s6 /",
				"$:r1 /",
				"$:r2 /")
		}
	}
}

// A shift of o and the rules 4 and 5 stand at one place; n has no level.
func TestShiftAndTwoRules(t *testing.T) {
	for _, x := range []struct {
		kind, one, two     string
		want               string
		conflicts, settled int
	}{
		{"%left", "n", "n", "s5", 2, 0},
		// One that binds less goes.
		{"%left", "lo", "n", "s5", 1, 1},
		{"%left", "n", "lo", "s5", 1, 1},
		{"%left", "lo", "lo", "s5", 0, 1},
		// By one that binds more the shift goes, and what has no level is left.
		{"%left", "hi", "n", "r4", 1, 1},
		{"%left", "n", "hi", "r4", 1, 1},
		{"%left", "hi", "hi", "r4", 1, 1},
		// The one goes by the shift, though the shift goes by the other.
		{"%left", "hi", "lo", "r4", 0, 1},
		{"%left", "lo", "hi", "r5", 0, 1},
		{"%left", "o", "lo", "r4", 0, 1},
		{"%left", "lo", "o", "r5", 0, 1},
		{"%left", "o", "o", "r4", 1, 1},
		{"%left", "o", "n", "r4", 1, 1},
		{"%left", "o", "hi", "r4", 1, 1},
		{"%right", "o", "o", "s5", 0, 1},
		{"%right", "o", "n", "s5", 1, 1},
		{"%right", "n", "o", "s5", 1, 1},
		{"%right", "o", "lo", "s5", 0, 1},
		{"%right", "o", "hi", "r5", 0, 1},
		{"%right", "hi", "o", "r4", 0, 1},
		{"%nonassoc", "o", "o", "-", 0, 1},
		{"%nonassoc", "o", "lo", "-", 0, 1},
		{"%nonassoc", "lo", "o", "-", 0, 1},
		{"%nonassoc", "o", "n", "r5", 0, 1},
		{"%nonassoc", "n", "o", "r4", 0, 1},
		{"%nonassoc", "o", "hi", "r5", 0, 1},
		{"%nonassoc", "hi", "o", "r4", 0, 1},
		{"%nonassoc", "hi", "hi", "r4", 1, 1},
		{"%nonassoc", "lo", "lo", "s5", 0, 1},
	} {
		text := "%token n x %left lo " + x.kind + " o %left hi %% S : A o | B o | x o ; A : x %prec " + x.one + " ; B : x %prec " + x.two + " ;"
		s := specOf(t, text)
		b := build(t, s)
		if got := done(b.Act(1, slices.Index(s.Names, "o"))); got != x.want || b.Conflicts() != x.conflicts || b.Settled() != x.settled {
			t.Errorf("P11.1: of %q: %s, %d, %d; want %s, %d, %d", text, got, b.Conflicts(), b.Settled(), x.want, x.conflicts, x.settled)
		}
		wantPlain(t, s)
	}
}

// The state behind x has a shift of a and of b, a rule with a, and two with b: each place counts once.
func TestSettledOfEachPlace(t *testing.T) {
	text := "%token x %left a %left b %% S : A a | B b | C b | x a | x b ; A : x %prec b ; B : x %prec a ; C : x %prec b ;"
	wantTable(t, text,
		"0 2",
		"x:s1 / S:2 A:3 B:4 C:5",
		"a:r6 b:r8 /",
		"$:acc /",
		"a:s8 /",
		"b:s9 /",
		"b:s10 /",
		"$:r4 /",
		"$:r5 /",
		"$:r1 /",
		"$:r2 /",
		"$:r3 /")
}

func TestErrors(t *testing.T) {
	// Just as many states as there may be, and one more.
	s := spec(1, 1, is(2, rowOf(118, 0)...))
	if b := build(t, s); b.Len() != 120 || b.Act(119, 1) != (api.Act{Kind: api.ActReduce, N: 1}) || b.Act(1, 0) != (api.Act{Kind: api.ActShift, N: 3}) {
		t.Errorf("P11.1: of 120 states: %d, %v, %v", b.Len(), b.Act(119, 1), b.Act(1, 0))
	}
	wantPlain(t, s)
	s = spec(1, 1, is(2, rowOf(119, 0)...))
	if b, err := Build(s); b != nil || err != api.ErrLimit {
		t.Errorf("P11.1: of 121 states: %v, %d", b, err)
	}
	// So of a grammar that means something: 25 rules, each of 4 states of its own behind two tokens of 5.
	text := "%token a b c d e %% "
	for i := range 25 {
		text += "S : " + "abcde"[i/5:i/5+1] + " " + "abcde"[i%5:i%5+1] + " a a a a ; "
	}
	if b, err := Build(specOf(t, text)); b != nil || err != api.ErrLimit {
		t.Errorf("P11.1: of a grammar of 132 states: %v, %d", b, err)
	}
}

// rows are all rows of up to n of the symbols.
func rows(n int, symbols ...int) [][]int {
	all := [][]int{nil}
	for from := 0; n > 0; n-- {
		to := len(all)
		for _, row := range all[from:to] {
			for _, symbol := range symbols {
				all = append(all, append(slices.Clone(row), symbol))
			}
		}
		from = to
	}
	return all
}

// All grammars of one Left with three rules of up to two symbols, in turn with each of the ways in which two tokens and the rules can have a Level.
func TestSmallGrammars(t *testing.T) {
	rights := rows(2, 0, 1, 3)
	conflicts, settled := 0, 0
	for n := range len(rights) * len(rights) * len(rights) {
		for from := range 3 {
			s := spec(2, 1, is(3, rights[n%13]...), is(3, rights[n/13%13]...), is(3, rights[n/169]...))
			way := 3*n + from
			for i := range 2 {
				s.Levels[i], s.Assocs[i] = way%3, 1+way/3%3
				way /= 9
			}
			for i := range 3 {
				s.Rules[i+1].Level = (n/7 + from + i*(1+n%2)) % 3
			}
			c, k := wantPlain(t, s)
			conflicts, settled = conflicts+c, settled+k
		}
	}
	if conflicts < 5000 || settled < 2000 {
		t.Errorf("only %d conflicts and %d settled were met", conflicts, settled)
	}
}

// One place with a shift and two rules, with all Levels, Assocs and lists of them.
func TestAllLevels(t *testing.T) {
	for n := range 4 * 4 * 4 * 4 * 3 {
		// x 0, o 1, the end 2, S 3, A 4, B 5, C 6
		s := spec(2, 4, is(3, 4, 1), is(3, 5, 1), is(3, 6, 1), is(3, 0, 1), is(4, 0), is(5, 0), is(6, 0))
		s.Levels[1], s.Assocs[1] = n%4, 1+n/256
		s.Rules[5].Level, s.Rules[6].Level, s.Rules[7].Level = n/4%4, n/16%4, n/64%4
		wantPlain(t, s)
	}
}

// random draws a Spec that well.Of lets through.
func random(r *rand.Rand) api.Spec {
	for {
		g := api.Gram{Start: "S"}
		tokens := []string{"a", "b", "c", "d"}[:1+r.Intn(4)]
		for _, name := range tokens {
			g.Tokens = append(g.Tokens, api.Tok{Name: name})
		}
		lefts := []string{"S", "T", "U", "V", "W"}[:1+r.Intn(5)]
		symbols := append(slices.Clone(tokens), lefts...)
		longest := 2 + r.Intn(4)
		for n := range len(lefts) + r.Intn(7) {
			rule := api.Rule{Left: lefts[(n+r.Intn(1+n))%len(lefts)]}
			for range r.Intn(longest) {
				rule.Right = append(rule.Right, symbols[r.Intn(len(symbols))])
			}
			if r.Intn(3) == 0 {
				rule.Prec = tokens[r.Intn(len(tokens))]
			}
			g.Rules = append(g.Rules, rule)
		}
		level(r, g.Tokens)
		if s, err := well.Of(g); err == api.OK {
			return s
		}
	}
}

// level draws Levels for the tokens, which have gaps at times: those well.Of does not let through.
func level(r *rand.Rand, tokens []api.Tok) {
	assocs := []int{api.AssocNone, 1 + r.Intn(3), 1 + r.Intn(3)}
	for i := range tokens {
		n := r.Intn(len(assocs))
		tokens[i].Level, tokens[i].Assoc = n, assocs[n]
	}
}

func TestRandomSpecs(t *testing.T) {
	r := rand.New(rand.NewSource(11))
	conflicts, settled := 0, 0
	for range 6000 {
		c, k := wantPlain(t, random(r))
		conflicts, settled = conflicts+c, settled+k
	}
	if conflicts < 5000 || settled < 4000 {
		t.Errorf("only %d conflicts and %d settled were met", conflicts, settled)
	}
}

// alike holds two tables against each other by all that they can be asked, for numbers below n.
func alike(a, b *Table, n int) (bool, string) {
	var unlike []string
	if a.Len() != b.Len() {
		unlike = append(unlike, "Len")
	}
	acts, gotos := true, true
	for state := -1; state < n; state++ {
		for sym := -1; sym < n; sym++ {
			acts = acts && a.Act(state, sym) == b.Act(state, sym)
			gotos = gotos && a.Goto(state, sym) == b.Goto(state, sym)
		}
	}
	if !acts {
		unlike = append(unlike, "Act")
	}
	if !gotos {
		unlike = append(unlike, "Goto")
	}
	if a.Conflicts() != b.Conflicts() {
		unlike = append(unlike, "Conflicts")
	}
	if a.Settled() != b.Settled() {
		unlike = append(unlike, "Settled")
	}
	return unlike == nil, strings.Join(unlike, " ")
}

func TestEqOfOneUnlike(t *testing.T) {
	text := func(s string) api.Spec {
		t.Helper()
		return specOf(t, s)
	}
	// q 0, p 1, x 2, o 3, the end 4, S 5, X 6, Z 7, R 8; 99 is no symbol, and nothing is done ahead of it.
	long := spec(4, 4, is(5, 0, 7), is(5, 1, 7), is(5, 1, 6), is(5, 6), is(6, 2, 3, 99), is(7, 8, 3), is(8, 2), is(5, 1, 2, 3, 99))
	long.Levels[3], long.Assocs[3], long.Rules[7].Level = 1, api.AssocLeft, 2
	short := long
	short.Rules = long.Rules[:8]
	for _, x := range []struct {
		what string
		a, b api.Spec
	}{
		{"Len", long, short},
		{"Act", text("%token n %left o %% E : E o E | n ;"), text("%token n %right o %% E : E o E | n ;")},
		{"Act", text("%token n %left o %% E : E o E | n ;"), text("%token n %nonassoc o %% E : E o E | n ;")},
		{"Goto", spec(1, 3, is(2, 3, 4), is(3), is(4)), spec(1, 3, is(2, 4, 3), is(4), is(3))},
		{"Conflicts", text("%token a %% S : a ;"), text("%token a %% S : a | a ;")},
		{"Settled", text("%token n o %% S : E ; E : E o E | n ;"), text("%token n %right o %% S : E ; E : E o E | n ; S : E ;")},
		{"Conflicts Settled", text("%token n o %% E : E o E | n ;"), text("%token n %right o %% E : E o E | n ;")},
	} {
		a, b := build(t, x.a), build(t, x.b)
		if _, unlike := alike(a, b, 30); unlike != x.what {
			t.Errorf("%v and %v are unlike in %q, not in %q", x.a, x.b, unlike, x.what)
		}
		if Eq(a, b) || Eq(b, a) {
			t.Errorf("P11.1: Eq of %v and %v, which are unlike in %s: %v, %v", x.a, x.b, x.what, Eq(a, b), Eq(b, a))
		}
		if !Eq(a, a) || !Eq(b, b) || !Eq(a, build(t, x.a)) || !Eq(build(t, x.b), b) {
			t.Errorf("P11.1: %v or %v is not Eq to one alike", x.a, x.b)
		}
	}
}

func TestEqOfSpecsThatAreUnlike(t *testing.T) {
	// Other names, other Levels that settle nothing or the same, another Expect.
	for _, x := range [][2]string{
		{"%token a %% S : a ;", "%token b %% T : b ;"},
		{"%token a %% S : a ;", "%expect 3 %left a %% S : a ;"},
		{"%token n %left p %left t %% E : E p E | E t E | n ;", "%left n p %left t %% E : E p E | E t E | n ;"},
		{"%token n %left p %nonassoc t %% E : E p E | t ;", "%token n %left p %nonassoc t %% E : E p E %prec t | t ;"},
	} {
		a, b := build(t, specOf(t, x[0])), build(t, specOf(t, x[1]))
		if _, unlike := alike(a, b, 30); unlike != "" || !Eq(a, b) || !Eq(b, a) {
			t.Errorf("P11.1: Eq of %q and %q, unlike in %q: %v, %v", x[0], x[1], unlike, Eq(a, b), Eq(b, a))
		}
	}
	// A Left that no rule holds can't be told.
	if a, b := build(t, spec(1, 1, is(2, 0))), build(t, spec(1, 2, is(2, 0))); !Eq(a, b) || !Eq(b, a) {
		t.Errorf("P11.1: by a Left that no rule holds tables are unlike")
	}
}

func TestEqOfMany(t *testing.T) {
	r := rand.New(rand.NewSource(12))
	tables := []*Table{nil, {}}
	for len(tables) < 150 {
		if b, err := Build(random(r)); err == api.OK && b.Len() < 12 {
			tables = append(tables, b)
		}
	}
	same := 0
	for _, a := range tables {
		for _, b := range tables {
			want, unlike := alike(a, b, 14)
			if got := Eq(a, b); got != want {
				t.Fatalf("P11.1: Eq of %v and %v, which are unlike in %q: %v", a, b, unlike, got)
			}
			if want {
				same++
			}
		}
	}
	if same <= len(tables) || same == len(tables)*len(tables) {
		t.Errorf("%d pairs of %d tables are alike", same, len(tables))
	}
}

func TestNil(t *testing.T) {
	var none *Table
	numbers := append([]int{0, 1, 2}, strange...)
	for _, b := range []*Table{none, {}} {
		if b.Len() != 0 || b.Conflicts() != 0 || b.Settled() != 0 {
			t.Errorf("P11.1: of nil: %d, %d, %d", b.Len(), b.Conflicts(), b.Settled())
		}
		for _, state := range numbers {
			for _, sym := range numbers {
				if act, to := b.Act(state, sym), b.Goto(state, sym); act != (api.Act{}) || to != -1 {
					t.Errorf("P11.1: of nil and (%d, %d): %v, %d", state, sym, act, to)
				}
			}
		}
	}
	b := build(t, specOf(t, "%% S : ;"))
	if !Eq(none, nil) || Eq(none, b) || Eq(b, none) {
		t.Errorf("P11.1: Eq of nil: %v, %v, %v", Eq(none, nil), Eq(none, b), Eq(b, none))
	}
}

const sums = "%token n %left p %left t %token l r %% E : E p E | E t E | l E r | n | ;"

// spoil writes over a list and its spare room.
func spoil[T any](list []T) {
	clear(list[:cap(list)])
}

func TestNothingIsChangedOrKept(t *testing.T) {
	s := specOf(t, sums)
	names := s
	names.Names = slices.Clone(s.Names)
	rooms := make([][]int, len(s.Rules))
	rules := append(slices.Clone(s.Rules), is(88, 88), is(89, 89))
	for i, r := range s.Rules {
		rooms[i] = append(slices.Clone(r.Right), 77, 78)
		rules[i].Right = rooms[i][:len(r.Right)]
	}
	levels, assocs := append(slices.Clone(s.Levels), 75, 76), append(slices.Clone(s.Assocs), 73, 74)
	handed := s
	handed.Rules, handed.Levels, handed.Assocs = rules[:len(s.Rules)], levels[:s.Tokens], assocs[:s.Tokens]
	b := build(t, handed)
	if got, want := fmt.Sprint(handed), fmt.Sprint(s); got != want {
		t.Errorf("P0.3: Build made %s of %s", got, want)
	}
	for i, r := range s.Rules {
		if !slices.Equal(rooms[i], append(slices.Clone(r.Right), 77, 78)) {
			t.Errorf("P0.3: Build changed the room behind the rule %d: %v", i, rooms[i])
		}
	}
	if got := fmt.Sprint(rules[len(s.Rules):]); got != fmt.Sprint([]api.SRule{is(88, 88), is(89, 89)}) {
		t.Errorf("P0.3: Build changed the room behind the rules: %s", got)
	}
	if !slices.Equal(levels[s.Tokens:], []int{75, 76}) || !slices.Equal(assocs[s.Tokens:], []int{73, 74}) {
		t.Errorf("P0.3: Build changed the room behind the levels: %v, %v", levels, assocs)
	}
	other := build(t, names)
	before := lines(other, names)
	if !slices.Equal(before, lines(b, names)) || !Eq(b, other) {
		t.Fatal("P0.5: two of one Spec are unlike")
	}
	for _, room := range rooms {
		spoil(room)
	}
	for i := range rules {
		rules[i] = is(99, 98, 97)
	}
	spoil(levels)
	spoil(assocs)
	spoil(s.Names)
	conflicts, settled := b.Conflicts(), b.Settled()
	if !slices.Equal(before, lines(b, names)) || !Eq(b, other) || conflicts != other.Conflicts() || settled != other.Settled() {
		t.Error("P0.3: Build keeps what it is handed")
	}
}

// What is told does not hang on what was asked before, nor on what else was made.
func TestAskedInAnyOrder(t *testing.T) {
	s := specOf(t, sums)
	b := build(t, s)
	before := lines(b, s)
	for state := b.Len(); state >= -1; state-- {
		for sym := len(s.Names); sym >= -1; sym-- {
			b.Goto(state, sym)
			b.Act(state, sym)
			x := build(t, spec(1, 1, is(2, rowOf(sym+1, 0)...)))
			Eq(x, b)
		}
		if !slices.Equal(lines(b, s), before) {
			t.Fatalf("P0.5: behind questions of %d other things are told", state)
		}
	}
	for range 50 {
		x := build(t, s)
		if !slices.Equal(lines(x, s), before) || !Eq(x, b) {
			t.Fatal("P0.5: two of one Spec are unlike")
		}
	}
}

func TestNilIsEmpty(t *testing.T) {
	s := spec(1, 1, is(2), is(2, 0))
	s.Rules[1].Right = nil
	nothing := build(t, s)
	s.Rules[1].Right = []int{}
	if empty := build(t, s); !Eq(nothing, empty) || nothing.Act(0, 1) != (api.Act{Kind: api.ActReduce, N: 1}) {
		t.Errorf("P0.4: of nil %v, of an empty list %v", nothing, empty)
	}
	s = api.Spec{Rules: []api.SRule{{Left: -1}}}
	nothing = build(t, s)
	s.Names, s.Levels, s.Assocs, s.Rules[0].Right = []string{}, []int{}, []int{}, []int{}
	if empty := build(t, s); !Eq(nothing, empty) {
		t.Errorf("P0.4: of nil %v, of empty lists %v", nothing, empty)
	}
	s = api.Spec{}
	nothing = build(t, s)
	s.Rules = []api.SRule{}
	if empty := build(t, s); !Eq(nothing, empty) || empty.Len() != 1 {
		t.Errorf("P0.4: of no rules %v, of an empty list of them %v", nothing, empty)
	}
}

func TestLongSpecs(t *testing.T) {
	// As many rules as there may be, of one Level and of others, at a place with a shift.
	const many = 1 << 16
	s := spec(1, 1, is(2, 0, 0))
	for range many {
		s.Rules = append(s.Rules, is(2, 0))
	}
	b := build(t, s)
	if b.Conflicts() != many-1 || b.Act(1, 1) != (api.Act{Kind: api.ActReduce, N: 2}) || b.Act(1, 0) != (api.Act{Kind: api.ActShift, N: 3}) {
		t.Errorf("P11.1: of many rules: %d, %v, %v", b.Conflicts(), b.Act(1, 1), b.Act(1, 0))
	}
	// x 0, o 1, the end 2, S 3, A 4: behind x the rules of the Level 1 go, and by those of the Level 2 the shift of o.
	s = spec(2, 2, is(3, 0, 1), is(3, 4, 1))
	s.Levels[1], s.Assocs[1] = 1, api.AssocRight
	for i := range many {
		s.Rules = append(s.Rules, api.SRule{Left: 4, Right: []int{0}, Level: 1 + i%2})
	}
	b = build(t, s)
	if b.Act(1, 1) != (api.Act{Kind: api.ActReduce, N: 4}) || b.Conflicts() != many/2-1 || b.Settled() != 1 {
		t.Errorf("P11.1: of many rules of two Levels: %v, %d, %d", b.Act(1, 1), b.Conflicts(), b.Settled())
	}
	// Many tokens and Lefts that no rule holds, and rules that no state has.
	s = spec(30000, 30000, is(30001))
	for i := range 29999 {
		s.Rules = append(s.Rules, is(30002+i, 30002+(i*7919)%29999, i))
	}
	s.Rules = append(s.Rules, is(30002, rowOf(1<<20, 30001)...))
	b = build(t, s)
	if b.Len() != 2 || b.Act(0, 30000) != (api.Act{Kind: api.ActReduce, N: 1}) || b.Act(1, 30000) != (api.Act{Kind: api.ActAccept}) || b.Goto(0, 30001) != 1 || b.Goto(0, 30002) != -1 {
		t.Errorf("P11.1: where most rules are not used: %d, %v, %v, %d, %d", b.Len(), b.Act(0, 30000), b.Act(1, 30000), b.Goto(0, 30001), b.Goto(0, 30002))
	}
}

// Of what is no Spec nothing is promised but that the calls end, and what the chapter's words say of its states.
func TestWhatIsNoSpec(t *testing.T) {
	numbers := []int{math.MinInt, math.MinInt + 1, -1 << 40, -2, -1, 0, 1, 2, 3, 4, 22, 23, 24, 1 << 20, 1 << 40, math.MaxInt - 1, math.MaxInt}
	rights := [][]int{nil, {0}, {1, 2, 3}, {-1}, {math.MinInt}, {math.MaxInt, 0}, {4, 5, 6}, {3, -7, 2}, {4, 3, 4, 22}}
	names := [][]string{nil, make([]string, 4), make([]string, 30)}
	levels := [][]int{nil, {1}, {math.MinInt, math.MaxInt, 1}, {2, 1, 0, -1, 5, 3}}
	for _, tokens := range numbers {
		for _, nts := range numbers {
			for n, start := range numbers {
				s := api.Spec{Tokens: tokens, NTs: nts, Start: start, Names: names[n%3], Levels: levels[n%4], Assocs: levels[n/4%4]}
				s.Rules = append(s.Rules, is(-1, rights[n%len(rights)]...))
				for i, left := range numbers {
					for _, right := range rights {
						s.Rules = append(s.Rules, api.SRule{Left: left, Right: right, Level: numbers[(i+n)%len(numbers)], Assoc: start})
					}
				}
				b, _ := Build(s)
				for _, x := range numbers {
					b.Act(x, start)
					b.Goto(start, x)
					if below := b.Act(0, -1-max(x, 0)); below != (api.Act{}) {
						t.Fatalf("P11.1: of %v and %d, which is no symbol: %v", s, -1-max(x, 0), below)
					}
				}
			}
		}
	}
}

func TestOddSpecs(t *testing.T) {
	// The whole is accepted wherever the end is.
	for _, tokens := range []int{0, 1, 50, 1 << 40, math.MaxInt} {
		s := api.Spec{Tokens: tokens, Rules: []api.SRule{{Left: -1}}}
		b := build(t, s)
		if got := b.Act(0, tokens); got != (api.Act{Kind: api.ActAccept}) || b.Act(0, tokens-1) != (api.Act{}) {
			t.Errorf("P11.1: with the end %d: %v", tokens, got)
		}
	}
	// The end can be shifted where it leads somewhere, and is no token.
	s := spec(1, 1, is(2, 0, 1), is(2, 0))
	s.Levels = []int{1, 5}
	s.Rules[2].Level = 1
	b := build(t, s)
	if b.Act(1, 1) != (api.Act{Kind: api.ActShift, N: 3}) || b.Goto(1, 1) != 3 || b.Conflicts() != 1 || b.Settled() != 0 {
		t.Errorf("P11.1: where the end leads on: %v, %d, %d, %d", b.Act(1, 1), b.Goto(1, 1), b.Conflicts(), b.Settled())
	}
	// Lists of Levels that are short are as those of none; a Level below 0 is none; another Assoc settles nothing.
	for _, x := range []struct {
		levels, assocs     []int
		rule               int
		want               string
		conflicts, settled int
	}{
		{nil, nil, 3, "s3", 1, 0},
		{[]int{0}, nil, 3, "s3", 1, 0},
		{[]int{0, -1}, []int{0, 1}, 3, "s3", 1, 0},
		{[]int{0, 3}, []int{0, 1}, -3, "s3", 1, 0},
		{[]int{0, 3}, nil, 3, "s3", 1, 0},
		{[]int{0, 3}, []int{2}, 3, "s3", 1, 0},
		{[]int{0, 3}, []int{0, 7}, 3, "s3", 1, 0},
		{[]int{0, 3}, []int{0, -1}, 3, "s3", 1, 0},
		{[]int{0, 3}, []int{0, 0}, 3, "s3", 1, 0},
		{[]int{0, 3}, nil, 4, "r1", 0, 1},
		{[]int{0, 3}, nil, 2, "s3", 0, 1},
		{[]int{0, math.MaxInt}, []int{0, 1}, math.MaxInt, "r1", 0, 1},
		{[]int{0, math.MaxInt, 7}, []int{0, 2, 7}, math.MaxInt, "s3", 0, 1},
		{[]int{0, math.MaxInt}, []int{0, 2}, math.MaxInt - 1, "s3", 0, 1},
	} {
		// n 0, o 1, the end 2, E 3
		s := spec(2, 1, is(3, 3, 1, 3), is(3, 0))
		s.Levels, s.Assocs, s.Rules[1].Level = x.levels, x.assocs, x.rule
		b := build(t, s)
		state := b.Goto(3, 3)
		if got := done(b.Act(state, 1)); got != x.want || b.Conflicts() != x.conflicts || b.Settled() != x.settled {
			t.Errorf("P11.1: of the Levels %v, Assocs %v and a rule of %d: %s, %d, %d", x.levels, x.assocs, x.rule, got, b.Conflicts(), b.Settled())
		}
	}
}
