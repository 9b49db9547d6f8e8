package auto

import (
	"fmt"
	"math"
	"math/rand"
	"slices"
	"strconv"
	"strings"
	"testing"

	"donatus/api"
	"donatus/read"
	"donatus/well"
)

// specOf is the Spec of the grammar that the text writes.
func specOf(t *testing.T, text string) api.Spec {
	t.Helper()
	g, f := read.Read(text)
	if f != (api.Fault{}) {
		t.Fatalf("Read(%q): %v", text, f)
	}
	s, err := well.Of(g)
	if err != api.OK {
		t.Fatalf("well.Of(%q): %d", text, err)
	}
	return s
}

// spec has tokens and Lefts without names, and the first Left as Start.
func spec(tokens, nts int, rules ...api.SRule) api.Spec {
	whole := is(-1, tokens+1)
	return api.Spec{
		Tokens: tokens, NTs: nts, Start: tokens + 1, Names: make([]string, tokens+1+nts),
		Levels: make([]int, tokens), Assocs: make([]int, tokens), Rules: append([]api.SRule{whole}, rules...),
	}
}

func is(left int, right ...int) api.SRule {
	return api.SRule{Left: left, Right: right}
}

// dotted tells items as rule.dot.
func dotted(items []api.Item) string {
	var l []string
	for _, x := range items {
		l = append(l, strconv.Itoa(x.Rule)+"."+strconv.Itoa(x.Dot))
	}
	return strings.Join(l, " ")
}

// line tells a state: its kernel, its closure, and where each symbol leads from it.
func line(a *Auto, s api.Spec, i int) string {
	var goes []string
	for symbol, name := range s.Names {
		if to := a.Go(i, symbol); to != -1 {
			goes = append(goes, name+strconv.Itoa(to))
		}
	}
	return strings.TrimSpace(dotted(a.Kernel(i)) + " / " + dotted(a.Items(i)) + " / " + strings.Join(goes, " "))
}

func lines(a *Auto, s api.Spec) []string {
	var l []string
	for i := range a.Len() {
		l = append(l, line(a, s, i))
	}
	return l
}

// wantStates holds the states of the text's grammar against want, in which each state is a line: its kernel / its closure / where symbols lead.
func wantStates(t *testing.T, text string, want ...string) {
	t.Helper()
	s := specOf(t, text)
	a, err := Build(s)
	if err != api.OK || a == nil {
		t.Errorf("P9.1: Build(%q): %v, %d", text, a, err)
		return
	}
	got := lines(a, s)
	if a.Len() != len(want) || !slices.Equal(got, want) {
		t.Errorf("P9.1: of %q\n     %s\nwant %s", text, strings.Join(got, "\n     "), strings.Join(want, "\n     "))
	}
	if wrong := noSymbols(a, s); wrong != "" {
		t.Errorf("P9.1: of %q: %s", text, wrong)
	}
}

var strange = []int{math.MinInt, math.MinInt + 1, -1 << 40, -121, -2, -1, 120, 121, 1 << 31, 1 << 32, 1 << 40, math.MaxInt - 1, math.MaxInt}

// noSymbols tells of what is answered otherwise than it must be of numbers that are no state or no symbol; a has no more than 100 states, s no more than 100 symbols.
func noSymbols(a *Auto, s api.Spec) string {
	for _, i := range append(strange, a.Len(), a.Len()+1) {
		if a.Kernel(i) != nil || a.Items(i) != nil {
			return fmt.Sprintf("of %d, which is no state: %v, %v", i, a.Kernel(i), a.Items(i))
		}
		for symbol := -2; symbol < len(s.Names)+2; symbol++ {
			if to := a.Go(i, symbol); to != -1 {
				return fmt.Sprintf("Go(%d, %d), of what is no state: %d", i, symbol, to)
			}
		}
	}
	for i := range a.Len() {
		for _, symbol := range append(strange, s.Tokens, len(s.Names), len(s.Names)+1) {
			if to := a.Go(i, symbol); to != -1 {
				return fmt.Sprintf("Go(%d, %d), of what is no symbol, or the end: %d", i, symbol, to)
			}
		}
	}
	return ""
}

func TestFirstState(t *testing.T) {
	// Its kernel is the rule of the whole, whichever Left is Start and wherever its rules stand.
	wantStates(t, "%token a %% S : a ;",
		"0.0 / 0.0 1.0 / a1 S2",
		"1.1 / 1.1 /",
		"0.1 / 0.1 /")
	wantStates(t, "%token a b %start S %% A : a ; S : A b ;",
		"0.0 / 0.0 1.0 2.0 / a1 A2 S3",
		"1.1 / 1.1 /",
		"2.1 / 2.1 / b4",
		"0.1 / 0.1 /",
		"2.2 / 2.2 /")
	wantStates(t, "%token a b %start S %% A : a S ; S : b | A b ;",
		"0.0 / 0.0 1.0 2.0 3.0 / a1 b2 A3 S4",
		"1.1 / 1.0 1.1 2.0 3.0 / a1 b2 A3 S5",
		"2.1 / 2.1 /",
		"3.1 / 3.1 / b6",
		"0.1 / 0.1 /",
		"1.2 / 1.2 /",
		"3.2 / 3.2 /")
	// A Left that Start does not begin with is not in its closure.
	wantStates(t, "%token a b %% S : b A ; A : a ;",
		"0.0 / 0.0 1.0 / b1 S2",
		"1.1 / 1.1 2.0 / a3 A4",
		"0.1 / 0.1 /",
		"2.1 / 2.1 /",
		"1.2 / 1.2 /")
}

func TestNumbersOfStates(t *testing.T) {
	// By symbols in the order of their numbers, not of the rules: tokens ahead of Lefts.
	wantStates(t, "%token a b c %% S : A | c | b | a ; A : b a ;",
		"0.0 / 0.0 1.0 2.0 3.0 4.0 5.0 / a1 b2 c3 S4 A5",
		"4.1 / 4.1 /",
		"3.1 5.1 / 3.1 5.1 / a6",
		"2.1 / 2.1 /",
		"0.1 / 0.1 /",
		"1.1 / 1.1 /",
		"5.2 / 5.2 /")
	// Lefts by when they first come as Lefts, not by where rules hold them.
	wantStates(t, "%token a b %% S : B | A ; A : a ; B : b ;",
		"0.0 / 0.0 1.0 2.0 3.0 4.0 / a1 b2 S3 A4 B5",
		"3.1 / 3.1 /",
		"4.1 / 4.1 /",
		"0.1 / 0.1 /",
		"2.1 / 2.1 /",
		"1.1 / 1.1 /")
	// Start does not come first if its rules do not.
	wantStates(t, "%token a %start B %% A : a ; B : A A ;",
		"0.0 / 0.0 1.0 2.0 / a1 A2 B3",
		"1.1 / 1.1 /",
		"2.1 / 1.0 2.1 / a1 A4",
		"0.1 / 0.1 /",
		"2.2 / 2.2 /")
	// Of each state all symbols, ahead of those of the next: not down first.
	wantStates(t, "%token a b %% S : a a b | b b a ;",
		"0.0 / 0.0 1.0 2.0 / a1 b2 S3",
		"1.1 / 1.1 / a4",
		"2.1 / 2.1 / b5",
		"0.1 / 0.1 /",
		"1.2 / 1.2 / b6",
		"2.2 / 2.2 / a7",
		"1.3 / 1.3 /",
		"2.3 / 2.3 /")
	// A Left that stands behind a token in a rule: its state comes in the token's state's turn, behind what the tokens there lead to.
	wantStates(t, "%token a b c %% S : a A c | b ; A : c A | b ;",
		"0.0 / 0.0 1.0 2.0 / a1 b2 S3",
		"1.1 / 1.1 3.0 4.0 / b4 c5 A6",
		"2.1 / 2.1 /",
		"0.1 / 0.1 /",
		"4.1 / 4.1 /",
		"3.1 / 3.0 3.1 4.0 / b4 c5 A7",
		"1.2 / 1.2 / c8",
		"3.2 / 3.2 /",
		"1.3 / 1.3 /")
}

func TestStatesThatAreThere(t *testing.T) {
	// A state that leads to itself.
	wantStates(t, "%token a b %% S : a S | b ;",
		"0.0 / 0.0 1.0 2.0 / a1 b2 S3",
		"1.1 / 1.0 1.1 2.0 / a1 b2 S4",
		"2.1 / 2.1 /",
		"0.1 / 0.1 /",
		"1.2 / 1.2 /")
	// By a Left.
	wantStates(t, "%token a %% S : S S | a ;",
		"0.0 / 0.0 1.0 2.0 / a1 S2",
		"2.1 / 2.1 /",
		"0.1 1.1 / 0.1 1.0 1.1 2.0 / a1 S3",
		"1.1 1.2 / 1.0 1.1 1.2 2.0 / a1 S3")
	// One that was found earlier, one that has a greater number, and one that this state found.
	wantStates(t, "%token a b %% S : a T | b U ; T : b ; U : b | a T ;",
		"0.0 / 0.0 1.0 2.0 / a1 b2 S3",
		"1.1 / 1.1 3.0 / b4 T5",
		"2.1 / 2.1 4.0 5.0 / a6 b7 U8",
		"0.1 / 0.1 /",
		"3.1 / 3.1 /",
		"1.2 / 1.2 /",
		"5.1 / 3.0 5.1 / b4 T9",
		"4.1 / 4.1 /",
		"2.2 / 2.2 /",
		"5.2 / 5.2 /")
	// Kernels count as one by all of their items: these begin alike, and are of unlike length.
	wantStates(t, "%token a b %% S : a a | a b | b T ; T : a ;",
		"0.0 / 0.0 1.0 2.0 3.0 / a1 b2 S3",
		"1.1 2.1 / 1.1 2.1 / a4 b5",
		"3.1 / 3.1 4.0 / a6 T7",
		"0.1 / 0.1 /",
		"1.2 / 1.2 /",
		"2.2 / 2.2 /",
		"4.1 / 4.1 /",
		"3.2 / 3.2 /")
	wantStates(t, "%token a b c %% S : a T | b U ; T : c | c a ; U : T | c b ;",
		"0.0 / 0.0 1.0 2.0 / a1 b2 S3",
		"1.1 / 1.1 3.0 4.0 / c4 T5",
		"2.1 / 2.1 3.0 4.0 5.0 6.0 / c6 T7 U8",
		"0.1 / 0.1 /",
		"3.1 4.1 / 3.1 4.1 / a9",
		"1.2 / 1.2 /",
		"3.1 4.1 6.1 / 3.1 4.1 6.1 / a9 b10",
		"5.1 / 5.1 /",
		"2.2 / 2.2 /",
		"4.2 / 4.2 /",
		"6.2 / 6.2 /")
	// Rules alike are two still.
	wantStates(t, "%token a %% S : a | a ;",
		"0.0 / 0.0 1.0 2.0 / a1 S2",
		"1.1 2.1 / 1.1 2.1 /",
		"0.1 / 0.1 /")
}

func TestOrderOfItems(t *testing.T) {
	// Kernels of one rule with several dots, and of several rules, each by rule ahead of dot.
	wantStates(t, "%token a %% S : a a a | S S ;",
		"0.0 / 0.0 1.0 2.0 / a1 S2",
		"1.1 / 1.1 / a3",
		"0.1 2.1 / 0.1 1.0 2.0 2.1 / a1 S4",
		"1.2 / 1.2 / a5",
		"2.1 2.2 / 1.0 2.0 2.1 2.2 / a1 S4",
		"1.3 / 1.3 /")
	wantStates(t, "%token a b %% S : b T T a ; T : a | T T b | T T a ;",
		"0.0 / 0.0 1.0 / b1 S2",
		"1.1 / 1.1 2.0 3.0 4.0 / a3 T4",
		"0.1 / 0.1 /",
		"2.1 / 2.1 /",
		"1.2 3.1 4.1 / 1.2 2.0 3.0 3.1 4.0 4.1 / a3 T5",
		"1.3 3.1 3.2 4.1 4.2 / 1.3 2.0 3.0 3.1 3.2 4.0 4.1 4.2 / a6 b7 T8",
		"1.4 2.1 4.3 / 1.4 2.1 4.3 /",
		"3.3 / 3.3 /",
		"3.1 3.2 4.1 4.2 / 2.0 3.0 3.1 3.2 4.0 4.1 4.2 / a9 b7 T8",
		"2.1 4.3 / 2.1 4.3 /")
	// What the closure brings goes ahead of the kernel where its rules stand ahead, whichever Left brought it.
	wantStates(t, "%token a b c %start U %% S : a ; T : S ; U : T | b U ;",
		"0.0 / 0.0 1.0 2.0 3.0 4.0 / a1 b2 S3 T4 U5",
		"1.1 / 1.1 /",
		"4.1 / 1.0 2.0 3.0 4.0 4.1 / a1 b2 S3 T4 U6",
		"2.1 / 2.1 /",
		"3.1 / 3.1 /",
		"0.1 / 0.1 /",
		"4.2 / 4.2 /")
	// Rules of one Left between those of others.
	wantStates(t, "%token a b %% S : T ; T : a ; S : b S ; T : b ; S : a ;",
		"0.0 / 0.0 1.0 2.0 3.0 4.0 5.0 / a1 b2 S3 T4",
		"2.1 5.1 / 2.1 5.1 /",
		"3.1 4.1 / 1.0 2.0 3.0 3.1 4.0 4.1 5.0 / a1 b2 S5 T4",
		"0.1 / 0.1 /",
		"1.1 / 1.1 /",
		"3.2 / 3.2 /")
}

func TestClosure(t *testing.T) {
	// Lefts that stand first in one another's rules, and in their own.
	wantStates(t, "%token a b c %% S : T a | c ; T : U b ; U : S c | T ;",
		"0.0 / 0.0 1.0 2.0 3.0 4.0 5.0 / c1 S2 T3 U4",
		"2.1 / 2.1 /",
		"0.1 4.1 / 0.1 4.1 / c5",
		"1.1 5.1 / 1.1 5.1 / a6",
		"3.1 / 3.1 / b7",
		"4.2 / 4.2 /",
		"1.2 / 1.2 /",
		"3.2 / 3.2 /")
	// Only what the dot stands ahead of: not what stands behind it, even where it can be empty.
	wantStates(t, "%token a %% S : T U ; T : ; U : a | T ;",
		"0.0 / 0.0 1.0 2.0 / S1 T2",
		"0.1 / 0.1 /",
		"1.1 / 1.1 2.0 3.0 4.0 / a3 T4 U5",
		"3.1 / 3.1 /",
		"4.1 / 4.1 /",
		"1.2 / 1.2 /")
	// Rules of nothing stand in closures, and lead nowhere: the only one, several, between others.
	wantStates(t, "%% S : ;",
		"0.0 / 0.0 1.0 / S1",
		"0.1 / 0.1 /")
	wantStates(t, "%% S : | ;",
		"0.0 / 0.0 1.0 2.0 / S1",
		"0.1 / 0.1 /")
	wantStates(t, "%token a %% S : a S | | T S ; T : a | ;",
		"0.0 / 0.0 1.0 2.0 3.0 4.0 5.0 / a1 S2 T3",
		"1.1 4.1 / 1.0 1.1 2.0 3.0 4.0 4.1 5.0 / a1 S4 T3",
		"0.1 / 0.1 /",
		"3.1 / 1.0 2.0 3.0 3.1 4.0 5.0 / a1 S5 T3",
		"1.2 / 1.2 /",
		"3.2 / 3.2 /")
	// Dots behind all bring nothing, also beside others.
	wantStates(t, "%token a b %% S : a | a S | a b ;",
		"0.0 / 0.0 1.0 2.0 3.0 / a1 S2",
		"1.1 2.1 3.1 / 1.0 1.1 2.0 2.1 3.0 3.1 / a1 b3 S4",
		"0.1 / 0.1 /",
		"3.2 / 3.2 /",
		"2.2 / 2.2 /")
	// Levels, a Prec and Expect say nothing here.
	wantStates(t, "%left a %right b %expect 3 %token a b %% S : S a S %prec b | b ;",
		"0.0 / 0.0 1.0 2.0 / b1 S2",
		"2.1 / 2.1 /",
		"0.1 1.1 / 0.1 1.1 / a3",
		"1.2 / 1.0 1.2 2.0 / b1 S4",
		"1.1 1.3 / 1.1 1.3 / a3")
}

func TestKnownGrammar(t *testing.T) {
	wantStates(t, "%token n p t l r %% E : E p T | T ; T : T t F | F ; F : l E r | n ;",
		"0.0 / 0.0 1.0 2.0 3.0 4.0 5.0 6.0 / n1 l2 E3 T4 F5",
		"6.1 / 6.1 /",
		"5.1 / 1.0 2.0 3.0 4.0 5.0 5.1 6.0 / n1 l2 E6 T4 F5",
		"0.1 1.1 / 0.1 1.1 / p7",
		"2.1 3.1 / 2.1 3.1 / t8",
		"4.1 / 4.1 /",
		"1.1 5.2 / 1.1 5.2 / p7 r9",
		"1.2 / 1.2 3.0 4.0 5.0 6.0 / n1 l2 T10 F5",
		"3.2 / 3.2 5.0 6.0 / n1 l2 F11",
		"5.3 / 5.3 /",
		"1.3 3.1 / 1.3 3.1 / t8",
		"3.3 / 3.3 /")
}

// Tokens without rules that hold them lead nowhere, from no state.
func TestTokensThatNoRuleHolds(t *testing.T) {
	wantStates(t, "%token a b c %% S : b ;",
		"0.0 / 0.0 1.0 / b1 S2",
		"1.1 / 1.1 /",
		"0.1 / 0.1 /")
	wantStates(t, "%token a %% S : ;",
		"0.0 / 0.0 1.0 / S1",
		"0.1 / 0.1 /")
}

// plain has the states by the chapter's words, one by one.
type plain struct {
	kernels, items [][]api.Item
	goes           [][]int
}

func plainOf(s api.Spec) plain {
	p := plain{kernels: [][]api.Item{{{Rule: 0, Dot: 0}}}}
	for i := 0; i < len(p.kernels) && len(p.kernels) <= 120; i++ {
		items := plainClosure(s, p.kernels[i])
		goes := []int{}
		for symbol := range s.Tokens + 1 + s.NTs {
			goes = append(goes, p.lead(plainKernel(s, items, symbol)))
		}
		p.items, p.goes = append(p.items, items), append(p.goes, goes)
	}
	return p
}

func (p *plain) lead(kernel []api.Item) int {
	if len(kernel) == 0 {
		return -1
	}
	i := slices.IndexFunc(p.kernels, func(k []api.Item) bool { return slices.Equal(k, kernel) })
	if i < 0 {
		p.kernels = append(p.kernels, kernel)
		return len(p.kernels) - 1
	}
	return i
}

// allItems are all that a Spec has, by rule, then dot.
func allItems(s api.Spec) []api.Item {
	var l []api.Item
	for i, r := range s.Rules {
		for dot := range len(r.Right) + 1 {
			l = append(l, api.Item{Rule: i, Dot: dot})
		}
	}
	return l
}

func standsAhead(s api.Spec, x api.Item, symbol int) bool {
	right := s.Rules[x.Rule].Right
	return x.Dot < len(right) && right[x.Dot] == symbol
}

func plainClosure(s api.Spec, kernel []api.Item) []api.Item {
	in := map[api.Item]bool{}
	for _, x := range kernel {
		in[x] = true
	}
	for grown := true; grown; {
		grown = false
		for _, x := range allItems(s) {
			for rule, r := range s.Rules {
				first := api.Item{Rule: rule, Dot: 0}
				if in[x] && r.Left > s.Tokens && standsAhead(s, x, r.Left) && !in[first] {
					in[first], grown = true, true
				}
			}
		}
	}
	return slices.DeleteFunc(allItems(s), func(x api.Item) bool { return !in[x] })
}

func plainKernel(s api.Spec, items []api.Item, symbol int) []api.Item {
	return slices.DeleteFunc(allItems(s), func(x api.Item) bool {
		behind := api.Item{Rule: x.Rule, Dot: x.Dot - 1}
		return x.Dot == 0 || !slices.Contains(items, behind) || !standsAhead(s, behind, symbol)
	})
}

func wantPlain(t *testing.T, s api.Spec) {
	t.Helper()
	a, err := Build(s)
	p := plainOf(s)
	if len(p.kernels) > 120 {
		if err != api.ErrLimit || a != nil {
			t.Fatalf("P9.1: of %v, which has more than 120 states: %d, %d", s.Rules, a.Len(), err)
		}
		return
	}
	if err != api.OK || a == nil || a.Len() != len(p.kernels) {
		t.Fatalf("P9.1: Build(%v): %d states, %d; want %d", s.Rules, a.Len(), err, len(p.kernels))
	}
	for i := range p.kernels {
		if !slices.Equal(a.Kernel(i), p.kernels[i]) || !slices.Equal(a.Items(i), p.items[i]) {
			t.Fatalf("P9.1: of %v, state %d: %v, %v; want %v, %v", s.Rules, i, a.Kernel(i), a.Items(i), p.kernels[i], p.items[i])
		}
		for symbol, want := range p.goes[i] {
			if got := a.Go(i, symbol); got != want {
				t.Fatalf("P9.1: of %v, Go(%d, %d): %d; want %d", s.Rules, i, symbol, got, want)
			}
		}
	}
}

// rights are all rows of up to n of the symbols.
func rights(n int, symbols ...string) [][]string {
	all := [][]string{nil}
	for from := 0; n > 0; n-- {
		to := len(all)
		for _, row := range all[from:to] {
			for _, symbol := range symbols {
				all = append(all, append(slices.Clone(row), symbol))
			}
		}
		from = to
	}
	return all
}

// All grammars of two Lefts with three rules of up to two symbols, in each order of Lefts.
func TestSmallGrammars(t *testing.T) {
	rows := rights(2, "a", "b", "S", "T")
	met := 0
	for _, third := range []string{"S", "T"} {
		for n := range len(rows) * len(rows) * len(rows) {
			g := api.Gram{Tokens: []api.Tok{{Name: "a"}, {Name: "b"}}, Rules: []api.Rule{
				{Left: "S", Right: rows[n%21]}, {Left: "T", Right: rows[n/21%21]}, {Left: third, Right: rows[n/441]},
			}}
			if s, err := well.Of(g); err == api.OK {
				met++
				wantPlain(t, s)
			}
		}
	}
	if met < 3000 {
		t.Errorf("only %d grammars were met", met)
	}
}

// random has what well.Of would let through but for use: all Lefts have rules.
func random(r *rand.Rand) api.Spec {
	tokens, nts := r.Intn(5), 1+r.Intn(5)
	s := spec(tokens, nts)
	s.Start = tokens + 1 + r.Intn(nts)
	s.Rules[0].Right = []int{s.Start}
	for range nts + r.Intn(8) {
		rule := is(tokens + 1 + r.Intn(nts))
		for range r.Intn(1 + r.Intn(6)) {
			symbol := r.Intn(tokens + nts)
			if symbol >= tokens {
				symbol++
			}
			rule.Right = append(rule.Right, symbol)
		}
		s.Rules = append(s.Rules, rule)
	}
	return s
}

func TestRandomSpecs(t *testing.T) {
	r := rand.New(rand.NewSource(9))
	for range 3000 {
		wantPlain(t, random(r))
	}
}

// rowOf is a row of a rule's symbols, each a token.
func rowOf(n int) []int {
	return make([]int, n)
}

func wantLen(t *testing.T, what string, s api.Spec, want int) {
	t.Helper()
	a, err := Build(s)
	if want <= 120 && (err != api.OK || a.Len() != want) {
		t.Errorf("P9.1: %s: %d states, %d; want %d", what, a.Len(), err, want)
	}
	if want > 120 && (err != api.ErrLimit || a != nil) {
		t.Errorf("P9.1: %s: %v, %d; want none and %d, as there are %d states", what, a, err, api.ErrLimit, want)
	}
	if n := len(plainOf(s).kernels); want <= 121 && n != want {
		t.Errorf("%s: by the chapter's words %d states", what, n)
	}
}

func TestJustAllStatesAndOneMore(t *testing.T) {
	for _, n := range []int{1, 2, 60, 118, 119, 120, 121, 122, 200} {
		what := "n in a row: " + strconv.Itoa(n)
		wantLen(t, "of "+what, spec(1, 1, is(2, rowOf(n-1)...)), n+1)
		// All come of the first state.
		var rules []api.SRule
		for token := range n {
			rules = append(rules, is(n+1, token))
		}
		wantLen(t, "beside "+what, spec(n, 1, rules...), n+2)
	}
	// States that are there already count once, also behind the last that is let.
	ring := func(n int) api.Spec {
		return spec(2, 1, is(3, append(rowOf(n), 3)...), is(3, 1), is(3))
	}
	wantLen(t, "the last leads back", ring(116), 120)
	wantLen(t, "the last leads back, one more", ring(117), 121)
	// The one too many is by the last symbol of the last state but its own.
	wantLen(t, "a Left at the end", spec(2, 1, is(3, append(rowOf(117), 3)...), is(3, 1)), 121)
	wantLen(t, "a Left at the end, one less", spec(2, 1, is(3, append(rowOf(116), 3)...), is(3, 1)), 120)
}

// letters is a grammar of rules of six tokens each that begin unlike one another, and of more that are like the first but for their last tokens.
func letters(rules, more int) string {
	names := strings.Fields("ta tb tc td te tf tg th ti tj tk tl")
	var rows []string
	for i := range rules {
		row := slices.Repeat([]string{names[i%12]}, 6)
		row[1] = names[i/12]
		rows = append(rows, strings.Join(row, " "))
	}
	for i := range more {
		rows = append(rows, "ta ta ta ta ta "+names[i+1])
	}
	return "%token " + strings.Join(names, " ") + " %% S : " + strings.Join(rows, " | ") + " ;"
}

func TestLimitOfGrammarsThatMeanSomething(t *testing.T) {
	wantLen(t, "21 rules", specOf(t, letters(21, 0)), 119)
	wantLen(t, "22 rules", specOf(t, letters(21, 1)), 120)
	wantLen(t, "23 rules", specOf(t, letters(21, 2)), 121)
	wantLen(t, "30 rules", specOf(t, letters(30, 0)), 164)
}

// The first of more than 120 states is the last that is looked at: what would make endless many ends.
func TestLongSpecs(t *testing.T) {
	const tokens, n = 30000, 30000
	// One closure of all rules, of which each Left's stand unlike the order of the Lefts.
	s := spec(tokens, n)
	for i := range n - 1 {
		left := tokens + 1 + (i*7919)%n
		s.Rules = append(s.Rules, is(left, tokens+1+(i*7919+7919)%n, i), is(left))
	}
	if a, err := Build(s); err != api.ErrLimit || a != nil {
		t.Errorf("P9.1: of a long Spec: %d, %d", a.Len(), err)
	}
	if a, err := Build(spec(1, 1, is(2, rowOf(1<<20)...))); err != api.ErrLimit || a != nil {
		t.Errorf("P9.1: of a long rule: %d, %d", a.Len(), err)
	}
	// As many rules as there may be, few states.
	s = spec(1, 1)
	for range 1 << 16 {
		s.Rules = append(s.Rules, is(2, rowOf(100)...))
	}
	a, err := Build(s)
	if err != api.OK || a.Len() != 102 || len(a.Items(0)) != 1<<16+1 || len(a.Kernel(100)) != 1<<16 || a.Go(100, 0) != 101 {
		t.Errorf("P9.1: of many rules: %d, %d", a.Len(), err)
	}
	s = spec(1, 1)
	for range 1 << 20 {
		s.Rules = append(s.Rules, is(2))
	}
	if a, err = Build(s); err != api.OK || a.Len() != 2 || len(a.Items(0)) != 1<<20+1 || len(a.Items(1)) != 1 {
		t.Errorf("P9.1: of many rules of nothing: %d, %d", a.Len(), err)
	}
}

func TestNil(t *testing.T) {
	var a *Auto
	if a.Len() != 0 {
		t.Errorf("P9.1: a nil *Auto has %d states", a.Len())
	}
	for _, i := range append(strange, 0, 1, 2) {
		if a.Kernel(i) != nil || a.Items(i) != nil {
			t.Errorf("P9.1: state %d of nil: %v, %v", i, a.Kernel(i), a.Items(i))
		}
		for _, symbol := range append(strange, 0, 1, 2) {
			if to := a.Go(i, symbol); to != -1 {
				t.Errorf("P9.1: Go(%d, %d) of nil: %d", i, symbol, to)
			}
		}
	}
	zero := &Auto{}
	if zero.Len() != 0 || zero.Kernel(0) != nil || zero.Items(0) != nil || zero.Go(0, 0) != -1 {
		t.Error("P9.1: a zero Auto has states")
	}
}

const sums = "%token n p t l r %% E : E p T | T ; T : T t F | F ; F : l E r | n | ;"

// spoil writes over a list and its spare room.
func spoil[T any](list []T) {
	clear(list[:cap(list)])
}

func wantNew(t *testing.T, what string, call func() []api.Item) {
	t.Helper()
	want := slices.Clone(call())
	one, other := call(), call()
	spoil(one)
	if !slices.Equal(other, want) || !slices.Equal(call(), want) {
		t.Fatalf("P0.3: who writes into %s changes more than that", what)
	}
	one = append(call(), api.Item{Rule: 7, Dot: 7})
	other = append(other, api.Item{Rule: 8, Dot: 8})
	if one[len(one)-1].Rule != 7 || !slices.Equal(call(), want) {
		t.Fatalf("P0.3: who writes behind %s changes more than that", what)
	}
}

func TestAnswersAreNewMemory(t *testing.T) {
	s := specOf(t, sums)
	a, _ := Build(s)
	b, _ := Build(s)
	before := lines(a, s)
	for i := range a.Len() {
		wantNew(t, "Kernel", func() []api.Item { return a.Kernel(i) })
		wantNew(t, "Items", func() []api.Item { return a.Items(i) })
		// What is told of a kernel is no part of what is told of its closure.
		kernel, items := a.Kernel(i), a.Items(i)
		spoil(kernel)
		if !slices.Equal(items, a.Items(i)) {
			t.Fatalf("P0.3: who writes into Kernel changes Items of %d", i)
		}
		if !slices.Equal(lines(a, s), before) || !slices.Equal(lines(b, s), before) {
			t.Fatalf("P0.3: who writes into what is told of %d changes the states", i)
		}
	}
}

func TestNothingIsChangedOrKept(t *testing.T) {
	s := specOf(t, sums)
	rooms := make([][]int, len(s.Rules))
	rules := append(slices.Clone(s.Rules), is(88, 88), is(89, 89))
	for i, r := range s.Rules {
		rooms[i] = append(slices.Clone(r.Right), 77, 78)
		rules[i].Right = rooms[i][:len(r.Right)]
	}
	handed := s
	handed.Rules = rules[:len(s.Rules)]
	a, err := Build(handed)
	if got, want := fmt.Sprint(handed), fmt.Sprint(s); got != want || err != api.OK {
		t.Errorf("P0.3: Build made %s of %s", got, want)
	}
	for i, r := range s.Rules {
		if !slices.Equal(rooms[i], append(slices.Clone(r.Right), 77, 78)) {
			t.Errorf("P0.3: Build changed the room behind the rule %d: %v", i, rooms[i])
		}
	}
	if got := fmt.Sprint(rules[len(s.Rules):]); got != fmt.Sprint([]api.SRule{is(88, 88), is(89, 89)}) {
		t.Errorf("P0.3: Build changed the room behind the rules: %s", got)
	}
	again, _ := Build(s)
	names := s
	names.Names = slices.Clone(s.Names)
	before := lines(a, names)
	if !slices.Equal(before, lines(again, names)) {
		t.Fatal("P0.5: two of one Spec are unlike")
	}
	for _, room := range rooms {
		spoil(room)
	}
	for i := range rules {
		rules[i] = is(99, 98, 97)
	}
	spoil(s.Names)
	spoil(s.Levels)
	spoil(s.Assocs)
	if !slices.Equal(before, lines(a, names)) {
		t.Error("P0.3: Build keeps what it is handed")
	}
}

// What is told does not hang on what was asked before, nor on what else was built.
func TestAskedInAnyOrder(t *testing.T) {
	s := specOf(t, sums)
	a, _ := Build(s)
	before := lines(a, s)
	for i := a.Len() - 1; i >= 0; i-- {
		for symbol := len(s.Names); symbol >= -1; symbol-- {
			a.Go(i, symbol)
			Build(spec(1, 1, is(2, rowOf(symbol+1)...)))
			a.Items(i)
			a.Kernel(i)
		}
		if !slices.Equal(lines(a, s), before) {
			t.Fatalf("P0.5: behind questions of %d other things are told", i)
		}
	}
	for range 20 {
		if b, _ := Build(s); !slices.Equal(lines(b, s), before) {
			t.Fatal("P0.5: two of one Spec are unlike")
		}
	}
}

func TestNilIsEmpty(t *testing.T) {
	s := spec(1, 1, is(2), is(2, 0))
	s.Rules[1].Right = nil
	a, _ := Build(s)
	s.Rules[1].Right = []int{}
	b, _ := Build(s)
	if got, want := lines(a, s), lines(b, s); !slices.Equal(got, want) {
		t.Errorf("P0.4: of nil %q, of an empty list %q", got, want)
	}
	s = api.Spec{}
	a, err := Build(s)
	s.Names, s.Levels, s.Assocs, s.Rules = []string{}, []int{}, []int{}, []api.SRule{}
	b, other := Build(s)
	if a.Len() != b.Len() || err != other || !slices.Equal(a.Items(0), b.Items(0)) {
		t.Errorf("P0.4: of nil %d, of empty lists %d", a.Len(), b.Len())
	}
}

// Of what is no Spec nothing is promised but that the calls end.
func TestWhatIsNoSpec(t *testing.T) {
	numbers := []int{math.MinInt, math.MinInt + 1, -1 << 40, -2, -1, 0, 1, 2, 3, 4, 22, 23, 24, 1 << 20, 1 << 40, math.MaxInt - 1, math.MaxInt}
	rows := [][]int{nil, {0}, {1, 2, 3}, {-1}, {math.MinInt}, {math.MaxInt, 0}, {4, 5, 6}, {3, -7, 2}, {4, 3, 4, 22}}
	lists := [][]string{nil, make([]string, 4), make([]string, 30)}
	for _, tokens := range numbers {
		for _, nts := range numbers {
			for _, start := range numbers {
				s := api.Spec{Tokens: tokens, NTs: nts, Start: start, Names: lists[(len(numbers)+nts%3)%3]}
				s.Rules = append(s.Rules, is(-1, start))
				for _, left := range numbers {
					for _, right := range rows {
						s.Rules = append(s.Rules, is(left, right...))
					}
				}
				a, err := Build(s)
				if err != api.OK && err != api.ErrLimit || (err == api.OK) != (a != nil) {
					t.Fatalf("P9.1: of what is no Spec: %v, %d", a, err)
				}
				for _, i := range numbers {
					a.Kernel(i)
					a.Items(i)
					a.Go(i, start)
				}
			}
		}
	}
	// Rules come of symbols that are no token only, and what is no symbol leads nowhere.
	s := spec(2, 1, is(3, 0, 1), is(0, 1), is(1, 1), is(3, 7), is(3, -1), is(3, 4), is(3, 2), is(2, 0))
	a, _ := Build(s)
	var goes []int
	for symbol := -1; symbol < 9; symbol++ {
		goes = append(goes, a.Go(0, symbol))
	}
	if got := fmt.Sprint(dotted(a.Items(0)), goes); got != "0.0 1.0 4.0 5.0 6.0 7.0 8.0[-1 1 -1 2 3 -1 -1 -1 -1 -1]" {
		t.Errorf("P9.1: of rules of tokens and of what is no symbol: %s", got)
	}
	// The rule of the whole comes once, also where it is one of a Left's.
	a, _ = Build(api.Spec{Tokens: 1, NTs: 1, Start: 2, Names: make([]string, 3), Rules: []api.SRule{is(2, 2, 0), is(2)}})
	if got := dotted(a.Items(0)); got != "0.0 1.0" {
		t.Errorf("P9.1: a closure holds twice: %s", got)
	}
}
