package look

import (
	"fmt"
	"math"
	"math/rand"
	"slices"
	"strconv"
	"strings"
	"testing"

	"donatus/api"
	"donatus/auto"
	"donatus/first"
	"donatus/read"
	"donatus/well"
)

// specOf is the Spec of the grammar that the text writes.
func specOf(t *testing.T, text string) api.Spec {
	t.Helper()
	g, f := read.Read(text)
	if f != (api.Fault{}) {
		t.Fatalf("Read(%q): %v", text, f)
	}
	s, err := well.Of(g)
	if err != api.OK {
		t.Fatalf("well.Of(%q): %d", text, err)
	}
	return s
}

// spec has tokens and Lefts without names, and the first Left as Start.
func spec(tokens, nts int, rules ...api.SRule) api.Spec {
	whole := is(-1, tokens+1)
	return api.Spec{
		Tokens: tokens, NTs: nts, Start: tokens + 1, Names: make([]string, tokens+1+nts),
		Levels: make([]int, tokens), Assocs: make([]int, tokens), Rules: append([]api.SRule{whole}, rules...),
	}
}

func is(left int, right ...int) api.SRule {
	return api.SRule{Left: left, Right: right}
}

func build(t *testing.T, s api.Spec) *auto.Auto {
	t.Helper()
	a, err := auto.Build(s)
	if err != api.OK {
		t.Fatalf("auto.Build(%v): %d", s.Rules, err)
	}
	return a
}

// named tells lookaheads by their names; the end is $.
func named(s api.Spec, tokens []int) string {
	var l []string
	for _, token := range tokens {
		if token == s.Tokens {
			l = append(l, "$")
		} else {
			l = append(l, s.Names[token])
		}
	}
	return strings.Join(l, " ")
}

// lines tells of each state, each in a line, the rules that end there and their lookaheads.
func lines(l *Looks, s api.Spec, states int) []string {
	var all []string
	for state := range states {
		var ends []string
		for rule := range s.Rules {
			if set := l.Set(state, rule); set != nil {
				ends = append(ends, strconv.Itoa(rule)+": "+named(s, set))
			}
		}
		all = append(all, strings.Join(ends, ", "))
	}
	return all
}

// wantSets holds the lookaheads of the text's grammar against want, in which each state is a line.
func wantSets(t *testing.T, text string, want ...string) {
	t.Helper()
	s := specOf(t, text)
	a := build(t, s)
	l := New(s, a)
	got := lines(l, s, a.Len())
	if !slices.Equal(got, want) {
		t.Errorf("P10.1: of %q\n     %s\nwant %s", text, strings.Join(got, "\n     "), strings.Join(want, "\n     "))
	}
	wantCanonical(t, s)
	if wrong := noItems(l, s, a); wrong != "" {
		t.Errorf("P10.1: of %q: %s", text, wrong)
	}
}

var strange = []int{math.MinInt, math.MinInt + 1, -1 << 40, -121, -2, -1, 120, 121, 1 << 31, 1 << 32, 1 << 40, math.MaxInt - 1, math.MaxInt}

// noItems tells of what is answered though there is no such item; a has no more than 100 states, s no more than 100 rules.
func noItems(l *Looks, s api.Spec, a *auto.Auto) string {
	numbers := slices.Clone(strange)
	for n := range max(a.Len(), len(s.Rules)) + 2 {
		numbers = append(numbers, n)
	}
	for _, state := range numbers {
		for _, rule := range numbers {
			if set := l.Set(state, rule); set != nil && !endsIn(a, s, state, rule) {
				return fmt.Sprintf("Set(%d, %d), where no rule ends: %v", state, rule, set)
			}
		}
	}
	return ""
}

// endsIn tells whether the state has the item of the rule with its dot behind all.
func endsIn(a *auto.Auto, s api.Spec, state, rule int) bool {
	return 0 <= rule && rule < len(s.Rules) && slices.Contains(a.Items(state), api.Item{Rule: rule, Dot: len(s.Rules[rule].Right)})
}

func TestTheEnd(t *testing.T) {
	wantSets(t, "%token a %% S : a ;",
		"",
		"1: $",
		"0: $")
	// Behind each Left that stands last, through several rules.
	wantSets(t, "%token a b %% S : T ; T : a U ; U : b ;",
		"",
		"",
		"0: $",
		"1: $",
		"3: $",
		"2: $")
	// The end is a number of its own: without tokens it is 0.
	wantSets(t, "%% S : ;",
		"1: $",
		"0: $")
	wantSets(t, "%% S : T T ; T : ;",
		"2: $",
		"0: $",
		"2: $",
		"1: $")
}

func TestTokensBehind(t *testing.T) {
	// A token right behind, one that a Left begins with, and one that a Left's first Left begins with.
	wantSets(t, "%token a b %% S : T b ; T : a ;",
		"",
		"2: b",
		"0: $",
		"",
		"1: $")
	wantSets(t, "%token a b c %% S : T U ; T : a ; U : b | V c ; V : c b ;",
		"",
		"2: b c",
		"0: $",
		"",
		"3: $",
		"",
		"1: $",
		"",
		"5: c",
		"4: $")
	// What stands behind the Left that a rule makes, not what stands in it.
	wantSets(t, "%token a b c %% S : T c ; T : U ; U : a b ;",
		"",
		"",
		"0: $",
		"",
		"2: c",
		"3: c",
		"1: $")
	// Not what stands further behind where something can't be empty.
	wantSets(t, "%token a b c %% S : T U c ; T : a ; U : b | b b ;",
		"",
		"2: b",
		"0: $",
		"",
		"3: c",
		"",
		"4: c",
		"1: $")
}

func TestKnownGrammar(t *testing.T) {
	wantSets(t, "%token n p t l r %% E : E p T | T ; T : T t F | F ; F : l E r | n ;",
		"",
		"6: p t r $",
		"",
		"0: $",
		"2: p r $",
		"4: p t r $",
		"",
		"",
		"",
		"5: p t r $",
		"1: p r $",
		"3: p t r $")
}

func TestLessThanFollow(t *testing.T) {
	// b and the end may stand behind T, but each of them only behind one of the two.
	text := "%token a b c %% S : a T b | c T | c c ; T : c ;"
	wantSets(t, text,
		"",
		"",
		"",
		"0: $",
		"4: b",
		"",
		"3: $, 4: $",
		"2: $",
		"1: $")
	s := specOf(t, text)
	if follow := first.New(s).Follow(s.Tokens + 2); named(s, follow) != "b $" {
		t.Errorf("behind T may stand %v", follow)
	}
	// A grammar that is LALR(1), and not SLR(1).
	wantSets(t, "%token e s i %% S : L e R | R ; L : s R | i ; R : L ;",
		"",
		"",
		"4: e $",
		"0: $",
		"5: $",
		"2: $",
		"5: e $",
		"3: e $",
		"",
		"1: $")
}

func TestStatesThatComeTogether(t *testing.T) {
	// LR(1), and not LALR(1): behind a A is c only with d, behind b with e; together each has both.
	wantSets(t, "%token a b c d e %% S : a A d | b B d | a B e | b A e ; A : c ; B : c ;",
		"",
		"",
		"",
		"0: $",
		"5: d e, 6: d e",
		"",
		"",
		"",
		"",
		"1: $",
		"3: $",
		"4: $",
		"2: $")
	// The same, where what comes together is begun behind rules of nothing.
	wantSets(t, "%token a b d e %% S : a A d | b B d | a B e | b A e ; A : ; B : ;",
		"",
		"5: d, 6: e",
		"5: e, 6: d",
		"0: $",
		"",
		"",
		"",
		"",
		"1: $",
		"3: $",
		"4: $",
		"2: $")
	// Three that come together, each from another one's.
	wantSets(t, "%token a b c d e %% S : a A | b A d | c A e ; A : d A | e ;",
		"",
		"",
		"",
		"",
		"0: $",
		"",
		"5: d e $",
		"1: $",
		"",
		"",
		"4: d e $",
		"2: $",
		"3: $")
}

func TestRings(t *testing.T) {
	// A state that leads to itself, by a token and by a Left.
	wantSets(t, "%token a b c %% S : T c ; T : a T | b ;",
		"",
		"",
		"3: c",
		"0: $",
		"",
		"2: c",
		"1: $")
	wantSets(t, "%token a %% S : S S | a ;",
		"",
		"2: a $",
		"0: $",
		"1: a $")
	// What comes in only within the ring goes round to where it began.
	wantSets(t, "%token a b c %% S : T ; T : a T b | a T c | b ;",
		"",
		"",
		"4: b c $",
		"0: $",
		"1: $",
		"",
		"2: b c $",
		"3: b c $")
	// Rings of rules that are a Left alone.
	wantSets(t, "%token a b %% S : T | a ; T : S | b T ;",
		"",
		"2: $",
		"",
		"0: $, 3: $",
		"1: $",
		"3: $",
		"1: $, 4: $")
}

func TestLeftsThatMayBeNothing(t *testing.T) {
	// What stands behind them, too.
	wantSets(t, "%token a b c %% S : T U V c ; T : a ; U : b | ; V : a | ;",
		"",
		"2: a b c",
		"0: $",
		"4: a c",
		"3: a c",
		"6: c",
		"5: c",
		"",
		"1: $")
	// All of what stands behind may be nothing: what stands behind the rule, too.
	wantSets(t, "%token a b c %% S : a T c | T ; T : b U V ; U : a | ; V : U U | ;",
		"",
		"",
		"5: a c $",
		"0: $",
		"2: $",
		"",
		"4: a c $",
		"5: a c $, 7: c $",
		"1: $",
		"5: c $",
		"3: c $",
		"6: c $")
	// Rings through them.
	wantSets(t, "%token a b %% S : T S U | b ; T : U T | ; U : a | ;",
		"4: a b, 6: a b",
		"5: a b $",
		"2: a $",
		"0: $",
		"4: a b, 6: a b",
		"4: a b, 6: a b",
		"6: a $",
		"3: a b",
		"1: a $")
	// Through a Left that may be nothing only by rules of Lefts.
	wantSets(t, "%token a b %% S : T U b | U a ; T : a ; U : V V ; V : T | ;",
		"6: a",
		"3: a b",
		"0: $",
		"5: a, 6: a b",
		"",
		"6: a b",
		"5: a b",
		"",
		"2: $",
		"4: a b",
		"1: $")
}

func TestNotWhatOtherWaysBegan(t *testing.T) {
	// The states behind a A and b A are one, in which C may be nothing: what stands behind B on the one way does not come to the other.
	wantSets(t, "%token a b c d x y %% S : a B x | b B y | b c d ; B : A C ; A : c ; C : ;",
		"",
		"",
		"",
		"0: $",
		"5: x",
		"",
		"6: x y",
		"5: y",
		"",
		"1: $",
		"4: x y",
		"3: $",
		"2: $")
}

func TestRulesOfNothing(t *testing.T) {
	// Several in one state, of several Lefts and of one.
	wantSets(t, "%token a b %% S : T a | U b | ; T : | ; U : ;",
		"3: $, 4: a, 5: a, 6: b",
		"0: $",
		"",
		"",
		"1: $",
		"2: $")
	// In a state behind which they lead to others of their own.
	wantSets(t, "%token a b %% S : T U T a ; T : ; U : ;",
		"2: a",
		"0: $",
		"3: a",
		"2: a",
		"",
		"1: $")
}

func TestRulesThatEndTogether(t *testing.T) {
	// Rules alike, and one that ends where another goes on.
	wantSets(t, "%token a %% S : a | a ;",
		"",
		"1: $, 2: $",
		"0: $")
	wantSets(t, "%token a b %% S : T b | a a ; T : a | a b ;",
		"",
		"3: b",
		"0: $",
		"",
		"2: $",
		"4: b",
		"1: $")
}

// item is of LR(1).
type item struct{ rule, dot, look int }

// canon makes the canonical LR(1) states by their words.
type canon struct {
	spec api.Spec
	// empty tells what derives nothing at all, begins with which tokens what each symbol derives can begin.
	empty  []bool
	begins []map[int]bool
	// kernels and items are those of each state.
	kernels, items [][]item
	numbers        map[string]int
}

// most is how many states are made at most.
const most = 250

func canonOf(s api.Spec) (*canon, bool) {
	c := &canon{spec: s, empty: make([]bool, s.Tokens+1+s.NTs), numbers: map[string]int{}}
	c.reckonFirst()
	c.find([]item{{0, 0, s.Tokens}})
	for i := 0; i < len(c.kernels); i++ {
		for symbol := range s.Tokens + 1 + s.NTs {
			var kernel []item
			for _, x := range c.items[i] {
				if right := s.Rules[x.rule].Right; x.dot < len(right) && right[x.dot] == symbol {
					kernel = append(kernel, item{x.rule, x.dot + 1, x.look})
				}
			}
			if kernel != nil {
				c.find(kernel)
			}
			if len(c.kernels) > most {
				return nil, false
			}
		}
	}
	return c, true
}

func (c *canon) reckonFirst() {
	for symbol := range c.spec.Tokens + 1 + c.spec.NTs {
		c.begins = append(c.begins, map[int]bool{})
		if symbol < c.spec.Tokens {
			c.begins[symbol][symbol] = true
		}
	}
	for grown := true; grown; {
		grown = false
		for _, r := range c.spec.Rules[1:] {
			tokens, empty := c.rest(r.Right)
			for token := range tokens {
				grown = grown || !c.begins[r.Left][token]
				c.begins[r.Left][token] = true
			}
			grown = grown || empty && !c.empty[r.Left]
			c.empty[r.Left] = c.empty[r.Left] || empty
		}
	}
}

// rest tells with which tokens what the symbols derive can begin, and whether they derive nothing at all.
func (c *canon) rest(symbols []int) (map[int]bool, bool) {
	tokens := map[int]bool{}
	for _, symbol := range symbols {
		for token := range c.begins[symbol] {
			tokens[token] = true
		}
		if !c.empty[symbol] {
			return tokens, false
		}
	}
	return tokens, true
}

func (c *canon) find(kernel []item) {
	slices.SortFunc(kernel, func(a, b item) int {
		return slices.Compare([]int{a.rule, a.dot, a.look}, []int{b.rule, b.dot, b.look})
	})
	name := make([]rune, 0, 3*len(kernel))
	for _, x := range kernel {
		name = append(name, rune(x.rule), rune(x.dot), rune(x.look))
	}
	if _, ok := c.numbers[string(name)]; !ok {
		c.numbers[string(name)] = len(c.kernels)
		c.kernels = append(c.kernels, kernel)
		c.items = append(c.items, c.closure(kernel))
	}
}

func (c *canon) closure(kernel []item) []item {
	items := slices.Clone(kernel)
	in := map[item]bool{}
	for _, x := range items {
		in[x] = true
	}
	for i := 0; i < len(items); i++ {
		x := items[i]
		right := c.spec.Rules[x.rule].Right
		if x.dot == len(right) || right[x.dot] < c.spec.Tokens {
			continue
		}
		tokens, empty := c.rest(right[x.dot+1:])
		if empty {
			tokens[x.look] = true
		}
		for rule, r := range c.spec.Rules {
			for look := range tokens {
				if y := (item{rule, 0, look}); r.Left == right[x.dot] && !in[y] {
					in[y] = true
					items = append(items, y)
				}
			}
		}
	}
	return items
}

// core is the items of a state's kernel without their tokens.
func (c *canon) core(state int) []api.Item {
	var core []api.Item
	for _, x := range c.kernels[state] {
		core = append(core, api.Item{Rule: x.rule, Dot: x.dot})
	}
	return slices.Compact(core)
}

// sets tells the lookaheads of each rule that ends in a state of a.
func (c *canon) sets(a *auto.Auto) map[end][]int {
	all := map[end][]int{}
	for state := range c.kernels {
		core := c.core(state)
		for i := range a.Len() {
			if !slices.Equal(core, a.Kernel(i)) {
				continue
			}
			for _, x := range c.items[state] {
				if x.dot == len(c.spec.Rules[x.rule].Right) {
					at := end{i, x.rule}
					all[at] = append(all[at], x.look)
				}
			}
		}
	}
	for at, set := range all {
		slices.Sort(set)
		all[at] = slices.Compact(set)
	}
	return all
}

// wantCanonical holds each state and each rule against the canonical states; it tells whether they were few enough for that.
func wantCanonical(t *testing.T, s api.Spec) bool {
	t.Helper()
	a, err := auto.Build(s)
	if err != api.OK {
		return false
	}
	c, ok := canonOf(s)
	if !ok {
		return false
	}
	l, want := New(s, a), c.sets(a)
	for state := range a.Len() {
		for rule := range s.Rules {
			got, set := l.Set(state, rule), want[end{state, rule}]
			if !slices.Equal(got, set) || set == nil && got != nil {
				t.Fatalf("P10.1: of %v, Set(%d, %d): %v; want %v", s.Rules, state, rule, got, set)
			}
			if set == nil && endsIn(a, s, state, rule) {
				t.Fatalf("of %v no LR(1) state ends rule %d as state %d does", s.Rules, rule, state)
			}
		}
	}
	return true
}

// rights are all rows of up to n of the symbols.
func rights(n int, symbols ...string) [][]string {
	all := [][]string{nil}
	for from := 0; n > 0; n-- {
		to := len(all)
		for _, row := range all[from:to] {
			for _, symbol := range symbols {
				all = append(all, append(slices.Clone(row), symbol))
			}
		}
		from = to
	}
	return all
}

// All grammars of two Lefts with three rules of up to two symbols.
func TestSmallGrammars(t *testing.T) {
	rows := rights(2, "a", "b", "S", "T")
	met := 0
	for _, third := range []string{"S", "T"} {
		for n := range len(rows) * len(rows) * len(rows) {
			g := api.Gram{Tokens: []api.Tok{{Name: "a"}, {Name: "b"}}, Rules: []api.Rule{
				{Left: "S", Right: rows[n%21]}, {Left: "T", Right: rows[n/21%21]}, {Left: third, Right: rows[n/441]},
			}}
			if s, err := well.Of(g); err == api.OK && wantCanonical(t, s) {
				met++
			}
		}
	}
	if met < 3000 {
		t.Errorf("only %d grammars were met", met)
	}
}

// random draws a Spec that well.Of lets through.
func random(r *rand.Rand) api.Spec {
	for {
		g := api.Gram{Start: "S"}
		tokens := []string{"a", "b", "c", "d"}[:1+r.Intn(4)]
		for _, name := range tokens {
			g.Tokens = append(g.Tokens, api.Tok{Name: name})
		}
		lefts := []string{"S", "T", "U", "V", "W"}[:1+r.Intn(5)]
		symbols := append(slices.Clone(tokens), lefts...)
		longest := 2 + r.Intn(4)
		for n := range len(lefts) + r.Intn(7) {
			rule := api.Rule{Left: lefts[(n+r.Intn(1+n))%len(lefts)]}
			for range r.Intn(longest) {
				rule.Right = append(rule.Right, symbols[r.Intn(len(symbols))])
			}
			g.Rules = append(g.Rules, rule)
		}
		if s, err := well.Of(g); err == api.OK {
			return s
		}
	}
}

func TestRandomSpecs(t *testing.T) {
	r := rand.New(rand.NewSource(10))
	met := 0
	for range 6000 {
		if wantCanonical(t, random(r)) {
			met++
		}
	}
	if met < 4000 {
		t.Errorf("only %d grammars were met", met)
	}
}

// rowOf is a row of n of the symbol.
func rowOf(n, symbol int) []int {
	return slices.Repeat([]int{symbol}, n)
}

func wantSet(t *testing.T, what string, got []int, want ...int) {
	t.Helper()
	if !slices.Equal(got, want) {
		t.Errorf("P10.1: %s: %d lookaheads, %v; want %v", what, len(got), got[:min(len(got), 20)], want)
	}
}

func TestLongSpecs(t *testing.T) {
	// As many rules as there may be: of tokens, of nothing, and of Lefts that may be nothing.
	s := spec(1, 1)
	for range 1 << 16 {
		s.Rules = append(s.Rules, is(2, rowOf(30, 0)...))
	}
	l := New(s, build(t, s))
	wantSet(t, "of many rules", l.Set(31, 1<<16), 1)
	wantSet(t, "of many rules, ahead of their end", l.Set(30, 1<<16))
	s = spec(1, 2, is(2, 3, 0))
	for range 1 << 18 {
		s.Rules = append(s.Rules, is(3))
	}
	l = New(s, build(t, s))
	wantSet(t, "of many rules of nothing", l.Set(0, 1<<18), 0)
	s = spec(1, 2, is(2, 0), is(3))
	for range 1 << 14 {
		s.Rules = append(s.Rules, is(2, rowOf(100, 3)...))
	}
	l = New(s, build(t, s))
	wantSet(t, "of many rules of Lefts", l.Set(102, 1<<14), 1)
	wantSet(t, "of many rules of Lefts, ahead of their end", l.Set(0, 2), 1)
	// A rule as long as states let it be, that comes round, behind what may be nothing.
	s = spec(1, 1, is(2, rowOf(117, 2)...), is(2), is(2, 0))
	l = New(s, build(t, s))
	for state := range 118 {
		if state != 1 {
			wantSet(t, "of a long rule, state "+strconv.Itoa(state), l.Set(state, 2), 0, 1)
		}
	}
	// Rules that are long, and that no state has.
	s = spec(30000, 30000, is(30001))
	for i := range 29999 {
		s.Rules = append(s.Rules, is(30002+i, 30002+(i*7919)%29999, i))
	}
	s.Rules = append(s.Rules, is(30002, rowOf(1<<20, 30001)...))
	l = New(s, build(t, s))
	wantSet(t, "where most rules are not used", l.Set(0, 1), 30000)
	wantSet(t, "of a rule that is not used", l.Set(0, 30001))
}

func TestNil(t *testing.T) {
	var l *Looks
	s := specOf(t, sums)
	for _, looks := range []*Looks{l, {}, New(s, nil), New(s, &auto.Auto{}), New(api.Spec{}, nil), New(api.Spec{Rules: []api.SRule{is(-1)}}, nil)} {
		for _, state := range append([]int{0, 1, 2}, strange...) {
			for _, rule := range append([]int{0, 1, 2}, strange...) {
				if set := looks.Set(state, rule); set != nil {
					t.Errorf("P10.1: Set(%d, %d) of nil: %v", state, rule, set)
				}
			}
		}
	}
}

const sums = "%token n p t l r %% E : E p T | T ; T : T t F | F ; F : l E r | n | ;"

// spoil writes over a list and its spare room.
func spoil[T any](list []T) {
	clear(list[:cap(list)])
}

func TestAnswersAreNewMemory(t *testing.T) {
	s := specOf(t, sums)
	a := build(t, s)
	l, other := New(s, a), New(s, a)
	before, states := lines(l, s, a.Len()), itemsOf(a)
	for state := range a.Len() {
		for rule := range s.Rules {
			want := slices.Clone(l.Set(state, rule))
			one, two := l.Set(state, rule), l.Set(state, rule)
			one = append(one, 98)
			two = append(two, 99)
			if one[len(one)-1] != 98 || !slices.Equal(two[:len(two)-1], want) {
				t.Fatalf("P0.3: who writes behind Set(%d, %d) changes another answer", state, rule)
			}
			spoil(l.Set(state, rule))
			spoil(one)
			if !slices.Equal(two[:len(two)-1], want) {
				t.Fatalf("P0.3: who writes into Set(%d, %d) changes another answer", state, rule)
			}
			if !slices.Equal(lines(l, s, a.Len()), before) || !slices.Equal(lines(other, s, a.Len()), before) {
				t.Fatalf("P0.3: who writes into Set(%d, %d) changes what is kept", state, rule)
			}
		}
	}
	if !slices.Equal(itemsOf(a), states) {
		t.Error("P0.3: who writes into Set changes the states")
	}
}

// itemsOf tells the kernel and the items of each state.
func itemsOf(a *auto.Auto) []string {
	var all []string
	for state := range a.Len() {
		all = append(all, fmt.Sprint(a.Kernel(state), a.Items(state)))
	}
	return all
}

func TestNothingIsChangedOrKept(t *testing.T) {
	s := specOf(t, sums)
	rooms := make([][]int, len(s.Rules))
	rules := append(slices.Clone(s.Rules), is(88, 88), is(89, 89))
	for i, r := range s.Rules {
		rooms[i] = append(slices.Clone(r.Right), 77, 78)
		rules[i].Right = rooms[i][:len(r.Right)]
	}
	handed := s
	handed.Rules = rules[:len(s.Rules)]
	a := build(t, s)
	states := itemsOf(a)
	l := New(handed, a)
	if got, want := fmt.Sprint(handed), fmt.Sprint(s); got != want {
		t.Errorf("P0.3: New made %s of %s", got, want)
	}
	if !slices.Equal(itemsOf(a), states) {
		t.Error("P0.3: New changed the states")
	}
	for i, r := range s.Rules {
		if !slices.Equal(rooms[i], append(slices.Clone(r.Right), 77, 78)) {
			t.Errorf("P0.3: New changed the room behind the rule %d: %v", i, rooms[i])
		}
	}
	if got := fmt.Sprint(rules[len(s.Rules):]); got != fmt.Sprint([]api.SRule{is(88, 88), is(89, 89)}) {
		t.Errorf("P0.3: New changed the room behind the rules: %s", got)
	}
	names := s
	names.Names = slices.Clone(s.Names)
	before := lines(l, names, a.Len())
	if !slices.Equal(before, lines(New(s, a), names, a.Len())) {
		t.Fatal("P0.5: two of one Spec are unlike")
	}
	for _, room := range rooms {
		spoil(room)
	}
	for i := range rules {
		rules[i] = is(99, 98, 97)
	}
	spoil(s.Names)
	spoil(s.Levels)
	spoil(s.Assocs)
	if !slices.Equal(before, lines(l, names, a.Len())) {
		t.Error("P0.3: New keeps what it is handed")
	}
}

// What is told does not hang on what was asked before, nor on what else was made.
func TestAskedInAnyOrder(t *testing.T) {
	s := specOf(t, sums)
	a := build(t, s)
	l := New(s, a)
	before := lines(l, s, a.Len())
	for state := a.Len(); state >= -1; state-- {
		for rule := len(s.Rules); rule >= -1; rule-- {
			l.Set(state, rule)
			x := spec(1, 1, is(2, rowOf(rule+1, 0)...))
			New(x, build(t, x)).Set(state, rule)
		}
		if !slices.Equal(lines(l, s, a.Len()), before) {
			t.Fatalf("P0.5: behind questions of %d other things are told", state)
		}
	}
	for range 20 {
		if !slices.Equal(lines(New(s, a), s, a.Len()), before) {
			t.Fatal("P0.5: two of one Spec are unlike")
		}
	}
}

func TestNilIsEmpty(t *testing.T) {
	s := spec(1, 1, is(2), is(2, 0))
	s.Rules[1].Right = nil
	nothing := New(s, build(t, s)).Set(0, 1)
	s.Rules[1].Right = []int{}
	if empty := New(s, build(t, s)).Set(0, 1); !slices.Equal(nothing, empty) || !slices.Equal(empty, []int{1}) {
		t.Errorf("P0.4: of nil %v, of an empty list %v", nothing, empty)
	}
	s = api.Spec{}
	nothing = New(s, build(t, s)).Set(0, 0)
	s.Names, s.Levels, s.Assocs, s.Rules = []string{}, []int{}, []int{}, []api.SRule{}
	if empty := New(s, build(t, s)).Set(0, 0); nothing != nil || empty != nil {
		t.Errorf("P0.4: of nil %v, of empty lists %v", nothing, empty)
	}
}

// Levels, a Prec and Expect say nothing here.
func TestLevelsSayNothing(t *testing.T) {
	s := specOf(t, "%left p %right t %expect 3 %token n %% E : E p E %prec t | E t E | n ;")
	a := build(t, s)
	plain := specOf(t, "%token p t n %% E : E p E | E t E | n ;")
	if got, want := lines(New(s, a), s, a.Len()), lines(New(plain, a), plain, a.Len()); !slices.Equal(got, want) {
		t.Errorf("P10.1: with Levels %q, without %q", got, want)
	}
}

// Of states that are another Spec's nothing is promised but that the calls end, and that there is nothing where there is no state.
func TestStatesOfAnotherSpec(t *testing.T) {
	texts := []string{
		sums, "%% S : ;", "%token a %% S : a ;", "%token a %% S : S S | a ;",
		"%token a b c %% S : T U V c ; T : a ; U : b | ; V : a | ;",
		"%token a b c d x y %% S : a B x | b B y | b c d ; B : A C ; A : c ; C : ;",
	}
	var specs []api.Spec
	for _, text := range texts {
		specs = append(specs, specOf(t, text))
	}
	specs = append(specs, api.Spec{}, spec(1, 1), spec(0, 0), spec(1, 1, is(2, rowOf(1<<12, 2)...), is(2)))
	r := rand.New(rand.NewSource(11))
	for range 60 {
		specs = append(specs, random(r))
	}
	for _, s := range specs {
		for _, other := range specs {
			a, err := auto.Build(other)
			if err != api.OK {
				continue
			}
			l := New(s, a)
			for rule := range max(len(s.Rules), len(other.Rules)) {
				for state := range a.Len() {
					l.Set(state, rule)
				}
				if below, above := l.Set(-1, rule), l.Set(a.Len(), rule); below != nil || above != nil {
					t.Fatalf("P10.1: of what is no state: %v, %v", below, above)
				}
			}
		}
	}
}

// Of what is no Spec nothing is promised but that the calls end.
func TestWhatIsNoSpec(t *testing.T) {
	numbers := []int{math.MinInt, math.MinInt + 1, -1 << 40, -2, -1, 0, 1, 2, 3, 4, 22, 23, 24, 1 << 20, 1 << 40, math.MaxInt - 1, math.MaxInt}
	rows := [][]int{nil, {0}, {1, 2, 3}, {-1}, {math.MinInt}, {math.MaxInt, 0}, {4, 5, 6}, {3, -7, 2}, {4, 3, 4, 22}}
	lists := [][]string{nil, make([]string, 4), make([]string, 30)}
	another := build(t, specOf(t, sums))
	for _, tokens := range numbers {
		for _, nts := range numbers {
			for n, start := range numbers {
				s := api.Spec{Tokens: tokens, NTs: nts, Start: start, Names: lists[n%3]}
				s.Rules = append(s.Rules, is(-1, start))
				for _, left := range numbers {
					for _, right := range rows {
						s.Rules = append(s.Rules, is(left, right...))
					}
				}
				a, _ := auto.Build(s)
				for _, l := range []*Looks{New(s, a), New(s, another)} {
					for _, x := range numbers {
						l.Set(x, start)
						l.Set(start, x)
					}
				}
			}
		}
	}
	// The rule of the whole has the end behind it whatever its Left and its Right are.
	for _, left := range numbers {
		for _, whole := range []api.SRule{is(left), is(left, 0), is(left, 0, 1)} {
			s := api.Spec{Tokens: 2, NTs: 2, Start: 3, Names: make([]string, 5), Rules: []api.SRule{whole}}
			a := build(t, s)
			wantSet(t, fmt.Sprintf("of the whole, where it is %v", whole), New(s, a).Set(len(whole.Right), 0), 2)
		}
	}
	s := api.Spec{Tokens: 2, NTs: 2, Start: 3, Names: make([]string, 5), Rules: []api.SRule{is(3, 3, 0), is(3, 1)}}
	l := New(s, build(t, s))
	wantSet(t, "of the whole, where it is in its own closure", l.Set(3, 0), 0, 2)
	wantSet(t, "of a rule beside it", l.Set(1, 1), 0)
	// Lefts that yield nothing have rules that end all the same.
	s = spec(2, 2, is(3, 4, 0), is(3, 1), is(4, 4))
	l = New(s, build(t, s))
	wantSet(t, "of a Left that yields nothing", l.Set(3, 3), 0)
	wantSet(t, "of a rule beside it", l.Set(1, 2), 2)
}
