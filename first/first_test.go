package first

import (
	"fmt"
	"math"
	"math/rand"
	"slices"
	"strconv"
	"strings"
	"testing"

	"donatus/api"
	"donatus/read"
	"donatus/well"
)

// specOf is the Spec of the grammar that the text writes.
func specOf(t *testing.T, text string) api.Spec {
	t.Helper()
	g, f := read.Read(text)
	if f != (api.Fault{}) {
		t.Fatalf("Read(%q): %v", text, f)
	}
	s, err := well.Of(g)
	if err != api.OK {
		t.Fatalf("well.Of(%q): %d", text, err)
	}
	return s
}

// spec has tokens and Lefts without names, and the first Left as Start.
func spec(tokens, nts int, rules ...api.SRule) api.Spec {
	whole := is(-1, tokens+1)
	return api.Spec{
		Tokens: tokens, NTs: nts, Start: tokens + 1, Names: make([]string, tokens+1+nts),
		Levels: make([]int, tokens), Assocs: make([]int, tokens), Rules: append([]api.SRule{whole}, rules...),
	}
}

func is(left int, right ...int) api.SRule {
	return api.SRule{Left: left, Right: right}
}

// named tells symbols by their names, the end as $.
func named(s api.Spec, symbols []int) string {
	var l []string
	for _, symbol := range symbols {
		if symbol == s.Tokens {
			l = append(l, "$")
		} else {
			l = append(l, s.Names[symbol])
		}
	}
	return strings.Join(l, " ")
}

// numbered is the way back.
func numbered(t *testing.T, s api.Spec, names string) []int {
	t.Helper()
	var l []int
	for _, name := range strings.Fields(names) {
		symbol := slices.Index(s.Names, strings.Trim(name, "$"))
		if symbol < 0 {
			t.Fatalf("no symbol: %s", name)
		}
		l = append(l, symbol)
	}
	return l
}

// wantLefts holds what is told of the Lefts against want, in which each has its name, a ? if it can be empty, First, and behind a / Follow; and what is told of the tokens and the end against what holds of all Specs.
func wantLefts(t *testing.T, s api.Spec, want ...string) {
	t.Helper()
	f := New(s)
	for token := range s.Tokens {
		if f.Empty(token) || !slices.Equal(f.First(token), []int{token}) || f.Follow(token) != nil {
			t.Errorf("P8.1: the token %d: %t, %v, %v", token, f.Empty(token), f.First(token), f.Follow(token))
		}
	}
	if f.Empty(s.Tokens) || f.First(s.Tokens) != nil || f.Follow(s.Tokens) != nil {
		t.Errorf("P8.1: the end: %t, %v, %v", f.Empty(s.Tokens), f.First(s.Tokens), f.Follow(s.Tokens))
	}
	var got []string
	for symbol := s.Tokens + 1; symbol < len(s.Names); symbol++ {
		sign := ":"
		if f.Empty(symbol) {
			sign = "?:"
		}
		words := []string{s.Names[symbol] + sign, named(s, f.First(symbol)), "/", named(s, f.Follow(symbol))}
		got = append(got, strings.Join(strings.Fields(strings.Join(words, " ")), " "))
	}
	if !slices.Equal(got, want) {
		t.Errorf("P8.1: of %v\n     %q\nwant %q", s.Rules, got, want)
	}
}

func wantLeftsOf(t *testing.T, text string, want ...string) {
	t.Helper()
	wantLefts(t, specOf(t, text), want...)
}

func TestEmpty(t *testing.T) {
	// By a rule of nothing: the only one, the first, the last, between others.
	wantLeftsOf(t, "%% S : ;", "S?: / $")
	wantLeftsOf(t, "%token a %% S : | a ;", "S?: a / $")
	wantLeftsOf(t, "%token a %% S : a | ;", "S?: a / $")
	wantLeftsOf(t, "%token a %% S : a | | a a ;", "S?: a / $")
	wantLeftsOf(t, "%token a %% S : a ; S : ;", "S?: a / $")
	wantLeftsOf(t, "%% S : S S S | ;", "S?: / $")
	wantLeftsOf(t, "%left a %% S : %prec a ;", "S?: / $")
	// By several rules through one another, whichever way round they stand.
	wantLeftsOf(t, "%% S : A ; A : B ; B : C ; C : ;", "S?: / $", "A?: / $", "B?: / $", "C?: / $")
	wantLeftsOf(t, "%start S %% C : ; B : C ; A : B ; S : A ;", "C?: / $", "B?: / $", "A?: / $", "S?: / $")
	wantLeftsOf(t, "%% S : A B C A ; A : B B ; B : C C | S ; C : ;", "S?: / $", "A?: / $", "B?: / $", "C?: / $")
	wantLeftsOf(t, "%token a b %% S : a | A B ; A : B b | B B ; B : S a | ;", "S?: a b / a $", "A?: a b / a b $", "B?: a b / a b $")
	// Not: each rule has a token or a Left that can't be.
	wantLeftsOf(t, "%token a %% S : a ;", "S: a / $")
	wantLeftsOf(t, "%token a %% S : S S | a ;", "S: a / a $")
	wantLeftsOf(t, "%token a %% S : A a ; A : ;", "S: a / $", "A?: / a")
	wantLeftsOf(t, "%token a %% S : a A ; A : ;", "S: a / $", "A?: / $")
	wantLeftsOf(t, "%token a %% S : A A a A A ; A : ;", "S: a / $", "A?: / a $")
	wantLeftsOf(t, "%token a %% S : A B A ; A : ; B : A a | B A ;", "S: a / $", "A?: / a $", "B: a / $")
	wantLeftsOf(t, "%token a %% S : A B ; A : | a ; B : A C ; C : a | C A ;", "S: a / $", "A?: a / a $", "B: a / $", "C: a / a $")
}

func TestFirst(t *testing.T) {
	// Rising, whatever the order of the rules.
	wantLeftsOf(t, "%token a b c d %% S : d | b | a | c ;", "S: a b c d / $")
	wantLeftsOf(t, "%token a b c d %% S : d a | b c | d | b ;", "S: b d / $")
	// Only what stands first.
	wantLeftsOf(t, "%token a b %% S : b a | b S a ;", "S: b / a $")
	wantLeftsOf(t, "%token a b c %% S : A b ; A : c a ;", "S: c / $", "A: c / b")
	// Behind symbols that can be empty: one, several, all.
	wantLeftsOf(t, "%token a b c %% S : A b ; A : c | ;", "S: b c / $", "A?: c / b")
	wantLeftsOf(t, "%token a b c d %% S : A B C d ; A : c | ; B : b | ; C : a | ;", "S: a b c d / $", "A?: c / a b d", "B?: b / a d", "C?: a / d")
	wantLeftsOf(t, "%token a b c d %% S : A B C ; A : c | ; B : b | ; C : a | ;", "S?: a b c / $", "A?: c / a b $", "B?: b / a $", "C?: a / $")
	wantLeftsOf(t, "%token a b c d %% S : A B C ; A : c | ; B : b ; C : a | ;", "S: b c / $", "A?: c / b", "B: b / a $", "C?: a / $")
	// Behind one that can't be empty though its own first symbol can.
	wantLeftsOf(t, "%token a b c %% S : A c ; A : B b ; B : a | ;", "S: a b / $", "A: a b / c", "B?: a / b")
	// Lefts first in their own rules, and in one another's.
	wantLeftsOf(t, "%token a b %% S : S a | b ;", "S: b / a $")
	wantLeftsOf(t, "%token a b %% S : S a | ;", "S?: a / a $")
	wantLeftsOf(t, "%token a b c d e f g %% S : A a | c ; A : B b | S d ; B : S e | A f | g ;", "S: c g / d e $", "A: c g / a f", "B: c g / b")
	wantLeftsOf(t, "%token a b c %% S : A | a ; A : B | b ; B : S | c ;", "S: a b c / $", "A: a b c / $", "B: a b c / $")
	wantLeftsOf(t, "%token a b c %% S : A S a | ; A : S A b | c | ;", "S?: a b c / a b c $", "A?: a b c / a b c")
}

func TestFollow(t *testing.T) {
	// The end behind Start, and behind nothing else that does not stand last.
	wantLeftsOf(t, "%token l r %% S : l S r | ;", "S?: l / r $")
	wantLeftsOf(t, "%token a b %% S : A b ; A : a ;", "S: a / $", "A: a / b")
	wantLeftsOf(t, "%token a b %start A %% S : A b | a ; A : S | b ;", "S: a b / b $", "A: a b / b $")
	wantLeftsOf(t, "%token a b %start A %% S : A b | a ; A : S a | b ;", "S: a b / a", "A: a b / b $")
	// Rising; of each place where the Left stands; all that what stands behind can begin with.
	wantLeftsOf(t, "%token a b c d %% S : A d | A b | a A c | A A ; A : a ;", "S: a / $", "A: a / a b c d $")
	wantLeftsOf(t, "%token a b c d %% S : A B ; A : a ; B : d | c | b ;", "S: a / $", "A: a / b c d", "B: b c d / $")
	// Behind symbols that can be empty, up to the first that can't.
	wantLeftsOf(t, "%token a b c d %% S : A B C d a ; A : a ; B : b | ; C : c | ;", "S: a / $", "A: a / b c d", "B?: b / c d", "C?: c / d")
	wantLeftsOf(t, "%token a b c d %% S : A B d C ; A : a ; B : b | ; C : c | ;", "S: a / $", "A: a / b d", "B?: b / d", "C?: c / $")
	wantLeftsOf(t, "%token a b c d %% S : A B C ; A : a ; B : b | ; C : c | ;", "S: a / $", "A: a / b c $", "B?: b / c $", "C?: c / $")
	// Where it stands last in another's rule, what can stand behind that one: through several; past what can be empty; round in a ring.
	wantLeftsOf(t, "%token a b c d %% S : a A b ; A : a B ; B : C ; C : c ;", "S: a / $", "A: a / b", "B: c / b", "C: c / b")
	wantLeftsOf(t, "%token a b c d %% S : A b | d ; A : a B | a c A d ; B : C ; C : c ;", "S: a d / $", "A: a / b d", "B: c / b d", "C: c / b d")
	wantLeftsOf(t, "%token a b c d %% S : A b ; A : a B D D ; B : c ; D : d | ;", "S: a / $", "A: a / b", "B: c / b d", "D?: d / b d")
	wantLeftsOf(t, "%token a b c %% S : a A | a ; A : b B | b ; B : c S | c ; S : A a | B b | S c ;", "S: a b c / a b c $", "A: b / a b c $", "B: c / a b c $")
	// What stands last in its own rules only.
	wantLeftsOf(t, "%token a b %% S : A b ; A : a A | a ;", "S: a / $", "A: a / b")
	// Not: what stands behind the Left in whose rule it does not stand last.
	wantLeftsOf(t, "%token a b c %% S : A b ; A : B c ; B : a ;", "S: a / $", "A: a / b", "B: a / c")
}

func TestKnownGrammars(t *testing.T) {
	wantLeftsOf(t, "%token n l r p t %% E : E p T | T ; T : T t F | F ; F : l E r | n ;",
		"E: n l / r p $", "T: n l / r p t $", "F: n l / r p t $")
	wantLeftsOf(t, "%token n l r p t %% E : T X ; X : p T X | ; T : F Y ; Y : t F Y | ; F : l E r | n ;",
		"E: n l / r $", "X?: p / r $", "T: n l / r p $", "Y?: t / r p $", "F: n l / r p t $")
	wantLeftsOf(t, "%token i t e b x %% S : i b t S O | x ; O : e S | ;",
		"S: i x / e $", "O?: e / e $")
	wantLeftsOf(t, "%token a b c d %% S : A B c | d S ; A : a | ; B : b B | ;",
		"S: a b c d / $", "A?: a / b c", "B?: b / c")
}

// The most that well.Of takes.
func TestAtTheLimits(t *testing.T) {
	text := "%token t0 t1 t2 t3 t4 t5 t6 t7 t8 t9 ta tb %start L0 %%"
	var want []string
	for i := range 10 {
		next := "L" + strconv.Itoa((i+1)%10)
		text += fmt.Sprintf(" L%d : %s %s %s %s %s t%d | t%d | ;", i, next, next, next, next, next, i, i)
		want = append(want, fmt.Sprintf("L%d?: t0 t1 t2 t3 t4 t5 t6 t7 t8 t9 / t0 t1 t2 t3 t4 t5 t6 t7 t8 t9", i))
	}
	want[0] += " $"
	wantLeftsOf(t, text, want...)
}

func TestOf(t *testing.T) {
	s := specOf(t, "%token a b c d e %% S : A B C d | D ; A : c | ; B : b | ; C : a | A B ; D : e D | d ;")
	f := New(s)
	for _, x := range [][3]string{
		// No symbols: only what is behind.
		{"", "$", "$"}, {"", "a", "a"}, {"", "e", "e"},
		// All can be empty: what is behind comes in, among them and the end behind all.
		{"A", "$", "c $"}, {"A", "a", "a c"}, {"A", "e", "c e"}, {"A", "c", "c"},
		{"A B", "$", "b c $"}, {"B A", "$", "b c $"}, {"A A A A A A A A", "$", "c $"}, {"A B C", "d", "a b c d"}, {"C", "$", "a b c $"},
		// Not all of them.
		{"a", "$", "a"}, {"a", "b", "a"}, {"e a b", "c", "e"}, {"S", "$", "a b c d e"}, {"D", "a", "d e"}, {"D D", "a", "d e"}, {"S A", "$", "a b c d e"},
		// The one that can't be is the last, stands between, is the first.
		{"A d", "e", "c d"}, {"A B d", "$", "b c d"}, {"B d A", "e", "b d"}, {"A D C", "$", "c d e"}, {"D A B", "c", "d e"}, {"A a B b", "$", "a c"}, {"B B B D", "$", "b d e"},
		// One that can't be, behind one that can't be.
		{"b D a", "c", "b"}, {"A b D", "a", "b c"},
	} {
		got := f.Of(numbered(t, s, x[0]), numbered(t, s, x[1])[0])
		if named(s, got) != x[2] {
			t.Errorf("P8.1: Of(%s, %s) = %s; want %s", x[0], x[1], named(s, got), x[2])
		}
	}
}

// texts are a set of texts over letters of numbers below 64, as far as asked for: is the empty one in it, what do they begin and end with, which stand behind each (as bits)?
type texts struct {
	empty       bool
	first, last uint64
	behind      [64]uint64
}

func letter(n int) texts {
	return texts{first: 1 << n, last: 1 << n}
}

func (a texts) or(b texts) texts {
	c := texts{empty: a.empty || b.empty, first: a.first | b.first, last: a.last | b.last}
	for i := range c.behind {
		c.behind[i] = a.behind[i] | b.behind[i]
	}
	return c
}

func (a texts) then(b texts) texts {
	c := texts{empty: a.empty && b.empty, first: a.first, last: b.last}
	if a.empty {
		c.first |= b.first
	}
	if b.empty {
		c.last |= a.last
	}
	for i := range c.behind {
		c.behind[i] = a.behind[i] | b.behind[i]
		if a.last>>i&1 == 1 {
			c.behind[i] |= b.first
		}
	}
	return c
}

// oracle knows of each symbol the texts of symbols that it derives, itself among them.
type oracle struct {
	s     api.Spec
	forms []texts
}

func oracleOf(s api.Spec) oracle {
	o := oracle{s: s}
	for symbol := range s.Tokens + 1 + s.NTs {
		o.forms = append(o.forms, letter(symbol))
	}
	for grew := true; grew; {
		grew = false
		for _, r := range s.Rules[1:] {
			with := o.forms[r.Left].or(o.row(r.Right))
			grew = grew || with != o.forms[r.Left]
			o.forms[r.Left] = with
		}
	}
	return o
}

func (o oracle) row(symbols []int) texts {
	x := texts{empty: true}
	for _, symbol := range symbols {
		x = x.then(o.forms[symbol])
	}
	return x
}

// list tells the tokens, and the end, of bits.
func (o oracle) list(bits uint64) []int {
	var l []int
	for symbol := range o.s.Tokens + 1 {
		if bits>>symbol&1 == 1 {
			l = append(l, symbol)
		}
	}
	return l
}

func (o oracle) of(symbols []int, behind int) []int {
	return o.list(o.row(symbols).then(letter(behind)).first)
}

func (o oracle) follow(symbol int) []int {
	return o.list(o.forms[o.s.Start].then(letter(o.s.Tokens)).behind[symbol])
}

// wantAll holds all that is told of s against the oracle.
func wantAll(t *testing.T, s api.Spec) {
	t.Helper()
	f, o := New(s), oracleOf(s)
	for symbol := range s.Tokens + 1 + s.NTs {
		if got, want := f.Empty(symbol), o.forms[symbol].empty; got != want {
			t.Fatalf("P8.1: Empty(%d) = %t; want %t; of %v", symbol, got, want, s)
		}
		var first, follow []int
		if symbol != s.Tokens {
			first = o.list(o.forms[symbol].first)
		}
		if symbol > s.Tokens {
			follow = o.follow(symbol)
		}
		if got := f.First(symbol); !slices.Equal(got, first) {
			t.Fatalf("P8.1: First(%d) = %v; want %v; of %v", symbol, got, first, s)
		}
		if got := f.Follow(symbol); !slices.Equal(got, follow) {
			t.Fatalf("P8.1: Follow(%d) = %v; want %v; of %v", symbol, got, follow, s)
		}
	}
	for _, r := range s.Rules[1:] {
		for dot := range len(r.Right) + 1 {
			for behind := range s.Tokens + 1 {
				if got, want := f.Of(r.Right[dot:], behind), o.of(r.Right[dot:], behind); !slices.Equal(got, want) {
					t.Fatalf("P8.1: Of(%v, %d) = %v; want %v; of %v", r.Right[dot:], behind, got, want, s)
				}
			}
		}
	}
}

// random draws a Spec in which Lefts may yield nothing, or not be reached.
func random(r *rand.Rand) api.Spec {
	tokens, nts := r.Intn(5), 1+r.Intn(7)
	s := spec(tokens, nts)
	s.Start = tokens + 1 + r.Intn(nts)
	s.Rules[0].Right[0] = s.Start
	for range r.Intn(3 * nts) {
		x := is(tokens + 1 + r.Intn(nts))
		for range r.Intn(5) {
			symbol := r.Intn(tokens + nts)
			if symbol >= tokens {
				symbol++
			}
			x.Right = append(x.Right, symbol)
		}
		s.Rules = append(s.Rules, x)
	}
	return s
}

// useful tells whether well.Of would make it.
func useful(s api.Spec) bool {
	yields, reached := well.Yields(s), well.Reached(s)
	return !slices.Contains(yields[s.Tokens+1:], false) && !slices.Contains(reached[s.Tokens+1:], false)
}

func TestAtRandom(t *testing.T) {
	r := rand.New(rand.NewSource(81))
	of := 0
	for range 40000 {
		s := random(r)
		wantAll(t, s)
		if useful(s) {
			of++
		}
	}
	if of < 2000 {
		t.Errorf("only %d Specs were such as well.Of makes", of)
	}
}

// Of of all rows of at most three symbols, with each token and the end behind.
func TestOfAllRows(t *testing.T) {
	r := rand.New(rand.NewSource(82))
	for range 60 {
		s := random(r)
		f, o := New(s), oracleOf(s)
		var symbols []int
		for symbol := range s.Tokens + 1 + s.NTs {
			if symbol != s.Tokens {
				symbols = append(symbols, symbol)
			}
		}
		rows := [][]int{nil}
		for i := 0; i < len(rows); i++ {
			for behind := range s.Tokens + 1 {
				if got, want := f.Of(rows[i], behind), o.of(rows[i], behind); !slices.Equal(got, want) {
					t.Fatalf("P8.1: Of(%v, %d) = %v; want %v; of %v", rows[i], behind, got, want, s)
				}
			}
			if len(rows[i]) < 3 {
				for _, symbol := range symbols {
					rows = append(rows, append(slices.Clone(rows[i]), symbol))
				}
			}
		}
	}
}

// derived are all texts of at most seven symbols on the ways to which no text is longer, which the text derives.
func derived(s api.Spec, text string) map[string]bool {
	all := map[string]bool{text: true}
	for todo := []string{text}; len(todo) > 0; {
		now := todo[0]
		todo = todo[1:]
		for i := range len(now) {
			for _, r := range s.Rules[1:] {
				if r.Left != int(now[i]-'0') || len(now)-1+len(r.Right) > 7 {
					continue
				}
				next := now[:i]
				for _, symbol := range r.Right {
					next += strconv.Itoa(symbol)
				}
				next += now[i+1:]
				if !all[next] {
					all[next] = true
					todo = append(todo, next)
				}
			}
		}
	}
	return all
}

// The promise's own words, of all small grammars: a token, two Lefts, two rules of one and one of the other of at most two symbols.
func TestByDerivations(t *testing.T) {
	const end, start = 1, 2
	rights := [][]int{nil, {0}, {2}, {3}, {0, 0}, {0, 2}, {0, 3}, {2, 0}, {2, 2}, {2, 3}, {3, 0}, {3, 2}, {3, 3}}
	for i := range 13 * 13 * 13 * 13 {
		a, b, c, d := i%13, i/13%13, i/13/13%13, i/13/13/13
		if a > b || c > d || a != b && c != d {
			continue
		}
		s := spec(1, 2, is(2, rights[a]...), is(2, rights[b]...), is(3, rights[c]...), is(3, rights[d]...))
		f := New(s)
		for _, symbol := range []int{2, 3} {
			empty, begins := false, false
			for text := range derived(s, strconv.Itoa(symbol)) {
				empty = empty || text == ""
				begins = begins || text != "" && text[0] == '0'
			}
			if f.Empty(symbol) != empty || (len(f.First(symbol)) == 1) != begins {
				t.Fatalf("P8.1: of %v: Empty(%d) = %t, First %v; want %t, %t", s.Rules, symbol, f.Empty(symbol), f.First(symbol), empty, begins)
			}
		}
		var behind [4][2]bool
		for text := range derived(s, strconv.Itoa(start)+strconv.Itoa(end)) {
			for i := range len(text) - 1 {
				if text[i+1] <= '0'+end {
					behind[text[i]-'0'][text[i+1]-'0'] = true
				}
			}
		}
		for _, symbol := range []int{2, 3} {
			if got := f.Follow(symbol); slices.Contains(got, 0) != behind[symbol][0] || slices.Contains(got, end) != behind[symbol][end] {
				t.Fatalf("P8.1: of %v: Follow(%d) = %v; want %v", s.Rules, symbol, got, behind[symbol])
			}
		}
	}
}

// Specs that well.Of does not make: Lefts that yield nothing, or are not reached.
func TestUselessLefts(t *testing.T) {
	// S : a A b | B c ; A : B A ; B : b | ; what A derives begins with b, but no text of tokens comes of it.
	s := spec(3, 3, is(4, 0, 5, 1), is(4, 6, 2), is(5, 6, 5), is(6, 1), is(6))
	s.Names = []string{"a", "b", "c", "", "S", "A", "B"}
	wantLefts(t, s, "S: a b c / $", "A: b / b", "B?: b / b c")
	// Nothing of Start stands behind a symbol in the rules of a Left that is not reached: neither there nor behind it.
	s = spec(3, 3, is(4, 5, 0), is(5, 1), is(6, 5, 2), is(6, 6, 1), is(6, 5))
	s.Names = []string{"a", "b", "c", "", "S", "A", "U"}
	wantLefts(t, s, "S: b / $", "A: b / a", "U: b /")
	// A Left without rules.
	s = spec(1, 2, is(2, 3, 0), is(2))
	s.Names = []string{"a", "", "S", "N"}
	wantLefts(t, s, "S?: / $", "N: / a")
	// Start is not the first Left, and what was Start is not reached.
	s = spec(2, 2, is(3, 4, 0), is(4, 1))
	s.Start, s.Rules[0].Right[0] = 4, 4
	s.Names = []string{"a", "b", "", "S", "T"}
	wantLefts(t, s, "S: b /", "T: b / $")
}

var noSymbols = []int{math.MinInt, math.MinInt + 1, -1 << 40, -3, -2, -1, 7, 8, 14, 15, 1 << 40, math.MaxInt - 7, math.MaxInt - 1, math.MaxInt}

func wantNothing(t *testing.T, what string, f *Sets, symbol int) {
	t.Helper()
	if f.Empty(symbol) || f.First(symbol) != nil || f.Follow(symbol) != nil {
		t.Errorf("P8.1: %s: of %d %t, %v, %v", what, symbol, f.Empty(symbol), f.First(symbol), f.Follow(symbol))
	}
	if got := f.Of([]int{symbol}, 3); got != nil {
		t.Errorf("P8.1: %s: Of(%d) = %v", what, symbol, got)
	}
}

func TestNoSymbol(t *testing.T) {
	// a 0, b 1, the end 2, S 3, A 4, B 5, C 6: there is no 7.
	f := New(specOf(t, "%token a b %% S : A B C ; A : a | ; B : b | ; C : ;"))
	for _, symbol := range noSymbols {
		wantNothing(t, "no symbol", f, symbol)
		for _, syms := range [][]int{{symbol}, {symbol, 0}, {symbol, 4}, {symbol, symbol}} {
			if got := f.Of(syms, 2); got != nil {
				t.Errorf("P8.1: Of(%v, 2) = %v", syms, got)
			}
		}
		// It is no symbol that can be empty: nothing behind it comes in.
		if got := f.Of([]int{4, symbol, 1}, 2); !slices.Equal(got, []int{0}) {
			t.Errorf("P8.1: Of(4 %d 1, 2) = %v", symbol, got)
		}
		if got := f.Of([]int{1, symbol}, 2); !slices.Equal(got, []int{1}) {
			t.Errorf("P8.1: Of(1 %d, 2) = %v", symbol, got)
		}
		if got := f.Of(nil, symbol); got != nil {
			t.Errorf("P8.1: Of(nil, %d) = %v", symbol, got)
		}
		if got := f.Of([]int{4, 5}, symbol); !slices.Equal(got, []int{0, 1}) {
			t.Errorf("P8.1: Of(4 5, %d) = %v", symbol, got)
		}
	}
	// The end among the symbols: with it nothing begins, and it is not empty.
	for _, syms := range [][]int{{2}, {2, 0}, {2, 4}} {
		if got := f.Of(syms, 1); got != nil {
			t.Errorf("P8.1: Of(%v, 1) = %v", syms, got)
		}
	}
	if got := f.Of([]int{4, 2, 1}, 1); !slices.Equal(got, []int{0}) {
		t.Errorf("P8.1: Of(4 2 1, 1) = %v", got)
	}
	// What is neither a token nor the end is not behind.
	for behind := 3; behind < 7; behind++ {
		if got := f.Of([]int{4}, behind); !slices.Equal(got, []int{0}) {
			t.Errorf("P8.1: Of(4, %d) = %v", behind, got)
		}
		if got := f.Of(nil, behind); got != nil {
			t.Errorf("P8.1: Of(nil, %d) = %v", behind, got)
		}
	}
}

func TestNil(t *testing.T) {
	for what, f := range map[string]*Sets{"nil": nil, "not made by New": {}} {
		for _, symbol := range append([]int{0, 1, 2, 3, 4, 5, 6}, noSymbols...) {
			wantNothing(t, what, f, symbol)
			if got := f.Of(nil, symbol); got != nil {
				t.Errorf("P8.1: %s: Of(nil, %d) = %v", what, symbol, got)
			}
			if got := f.Of([]int{0, symbol}, 0); got != nil {
				t.Errorf("P8.1: %s: Of(0 %d, 0) = %v", what, symbol, got)
			}
		}
	}
}

func TestNilLikeEmpty(t *testing.T) {
	full := func(none []int) api.Spec {
		return spec(1, 2, is(2, 3, 0), is(2, 3), api.SRule{Left: 3, Right: none})
	}
	a, b := New(full(nil)), New(full([]int{}))
	if told(a, 5) != told(b, 5) || fmt.Sprint(a.Of(nil, 0)) != fmt.Sprint(a.Of([]int{}, 0)) || fmt.Sprint(a.Of(nil, 0)) != "[0]" {
		t.Errorf("P0.4: %s and %s", told(a, 5), told(b, 5))
	}
	// Names, Levels and Assocs say nothing here.
	s := full(nil)
	s.Names, s.Levels, s.Assocs = nil, nil, []int{}
	if told(New(s), 5) != told(a, 5) {
		t.Errorf("P8.1: without Names: %s", told(New(s), 5))
	}
	// No tokens.
	if got := told(New(spec(0, 1, is(1))), 3); got != "false [] [] []; true [] [0] []; false [] [] []; " {
		t.Errorf("P8.1: without tokens: %s", got)
	}
}

// told is all that f tells of the numbers below n, each of them also in front of the next one.
func told(f *Sets, n int) string {
	var b strings.Builder
	for symbol := range n {
		fmt.Fprint(&b, f.Empty(symbol), f.First(symbol), f.Follow(symbol), f.Of([]int{symbol, symbol + 1}, 0), "; ")
	}
	return b.String()
}

// spoil writes into all of a list, its spare room too.
func spoil(l []int) {
	l = l[:cap(l)]
	for i := range l {
		l[i] = 99
	}
}

const sums = "%token n l r p t %% E : T X ; X : p T X | ; T : F Y ; Y : t F Y | ; F : l E r | n ;"

func TestAnswersAreNewMemory(t *testing.T) {
	f := New(specOf(t, sums))
	before := told(f, 12)
	for symbol := range 12 {
		for what, call := range map[string]func() []int{
			"First":  func() []int { return f.First(symbol) },
			"Follow": func() []int { return f.Follow(symbol) },
			"Of":     func() []int { return f.Of([]int{7, 9}, symbol) },
		} {
			one, other := call(), call()
			want := slices.Clone(other)
			spoil(one)
			if !slices.Equal(other, want) || !slices.Equal(call(), want) || told(f, 12) != before {
				t.Fatalf("P0.3: who writes into %s of %d changes more than that", what, symbol)
			}
		}
	}
}

func TestNothingIsChangedOrKept(t *testing.T) {
	s := specOf(t, sums)
	rooms := make([][]int, len(s.Rules))
	rules := append(slices.Clone(s.Rules), is(88, 88), is(89, 89))
	for i, r := range s.Rules {
		rooms[i] = append(slices.Clone(r.Right), 77, 78)
		rules[i].Right = rooms[i][:len(r.Right)]
	}
	handed := s
	handed.Rules = rules[:len(s.Rules)]
	f := New(handed)
	if got, want := fmt.Sprint(handed), fmt.Sprint(s); got != want {
		t.Errorf("P0.3: New made %s of %s", got, want)
	}
	for i, r := range s.Rules {
		if !slices.Equal(rooms[i], append(slices.Clone(r.Right), 77, 78)) {
			t.Errorf("P0.3: New changed the room behind the rule %d: %v", i, rooms[i])
		}
	}
	if got := fmt.Sprint(rules[len(s.Rules):]); got != fmt.Sprint([]api.SRule{is(88, 88), is(89, 89)}) {
		t.Errorf("P0.3: New changed the room behind the rules: %s", got)
	}
	before := told(f, 12)
	if before != told(New(s), 12) {
		t.Fatal("P0.5: two of one Spec tell unlike things")
	}
	for _, room := range rooms {
		spoil(room)
	}
	for i := range rules {
		rules[i].Left, rules[i].Right = 99, nil
	}
	for i := range s.Names {
		s.Names[i] = "spoiled"
	}
	spoil(s.Levels)
	spoil(s.Assocs)
	if told(f, 12) != before {
		t.Error("P0.3: New keeps what it is handed")
	}
	syms := []int{7, 9, 77, 78}
	f.Of(syms[:2], 0)
	spoil(f.Of(syms[:2], 5))
	f.Of(syms[:1], 3)
	f.Of(syms[:0], 3)
	if !slices.Equal(syms, []int{7, 9, 77, 78}) {
		t.Errorf("P0.3: Of changed what it is handed: %v", syms)
	}
}

// What is told does not hang on what was asked before, nor on other Sets.
func TestAskedInAnyOrder(t *testing.T) {
	f, other := New(specOf(t, sums)), New(specOf(t, "%token a %% S : A B ; A : a | ; B : ;"))
	before, beside := told(f, 12), told(other, 12)
	for symbol := 11; symbol >= 0; symbol-- {
		f.Follow(symbol)
		other.Follow(symbol)
		f.Of([]int{symbol, 7}, 5)
		other.First(symbol)
		f.First(symbol)
		f.Empty(symbol)
		if told(f, 12) != before || told(other, 12) != beside {
			t.Fatalf("P0.5: behind questions of %d other things are told", symbol)
		}
	}
}

// Specs that well.Of never makes are Specs still: what goes through the rules again and again, or keeps all that each symbol begins with, would take too long.
func TestLongSpecs(t *testing.T) {
	const tokens, n = 60000, 60000
	s := spec(tokens, n)
	for i := range n - 1 {
		left := tokens + 1 + i
		s.Rules = append(s.Rules, is(left, left+1, i), is(left, i), is(left))
	}
	last := tokens + n
	s.Rules = append(s.Rules, is(last), is(last, slices.Repeat([]int{last}, n)...))
	// All Lefts in one row: each has all behind it in its Follow.
	row := is(tokens + 1)
	for i := range n {
		row.Right = append(row.Right, tokens+1+i)
	}
	s.Rules = append(s.Rules, row)
	f := New(s)
	for _, i := range []int{0, 1, n / 2, n - 2} {
		left := tokens + 1 + i
		// The end, and all n - 1 tokens with which Lefts begin but 0, which stands only behind the Left 1.
		first, follow := n-1-i, n-1
		if i == 0 {
			first = n - 1
		}
		if i == 1 {
			follow = n
		}
		if l := f.Follow(left); !f.Empty(left) || len(l) != follow || !slices.IsSorted(l) || l[len(l)-1] != tokens {
			t.Fatalf("P8.1: Follow of the Left %d of a long Spec has %d; want %d", i, len(l), follow)
		}
		if l := f.First(left); len(l) != first || !slices.IsSorted(l) || l[len(l)-1] != n-2 {
			t.Fatalf("P8.1: First of the Left %d of a long Spec has %d; want %d", i, len(l), first)
		}
	}
	if !f.Empty(last) || f.First(last) != nil {
		t.Fatalf("P8.1: the last Left of a long Spec: %t, %v", f.Empty(last), f.First(last))
	}
	long := slices.Repeat([]int{last}, 1<<20)
	if got := f.Of(long, 5); !slices.Equal(got, []int{5}) {
		t.Errorf("P8.1: Of of a long row: %v", got)
	}
	if got := f.Of(append(long, 7), 5); !slices.Equal(got, []int{7}) {
		t.Errorf("P8.1: Of of a long row with a token: %v", got)
	}
}

// Of what is no Spec nothing is promised but that the calls end.
func TestWhatIsNoSpec(t *testing.T) {
	numbers := []int{math.MinInt, math.MinInt + 1, -1 << 40, -2, -1, 0, 1, 2, 3, 4, 22, 23, 24, 1 << 20, 1 << 40, math.MaxInt - 1, math.MaxInt}
	rights := [][]int{nil, {0}, {1, 2, 3}, {-1}, {math.MinInt}, {math.MaxInt, 0}, {4, 5, 6}, {3, -7, 2}, {4, 3, 4, 22}}
	lists := [][]string{nil, make([]string, 4), make([]string, 30)}
	for _, tokens := range numbers {
		for _, nts := range numbers {
			for _, start := range numbers {
				s := api.Spec{Tokens: tokens, NTs: nts, Start: start, Names: lists[(len(numbers)+nts%3)%3]}
				for _, left := range numbers {
					for _, right := range rights {
						s.Rules = append(s.Rules, is(left, right...))
					}
				}
				f := New(s)
				for _, symbol := range numbers {
					f.Empty(symbol)
					f.First(symbol)
					f.Follow(symbol)
					f.Of([]int{symbol, start}, symbol)
					f.Of(nil, symbol)
				}
			}
		}
	}
	told(New(api.Spec{}), 3)
	// Rules that no Spec of well.Of has count for nothing.
	whole := New(spec(2, 2, is(3, 4, 0), is(4, 1)))
	s := spec(2, 2, is(3, 4, 0), is(3, 4, 9), is(4), is(4, 1), is(2, 0), is(0), is(-5, 0), is(99), is(4, -1), is(4, 2), is(3, 2, 0))
	s.Rules = slices.Delete(s.Rules, 3, 4)
	if got, want := told(New(s), 7), told(whole, 7); got != want {
		t.Errorf("P8.1: with rules of what is no symbol %s; want %s", got, want)
	}
}
