package pack

import (
	"fmt"
	"math"
	"math/rand"
	"slices"
	"strconv"
	"strings"
	"testing"

	"donatus/api"
	"donatus/num"
	"donatus/read"
	"donatus/table"
	"donatus/well"
)

// specOf is the Spec of the grammar that the text writes.
func specOf(t *testing.T, text string) api.Spec {
	t.Helper()
	g, f := read.Read(text)
	if f != (api.Fault{}) {
		t.Fatalf("Read(%q): %v", text, f)
	}
	s, err := well.Of(g)
	if err != api.OK {
		t.Fatalf("well.Of(%q): %d", text, err)
	}
	return s
}

// spec has tokens and Lefts without names, and the first Left as Start.
func spec(tokens, nts int, rules ...api.SRule) api.Spec {
	whole := is(-1, tokens+1)
	return api.Spec{
		Tokens: tokens, NTs: nts, Start: tokens + 1, Names: make([]string, tokens+1+nts),
		Levels: make([]int, tokens), Assocs: make([]int, tokens), Rules: append([]api.SRule{whole}, rules...),
	}
}

func is(left int, right ...int) api.SRule {
	return api.SRule{Left: left, Right: right}
}

func build(t *testing.T, s api.Spec) *table.Table {
	t.Helper()
	b, err := table.Build(s)
	if err != api.OK {
		t.Fatalf("table.Build(%v): %d", s.Rules[:min(len(s.Rules), 20)], err)
	}
	return b
}

// done tells an Act in short.
func done(x api.Act) string {
	switch x {
	case api.Act{}:
		return "-"
	case api.Act{Kind: api.ActAccept}:
		return "acc"
	case api.Act{Kind: api.ActShift, N: x.N}:
		return "s" + strconv.Itoa(x.N)
	case api.Act{Kind: api.ActReduce, N: x.N}:
		return "r" + strconv.Itoa(x.N)
	}
	return fmt.Sprint(x)
}

// lines tells a Flat: its numbers, its Rows, and each row.
func lines(f Flat) []string {
	all := []string{fmt.Sprint(f.Tokens, f.NTs, f.Conflicts, f.Settled), strings.Trim(fmt.Sprint(f.Rows), "[]")}
	for row := range max(len(f.Acts), len(f.Gotos)) {
		var cells []string
		for _, x := range at(f.Acts, row, nil) {
			cells = append(cells, done(x))
		}
		cells = append(cells, "/")
		for _, to := range at(f.Gotos, row, nil) {
			cells = append(cells, strconv.Itoa(to))
		}
		all = append(all, strings.Join(cells, " "))
	}
	return all
}

// told tells a Flat, but not too much of it.
func told(f Flat) string {
	text := fmt.Sprint(f)
	return text[:min(len(text), 400)]
}

// same tells whether a and b are alike in all; nil is like empty.
func same(a, b Flat) bool {
	return a.Tokens == b.Tokens && a.NTs == b.NTs && a.Conflicts == b.Conflicts && a.Settled == b.Settled &&
		slices.Equal(a.Rows, b.Rows) && slices.EqualFunc(a.Acts, b.Acts, slices.Equal) && slices.EqualFunc(a.Gotos, b.Gotos, slices.Equal)
}

var strange = []int{math.MinInt, math.MinInt + 1, -1 << 40, -121, -2, -1, 120, 121, 1 << 31, 1 << 32, 1 << 40, math.MaxInt - 1, math.MaxInt}

// asTable tells where f tells anything else than the table b of s, of numbers that are states and symbols and of such as are none.
func asTable(f Flat, b *table.Table, s api.Spec) string {
	states, symbols := slices.Clone(strange), slices.Clone(strange)
	for state := -1; state <= b.Len()+1; state++ {
		states = append(states, state)
	}
	for sym := -1; sym <= s.Tokens+s.NTs+2; sym++ {
		symbols = append(symbols, sym)
	}
	for _, state := range states {
		for _, sym := range symbols {
			if got, want := f.Act(state, sym), b.Act(state, sym); got != want {
				return fmt.Sprintf("Act(%d, %d): %v; the table's is %v", state, sym, got, want)
			}
			if got, want := f.Goto(state, sym), b.Goto(state, sym); got != want {
				return fmt.Sprintf("Goto(%d, %d): %d; the table's is %d", state, sym, got, want)
			}
		}
	}
	return ""
}

// plainly flattens by a text of each row.
func plainly(b *table.Table, s api.Spec) Flat {
	f := Flat{Tokens: s.Tokens, NTs: s.NTs, Conflicts: b.Conflicts(), Settled: b.Settled()}
	rows := map[string]int{}
	for state := range b.Len() {
		var acts []api.Act
		for tok := 0; tok <= s.Tokens; tok++ {
			acts = append(acts, b.Act(state, tok))
		}
		var gotos []int
		for sym := s.Tokens + 1; sym <= s.Tokens+s.NTs; sym++ {
			gotos = append(gotos, b.Goto(state, sym))
		}
		text := fmt.Sprint(acts, gotos)
		if _, ok := rows[text]; !ok {
			rows[text] = len(rows)
			f.Acts, f.Gotos = append(f.Acts, acts), append(f.Gotos, gotos)
		}
		f.Rows = append(f.Rows, rows[text])
	}
	return f
}

// wantFlat flattens the table of s, and holds it against the chapter's words.
func wantFlat(t *testing.T, s api.Spec) Flat {
	t.Helper()
	b := build(t, s)
	f := Flatten(b, s)
	if want := plainly(b, s); !same(f, want) {
		t.Fatalf("P12.1: Flatten of %v\n     %s\nwant %s", s, strings.Join(lines(f), "\n     "), strings.Join(lines(want), "\n     "))
	}
	if wrong := asTable(f, b, s); wrong != "" {
		t.Fatalf("P12.1: of %v, %s", s, wrong)
	}
	return f
}

// wantBack holds Encode and Decode of what may be against each other, and tells the bytes.
func wantBack(t *testing.T, f Flat) []byte {
	t.Helper()
	b := Encode(f)
	if !May(f) || b == nil {
		t.Fatalf("P12.1: %s may be, but May: %v, Encode: %v", told(f), May(f), b)
	}
	g, err := Decode(b)
	if err != api.OK || !same(f, g) {
		t.Fatalf("P12.1: Decode of Encode of %s: %s, %d", told(f), told(g), err)
	}
	return b
}

func TestFlattenByHand(t *testing.T) {
	for _, x := range []struct {
		text string
		want []string
	}{
		// The least that a grammar can be; the end is a number of its own.
		{"%% S : ;", []string{"0 1 0 0", "0 1", "r1 / 1", "acc / -1"}},
		{"%token n %left p %% E : E p E | n ;", []string{
			"2 1 0 1", "0 1 2 3 4",
			"s1 - - / 2",
			"- r2 r2 / -1",
			"- s3 acc / -1",
			"s1 - - / 4",
			"- r1 r1 / -1",
		}},
		// The states 4 and 6 do alike, and stand once; what comes behind them goes on with the next number.
		{"%token a b c e %% S : a A e | b A e | b B e ; A : c ; B : c ;", []string{
			"4 3 1 0", "0 1 2 3 4 5 4 6 7 8 9 10",
			"s1 s2 - - - / 3 -1 -1",
			"- - s4 - - / -1 5 -1",
			"- - s6 - - / -1 7 8",
			"- - - - acc / -1 -1 -1",
			"- - - r4 - / -1 -1 -1",
			"- - - s9 - / -1 -1 -1",
			"- - - s10 - / -1 -1 -1",
			"- - - s11 - / -1 -1 -1",
			"- - - - r1 / -1 -1 -1",
			"- - - - r2 / -1 -1 -1",
			"- - - - r3 / -1 -1 -1",
		}},
		// The states 0 and 2 do alike, but lead elsewhere; most others lead nowhere, but do other things.
		{"%token n p l r %% E : E p T | T ; T : l E r | n ;", []string{
			"4 2 0 0", "0 1 2 3 4 5 6 7 8",
			"s1 - s2 - - / 3 4",
			"- r4 - r4 r4 / -1 -1",
			"s1 - s2 - - / 5 4",
			"- s6 - - acc / -1 -1",
			"- r2 - r2 r2 / -1 -1",
			"- s6 - s7 - / -1 -1",
			"s1 - s2 - - / -1 8",
			"- r3 - r3 r3 / -1 -1",
			"- r1 - r1 r1 / -1 -1",
		}},
	} {
		f := wantFlat(t, specOf(t, x.text))
		if got := lines(f); !slices.Equal(got, x.want) {
			t.Errorf("P12.1: Flatten of %q\n     %s\nwant %s", x.text, strings.Join(got, "\n     "), strings.Join(x.want, "\n     "))
		}
		wantBack(t, f)
	}
}

// random draws a Spec that well.Of lets through.
func random(r *rand.Rand) api.Spec {
	for {
		g := api.Gram{Start: "S"}
		for _, name := range []string{"a", "b", "c", "d"}[:r.Intn(5)] {
			g.Tokens = append(g.Tokens, api.Tok{Name: name})
		}
		if r.Intn(2) == 0 && len(g.Tokens) > 0 {
			g.Tokens[r.Intn(len(g.Tokens))] = api.Tok{Name: "l", Level: 1, Assoc: 1 + r.Intn(3)}
		}
		lefts := []string{"S", "T", "U", "V", "W"}[:1+r.Intn(5)]
		symbols := slices.Clone(lefts)
		for _, tok := range g.Tokens {
			symbols = append(symbols, tok.Name)
		}
		longest := 2 + r.Intn(4)
		for n := range len(lefts) + r.Intn(7) {
			rule := api.Rule{Left: lefts[(n+r.Intn(1+n))%len(lefts)]}
			for range r.Intn(longest) {
				rule.Right = append(rule.Right, symbols[r.Intn(len(symbols))])
			}
			g.Rules = append(g.Rules, rule)
		}
		if s, err := well.Of(g); err == api.OK {
			return s
		}
	}
}

func TestRandomTables(t *testing.T) {
	r := rand.New(rand.NewSource(12))
	texts := map[string]string{}
	alike, both := 0, 0
	for range 3000 {
		f := wantFlat(t, random(r))
		text := fmt.Sprint(f)
		b := string(wantBack(t, f))
		if was, ok := texts[b]; ok && was != text {
			t.Fatalf("P12.1: Encode of %s and of %s are alike", was, text)
		}
		texts[b] = text
		if len(f.Rows) > len(f.Acts) {
			alike++
		}
		if f.Conflicts > 0 && f.Settled > 0 {
			both++
		}
	}
	if len(texts) < 1500 || alike < 100 || both < 100 {
		t.Errorf("only %d unlike tables, %d with alike rows, %d with conflicts and settled were met", len(texts), alike, both)
	}
}

// The most of all that well.Of lets through, and as many states as there may be.
func TestGreatTables(t *testing.T) {
	s := spec(1, 1, is(2, slices.Repeat([]int{0}, 118)...))
	if f := wantFlat(t, s); len(f.Rows) != 120 || len(f.Acts) != 120 {
		t.Errorf("P12.1: of 120 states %d, %d", len(f.Rows), len(f.Acts))
	} else {
		wantBack(t, f)
	}
	text := "%token a b c d e f g h i j k l %% "
	for i := range 10 {
		left, next := "N"+strconv.Itoa(i), "N"+strconv.Itoa((i+1)%10)
		text += left + " : " + "abcdefghij"[i:i+1] + " k l " + next + " | l ; "
	}
	f := wantFlat(t, specOf(t, text))
	if f.Tokens != 12 || f.NTs != 10 {
		t.Errorf("P12.1: Tokens, NTs: %d, %d", f.Tokens, f.NTs)
	}
	wantBack(t, f)
	// 10 rules of each of three Lefts, all of nothing: each place has many conflicts.
	text = "%token a b c d e f g h i j k l %% S : T U T U T U"
	for _, left := range []string{"S", "T", "U"} {
		if left != "S" {
			text += "; " + left + " : "
		}
		text += strings.Repeat(" | ", 9)
	}
	f = wantFlat(t, specOf(t, text+";"))
	if f.Conflicts < 50 {
		t.Errorf("only %d conflicts", f.Conflicts)
	}
	wantBack(t, f)
}

func TestFlattenOfNil(t *testing.T) {
	s := specOf(t, "%token n %left p %% E : E p E | n ;")
	for _, b := range []*table.Table{nil, {}} {
		f := Flatten(b, s)
		if !same(f, Flat{Tokens: 2, NTs: 1}) {
			t.Errorf("P12.1: Flatten of nil: %v", f)
		}
		if wrong := asTable(f, b, s); wrong != "" {
			t.Errorf("P12.1: of nil, %s", wrong)
		}
		if May(f) || Encode(f) != nil {
			t.Errorf("P12.1: of nil May: %v, Encode: %v", May(f), Encode(f))
		}
		if f := Flatten(b, api.Spec{}); !same(f, Flat{}) {
			t.Errorf("P12.1: Flatten of nil and no Spec: %v", f)
		}
	}
}

// Flatten goes by the numbers of the Spec that it is handed, whatever the table was made of.
func TestFlattenByAnotherSpec(t *testing.T) {
	s := specOf(t, "%token n %left p %% E : E p E | n ;")
	b := build(t, s)
	for _, x := range []struct {
		tokens, nts int
		want        []string
	}{
		{2, 1, []string{"2 1 0 1", "0 1 2 3 4", "s1 - - / 2", "- r2 r2 / -1", "- s3 acc / -1", "s1 - - / 4", "- r1 r1 / -1"}},
		{2, 0, []string{"2 0 0 1", "0 1 2 0 3", "s1 - - /", "- r2 r2 /", "- s3 acc /", "- r1 r1 /"}},
		{2, 2, []string{"2 2 0 1", "0 1 2 3 4", "s1 - - / 2 -1", "- r2 r2 / -1 -1", "- s3 acc / -1 -1", "s1 - - / 4 -1", "- r1 r1 / -1 -1"}},
		{1, 1, []string{"1 1 0 1", "0 1 2 0 3", "s1 - / -1", "- r2 / -1", "- s3 / -1", "- r1 / -1"}},
		{0, 3, []string{"0 3 0 1", "0 1 1 2 1", "s1 / -1 -1 2", "- / -1 -1 -1", "s1 / -1 -1 4"}},
		{3, 1, []string{"3 1 0 1", "0 1 2 0 3", "s1 - - - / -1", "- r2 r2 - / -1", "- s3 acc - / -1", "- r1 r1 - / -1"}},
		{0, 0, []string{"0 0 0 1", "0 1 1 0 1", "s1 /", "- /"}},
		{-1, 4, []string{"-1 4 0 1", "0 1 1 2 1", "/ -1 -1 -1 2", "/ -1 -1 -1 -1", "/ -1 -1 -1 4"}},
		{-1, 3, []string{"-1 3 0 1", "0 0 0 0 0", "/ -1 -1 -1"}},
		{2, -1, []string{"2 -1 0 1", "0 1 2 0 3", "s1 - - /", "- r2 r2 /", "- s3 acc /", "- r1 r1 /"}},
		{-1, -1, []string{"-1 -1 0 1", "0 0 0 0 0", "/"}},
	} {
		f := Flatten(b, api.Spec{Tokens: x.tokens, NTs: x.nts})
		if got := lines(f); !slices.Equal(got, x.want) {
			t.Errorf("P12.1: Flatten with %d tokens, %d others\n     %s\nwant %s", x.tokens, x.nts, strings.Join(got, "\n     "), strings.Join(x.want, "\n     "))
		}
	}
	if f := Flatten(b, api.Spec{}); f.Tokens != 0 || f.NTs != 0 || f.Conflicts != 0 || f.Settled != 1 || May(f) {
		t.Errorf("P12.1: Flatten with no Spec: %v", f)
	}
}

// Numbers that no Spec has make no rows that can't be laid out, and no call fail.
func TestFlattenOfHugeNumbers(t *testing.T) {
	b := build(t, specOf(t, "%token n %left p %% E : E p E | n ;"))
	numbers := append([]int{0, 1, 2, 999, 1000, 1001, 1 << 20}, strange...)
	for _, tokens := range numbers {
		for _, nts := range numbers {
			s := api.Spec{Tokens: tokens, NTs: nts, Start: nts}
			f := Flatten(b, s)
			if f.Tokens != tokens || f.NTs != nts || f.Conflicts != 0 || f.Settled != 1 {
				t.Fatalf("P12.1: Flatten with %d tokens, %d others: %d, %d, %d, %d", tokens, nts, f.Tokens, f.NTs, f.Conflicts, f.Settled)
			}
			if len(f.Acts) != len(f.Gotos) || (tokens > 1000 || nts > 1000) != (len(f.Rows) == 0) {
				t.Fatalf("P12.1: Flatten with %d tokens, %d others has %d states, %d, %d rows", tokens, nts, len(f.Rows), len(f.Acts), len(f.Gotos))
			}
			if May(f) != (tokens >= 0 && tokens <= 12 && nts >= 1 && nts <= 10) {
				t.Fatalf("P12.1: May of %s: %v", told(f), May(f))
			}
			for _, sym := range numbers {
				want, to := b.Act(2, sym), -1
				if len(f.Rows) == 0 || sym > tokens {
					want = api.Act{}
				}
				if got := f.Act(2, sym); got != want {
					t.Fatalf("P12.1: with %d tokens, %d others Act(2, %d): %v; want %v", tokens, nts, sym, got, want)
				}
				if sym == 3 && tokens >= 0 && tokens < 3 && nts >= 3-tokens {
					to = 2
				}
				if got := f.Goto(0, sym); len(f.Rows) > 0 && got != to {
					t.Fatalf("P12.1: with %d tokens, %d others Goto(0, %d): %d; want %d", tokens, nts, sym, got, to)
				}
			}
		}
	}
	for _, x := range []api.Spec{{Tokens: 1 << 40, Rules: []api.SRule{{Left: -1}}}, {Tokens: math.MaxInt, NTs: math.MaxInt, Rules: []api.SRule{{Left: -1}}}, {Tokens: -7, NTs: 9}} {
		if f := Flatten(build(t, x), x); f.Tokens != x.Tokens || May(f) || Encode(f) != nil {
			t.Errorf("P12.1: Flatten of %v: %v", x, f)
		}
	}
}

func TestLongSpecs(t *testing.T) {
	// As many symbols as there are names are laid out.
	s := spec(30000, 30000, is(30001))
	for i := range 29999 {
		s.Rules = append(s.Rules, is(30002+i, i))
	}
	b := build(t, s)
	f := Flatten(b, s)
	if len(f.Rows) != 2 || len(f.Acts) != 2 || f.Act(0, 30000) != (api.Act{Kind: api.ActReduce, N: 1}) || f.Act(1, 30000) != (api.Act{Kind: api.ActAccept}) || f.Goto(0, 30001) != 1 || f.Goto(0, 60000) != -1 || May(f) {
		t.Errorf("P12.1: of a long Spec: %d, %d, %v", len(f.Rows), len(f.Acts), f.Act(0, 30000))
	}
	s.Names = nil
	if f := Flatten(b, s); len(f.Rows) != 0 {
		t.Errorf("P12.1: of a long Spec without names: %d", len(f.Rows))
	}
	// Long lists are gone through, and may not be.
	f = least()
	f.Rows = make([]int, 1<<22)
	if May(f) || Encode(f) != nil {
		t.Error("P12.1: with many states May")
	}
	f.Acts, f.Gotos = make([][]api.Act, 1<<22), make([][]int, 1<<22)
	for i := range f.Rows {
		f.Rows[i] = i
	}
	if May(f) || Encode(f) != nil {
		t.Error("P12.1: with many rows May")
	}
	f = least()
	f.Acts[0], f.Gotos[0] = make([]api.Act, 1<<22), make([]int, 1<<22)
	f.Tokens, f.NTs = 1<<22-1, 1<<22
	if May(f) || Encode(f) != nil || f.Act(0, 1<<22-1) != (api.Act{}) || f.Goto(0, 1<<22) != 0 {
		t.Error("P12.1: with long rows May")
	}
	for _, b := range [][]byte{make([]byte, 1<<24), slices.Repeat([]byte{255}, 1<<24), slices.Repeat([]byte{1}, 1<<24), append(Encode(least()), make([]byte, 1<<24)...)} {
		if f, err := Decode(b); err != api.ErrCorrupt || !same(f, Flat{}) {
			t.Errorf("P12.1: Decode of long bytes: %s, %d", told(f), err)
		}
	}
}

// least is the least that may be.
func least() Flat {
	return Flat{NTs: 1, Rows: []int{0}, Acts: [][]api.Act{{{}}}, Gotos: [][]int{{-1}}}
}

// greatest is the greatest that may be: all at its most, but what rows need to be unlike.
func greatest() Flat {
	f := Flat{Tokens: 12, NTs: 10, Conflicts: 100000, Settled: 100000}
	for row := range 120 {
		acts := slices.Repeat([]api.Act{{Kind: api.ActReduce, N: 119}}, 13)
		acts[12] = api.Act{Kind: api.ActShift, N: 119}
		gotos := slices.Repeat([]int{119}, 10)
		gotos[row%10] -= 1 + row/10
		f.Rows, f.Acts, f.Gotos = append(f.Rows, row), append(f.Acts, acts), append(f.Gotos, gotos)
	}
	acts := f.Acts[119]
	acts[0], acts[11] = api.Act{Kind: api.ActAccept}, api.Act{}
	f.Gotos[0][0] = -1
	return f
}

// some is one between them: of two tokens, two others, five states and three rows.
func some() Flat {
	return Flat{
		Tokens: 2, NTs: 2, Conflicts: 3, Settled: 5, Rows: []int{0, 1, 0, 2, 1},
		Acts: [][]api.Act{
			{{Kind: api.ActShift, N: 4}, {Kind: api.ActReduce, N: 7}, {Kind: api.ActNone}},
			{{Kind: api.ActNone}, {Kind: api.ActShift, N: 119}, {Kind: api.ActAccept}},
			{{Kind: api.ActShift, N: 4}, {Kind: api.ActReduce, N: 7}, {Kind: api.ActNone}},
		},
		Gotos: [][]int{{-1, 3}, {119, 0}, {-1, -1}},
	}
}

// copied is f in memory of its own.
func copied(f Flat) Flat {
	f.Rows = slices.Clone(f.Rows)
	f.Acts, f.Gotos = slices.Clone(f.Acts), slices.Clone(f.Gotos)
	for row := range f.Acts {
		f.Acts[row] = slices.Clone(f.Acts[row])
	}
	for row := range f.Gotos {
		f.Gotos[row] = slices.Clone(f.Gotos[row])
	}
	return f
}

// wantMay holds May against want, and Encode against May.
func wantMay(t *testing.T, what string, f Flat, want bool) {
	t.Helper()
	if got := May(f); got != want {
		t.Errorf("P12.1: %s: May of %s: %v", what, told(f), got)
		return
	}
	if want {
		wantBack(t, f)
		return
	}
	if b := Encode(f); b != nil {
		t.Errorf("P12.1: %s: Encode of %s: %v", what, told(f), b)
	}
}

// extend has f's rows with n Acts and m Gotos each.
func extend(f *Flat, n, m int) {
	for row := range f.Acts {
		f.Acts[row] = append(f.Acts[row], make([]api.Act, 20)...)[:n]
		f.Gotos[row] = append(f.Gotos[row], make([]int, 20)...)[:m]
	}
}

func TestMayOfNumbers(t *testing.T) {
	wantMay(t, "least", least(), true)
	wantMay(t, "some", some(), true)
	wantMay(t, "greatest", greatest(), true)
	wantMay(t, "zero", Flat{}, false)
	for tokens := -2; tokens <= 14; tokens++ {
		f := some()
		extend(&f, max(tokens, -1)+1, 2)
		f.Tokens = tokens
		// The rows are unlike by their Gotos.
		wantMay(t, fmt.Sprintf("Tokens %d", tokens), f, tokens >= 0 && tokens <= 12)
	}
	for nts := -1; nts <= 12; nts++ {
		f := some()
		extend(&f, 3, max(nts, 0))
		f.Acts[2][0].N = 5
		f.NTs = nts
		wantMay(t, fmt.Sprintf("NTs %d", nts), f, nts >= 1 && nts <= 10)
	}
	for _, n := range append([]int{-2, -1, 0, 1, 2, 63, 64, 8191, 8192, 99999, 100000, 100001, 100002}, strange...) {
		f := some()
		f.Conflicts = n
		wantMay(t, fmt.Sprintf("Conflicts %d", n), f, n >= 0 && n <= 100000)
		f = some()
		f.Settled = n
		wantMay(t, fmt.Sprintf("Settled %d", n), f, n >= 0 && n <= 100000)
		f = some()
		f.Tokens = n
		wantMay(t, fmt.Sprintf("Tokens %d alone", n), f, n == 2)
		f = some()
		f.NTs = n
		wantMay(t, fmt.Sprintf("NTs %d alone", n), f, n == 2)
	}
}

func TestMayOfRows(t *testing.T) {
	for states := range 130 {
		f := some()
		f.Rows = append(f.Rows, make([]int, 130)...)[:states]
		wantMay(t, fmt.Sprintf("%d states", states), f, states >= 4 && states <= 120)
	}
	for rows := range 130 {
		f := least()
		f.Rows, f.Acts, f.Gotos = nil, nil, nil
		for row := range rows {
			f.Rows = append(f.Rows, row)
			f.Acts = append(f.Acts, []api.Act{{Kind: api.ActShift, N: row % 12}})
			f.Gotos = append(f.Gotos, []int{row / 12})
		}
		wantMay(t, fmt.Sprintf("%d rows", rows), f, rows >= 1 && rows <= 120)
	}
	// All lists of up to five Rows, of three rows that are there.
	lists := [][]int{nil}
	for i := 0; i < len(lists); i++ {
		if len(lists[i]) < 5 {
			for row := -1; row <= 3; row++ {
				lists = append(lists, append(slices.Clone(lists[i]), row))
			}
		}
		f := some()
		f.Rows = lists[i]
		var first []int
		for _, row := range f.Rows {
			if !slices.Contains(first, row) {
				first = append(first, row)
			}
		}
		wantMay(t, fmt.Sprint("Rows ", f.Rows), f, slices.Equal(first, []int{0, 1, 2}))
	}
	for _, n := range strange {
		for i := range 5 {
			f := some()
			f.Rows[i] = n
			wantMay(t, fmt.Sprint("Rows ", f.Rows), f, false)
		}
	}
}

func TestMayOfLists(t *testing.T) {
	for what, change := range map[string]func(f *Flat){
		"no Acts":               func(f *Flat) { f.Acts = nil },
		"no Gotos":              func(f *Flat) { f.Gotos = nil },
		"neither":               func(f *Flat) { f.Acts, f.Gotos = nil, nil },
		"less Acts":             func(f *Flat) { f.Acts = f.Acts[:2] },
		"less Gotos":            func(f *Flat) { f.Gotos = f.Gotos[:2] },
		"less of both":          func(f *Flat) { f.Acts, f.Gotos = f.Acts[:2], f.Gotos[:2] },
		"more Acts":             func(f *Flat) { f.Acts = append(f.Acts, make([]api.Act, 3)) },
		"more Gotos":            func(f *Flat) { f.Gotos = append(f.Gotos, make([]int, 2)) },
		"more of both":          func(f *Flat) { f.Acts, f.Gotos = append(f.Acts, make([]api.Act, 3)), append(f.Gotos, make([]int, 2)) },
		"a first row too short": func(f *Flat) { f.Acts[0] = f.Acts[0][:2] },
		"a last row too short":  func(f *Flat) { f.Acts[2] = f.Acts[2][:2] },
		"a first row too long":  func(f *Flat) { f.Acts[0] = append(f.Acts[0], api.Act{}) },
		"a last row too long":   func(f *Flat) { f.Acts[2] = append(f.Acts[2], api.Act{}) },
		"a row that is empty":   func(f *Flat) { f.Acts[1] = nil },
		"Gotos too short":       func(f *Flat) { f.Gotos[0] = f.Gotos[0][:1] },
		"last Gotos too short":  func(f *Flat) { f.Gotos[2] = f.Gotos[2][:1] },
		"Gotos too long":        func(f *Flat) { f.Gotos[0] = append(f.Gotos[0], 0) },
		"last Gotos too long":   func(f *Flat) { f.Gotos[2] = append(f.Gotos[2], 0) },
		"Gotos that are empty":  func(f *Flat) { f.Gotos[1] = nil },
		"two rows alike":        func(f *Flat) { f.Gotos[2] = f.Gotos[0] },
		"others alike":          func(f *Flat) { f.Acts[1], f.Gotos[1] = f.Acts[2], f.Gotos[2] },
		"the first two alike":   func(f *Flat) { f.Acts[1], f.Gotos[1] = f.Acts[0], f.Gotos[0] },
		"an Act for a Goto":     func(f *Flat) { f.Acts[0], f.Gotos[0] = append(f.Acts[0], api.Act{}), f.Gotos[0][:1] },
	} {
		f := some()
		change(&f)
		wantMay(t, what, f, false)
	}
	// Unlike in one thing, whatever it is.
	for i := range 3 {
		f := some()
		f.Gotos[2] = f.Gotos[0]
		f.Acts[2][i] = api.Act{Kind: api.ActShift, N: 9}
		wantMay(t, "unlike in an Act", f, true)
	}
	f := some()
	f.Gotos[2] = f.Gotos[0]
	f.Acts[2][0].Kind = api.ActReduce
	wantMay(t, "unlike in a Kind", f, true)
	f.Acts[2][0] = api.Act{Kind: api.ActShift, N: 3}
	wantMay(t, "unlike in an N", f, true)
	f.Acts[2][0] = f.Acts[0][0]
	wantMay(t, "alike", f, false)
}

func TestMayOfActsAndGotos(t *testing.T) {
	numbers := append([]int{0, 1, 2, 3, 63, 64, 118, 119}, strange...)
	for row := range 3 {
		for i := range 3 {
			for kind := -2; kind <= 6; kind++ {
				for _, n := range numbers {
					f := some()
					// So that no other row is like this one.
					f.Gotos[row] = []int{40, 41}
					f.Acts[row][i] = api.Act{Kind: kind, N: n}
					may := n >= 0 && n <= 119 && (kind == api.ActShift || kind == api.ActReduce) || n == 0 && (kind == api.ActNone || kind == api.ActAccept)
					wantMay(t, fmt.Sprintf("Kind %d, N %d", kind, n), f, may)
				}
			}
			for _, kind := range strange {
				f := some()
				f.Acts[row][i] = api.Act{Kind: kind}
				wantMay(t, fmt.Sprintf("Kind %d", kind), f, false)
			}
		}
		for i := range 2 {
			for _, n := range numbers {
				f := some()
				f.Gotos[row] = []int{40, 41}
				f.Gotos[row][i] = n
				wantMay(t, fmt.Sprintf("a Goto %d", n), f, n >= -1 && n <= 119)
			}
		}
	}
}

// plainMay says the chapter's words one by one.
func plainMay(f Flat) bool {
	if f.Tokens < 0 || f.Tokens > 12 || f.NTs < 1 || f.NTs > 10 || f.Conflicts < 0 || f.Conflicts > 100000 || f.Settled < 0 || f.Settled > 100000 {
		return false
	}
	if len(f.Rows) < 1 || len(f.Rows) > 120 || len(f.Acts) != len(f.Gotos) {
		return false
	}
	came := map[int]bool{}
	for _, row := range f.Rows {
		if row < 0 || row >= len(f.Acts) || !came[row] && row != len(came) {
			return false
		}
		came[row] = true
	}
	unlike := map[string]bool{}
	for row := range f.Acts {
		if !came[row] || len(f.Acts[row]) != f.Tokens+1 || len(f.Gotos[row]) != f.NTs {
			return false
		}
		for _, x := range f.Acts[row] {
			if x.Kind < 0 || x.Kind > 3 || x.N < 0 || x.N > 119 || x.N != 0 && (x.Kind == 0 || x.Kind == 3) {
				return false
			}
		}
		for _, to := range f.Gotos[row] {
			if to < -1 || to > 119 {
				return false
			}
		}
		unlike[fmt.Sprint(f.Acts[row], f.Gotos[row])] = true
	}
	return len(unlike) == len(f.Acts)
}

// drawn draws a Flat that mostly may be.
func drawn(r *rand.Rand) Flat {
	f := Flat{Tokens: r.Intn(3), NTs: 1 + r.Intn(2), Conflicts: r.Intn(3) * r.Intn(99), Settled: r.Intn(3) * r.Intn(99)}
	rows := 0
	for range 1 + r.Intn(5) {
		row := r.Intn(rows + 1)
		rows = max(rows, row+1)
		f.Rows = append(f.Rows, row)
	}
	for range rows {
		var acts []api.Act
		for range f.Tokens + 1 {
			acts = append(acts, []api.Act{{}, {Kind: 1, N: r.Intn(120)}, {Kind: 2, N: r.Intn(120)}, {Kind: 3}}[r.Intn(4)])
		}
		var gotos []int
		for range f.NTs {
			gotos = append(gotos, -1+r.Intn(121))
		}
		f.Acts, f.Gotos = append(f.Acts, acts), append(f.Gotos, gotos)
	}
	return f
}

// changed is f with one number changed by a little, or one list by an element.
func changed(r *rand.Rand, f Flat) Flat {
	f = copied(f)
	by := []int{-2, -1, 1, 2, 3, 4}[r.Intn(6)]
	row := r.Intn(len(f.Acts))
	switch r.Intn(14) {
	case 0:
		f.Tokens += by
	case 1:
		f.NTs += by
	case 2:
		f.Conflicts += by
	case 3:
		f.Settled += by
	case 4, 5:
		f.Rows[r.Intn(len(f.Rows))] += by
	case 6:
		f.Rows = f.Rows[:len(f.Rows)-1]
	case 7:
		f.Rows = append(f.Rows, r.Intn(4))
	case 8, 9:
		f.Acts[row][r.Intn(len(f.Acts[row]))].N += by
	case 10:
		f.Acts[row][r.Intn(len(f.Acts[row]))].Kind += by
	case 11:
		f.Gotos[row][r.Intn(len(f.Gotos[row]))] += by
	case 12:
		f.Acts[row] = f.Acts[row][1:]
	case 13:
		other := r.Intn(len(f.Acts))
		f.Acts[row], f.Gotos[row] = slices.Clone(f.Acts[other]), slices.Clone(f.Gotos[other])
	}
	return f
}

// What may be has bytes of its own, and what may not be has none; nor are the bytes that it would have any that Decode takes for it.
func TestRandomFlats(t *testing.T) {
	r := rand.New(rand.NewSource(13))
	may, mayNot := 0, 0
	for range 60000 {
		f := drawn(r)
		g := changed(r, f)
		for _, x := range []Flat{f, g} {
			want := plainMay(x)
			wantMay(t, "drawn", x, want)
			if want {
				may++
				continue
			}
			mayNot++
			if len(x.Acts) != len(x.Gotos) {
				continue
			}
			if y, err := Decode(x.bytes()); err == api.OK && (same(x, y) || !slices.Equal(Encode(y), x.bytes())) {
				t.Fatalf("P12.1: Decode of the bytes of %v, which may not be: %v", x, y)
			}
		}
		if !same(f, g) && May(f) && May(g) && slices.Equal(Encode(f), Encode(g)) {
			t.Fatalf("P12.1: Encode of %v and of %v are alike", f, g)
		}
	}
	if may < 50000 || mayNot < 20000 {
		t.Errorf("%d that may be and %d that may not were met", may, mayNot)
	}
}

// All Flats of up to three states, one token or none, and a few Acts and Gotos have bytes of their own.
func TestSmallFlats(t *testing.T) {
	texts := map[string]bool{}
	n := 0
	count := func(f Flat) {
		b := wantBack(t, f)
		if texts[string(b)] {
			t.Fatalf("P12.1: Encode of %v is as that of another", f)
		}
		texts[string(b)] = true
		n++
	}
	var acts [][]api.Act
	var gotos [][]int
	for _, act := range []api.Act{{}, {Kind: 1}, {Kind: 1, N: 1}, {Kind: 2}, {Kind: 3}} {
		for to := -1; to <= 1; to++ {
			acts, gotos = append(acts, []api.Act{act}), append(gotos, []int{to})
		}
	}
	for a := range acts {
		for _, rows := range [][]int{{0}, {0, 0}, {0, 0, 0}} {
			count(Flat{NTs: 1, Rows: rows, Acts: acts[a : a+1], Gotos: gotos[a : a+1]})
		}
		for b := range acts {
			if a == b {
				continue
			}
			x, y := [][]api.Act{acts[a], acts[b]}, [][]int{gotos[a], gotos[b]}
			for _, rows := range [][]int{{0, 1}, {0, 0, 1}, {0, 1, 0}, {0, 1, 1}} {
				count(Flat{NTs: 1, Rows: rows, Acts: x, Gotos: y})
			}
			if b%3 == 0 {
				count(Flat{Tokens: 1, NTs: 1, Rows: []int{0}, Acts: [][]api.Act{append(slices.Clone(acts[a]), acts[b]...)}, Gotos: gotos[a : a+1]})
			}
			count(Flat{NTs: 2, Rows: []int{0}, Acts: acts[a : a+1], Gotos: [][]int{append(slices.Clone(gotos[a]), gotos[b]...)}, Conflicts: b})
			for c := range acts {
				if c != a && c != b {
					count(Flat{NTs: 1, Rows: []int{0, 1, 2}, Acts: append(x[:2:2], acts[c]), Gotos: append(y[:2:2], gotos[c])})
				}
			}
		}
	}
	if n != 3*15+5*15*14+15*5-5+15*14*13 {
		t.Errorf("%d Flats", n)
	}
}

// wantJust holds Decode of b: just the Flat whose bytes these are, or nothing. It tells whether there is one.
func wantJust(t *testing.T, b []byte) bool {
	t.Helper()
	f, err := Decode(b)
	switch err {
	case api.OK:
		if !May(f) || !slices.Equal(Encode(f), b) {
			t.Fatalf("P12.1: Decode of % x: %s, whose bytes are % x", b[:min(len(b), 99)], told(f), Encode(f)[:min(len(Encode(f)), 99)])
		}
		return true
	case api.ErrCorrupt:
		if f.Rows != nil || f.Acts != nil || f.Gotos != nil || !same(f, Flat{}) {
			t.Fatalf("P12.1: Decode of % x: %s with ErrCorrupt", b[:min(len(b), 99)], told(f))
		}
		return false
	}
	t.Fatalf("P12.1: Decode of % x: %d", b[:min(len(b), 99)], err)
	return false
}

// wantCut holds Decode of all that is cut short of b, and of b and one byte more.
func wantCut(t *testing.T, b []byte) {
	t.Helper()
	for n := range b {
		if wantJust(t, b[:n]) {
			t.Errorf("P12.1: Decode takes % x, cut to %d bytes", b, n)
		}
		if wantJust(t, b[n+1:]) {
			t.Errorf("P12.1: Decode takes % x without its first %d bytes", b, n+1)
		}
	}
	for c := range 256 {
		if wantJust(t, append(slices.Clone(b), byte(c))) {
			t.Errorf("P12.1: Decode takes % x and %d", b, c)
		}
	}
}

// wantLonger holds Decode of b where one of its numbers has a byte more than it needs.
func wantLonger(t *testing.T, b []byte) {
	t.Helper()
	for i, c := range b {
		if c >= 128 {
			continue
		}
		for n := 1; n < 11; n++ {
			x := append(slices.Clone(b[:i]), c+128)
			x = append(x, slices.Repeat([]byte{128}, n-1)...)
			x = append(x, 0)
			if wantJust(t, append(x, b[i+1:]...)) {
				t.Errorf("P12.1: Decode takes % x", append(x, b[i+1:]...))
			}
		}
	}
}

func TestDecodeOfChanged(t *testing.T) {
	s := specOf(t, "%token a b c e %% S : a A e | b A e | b B e ; A : c ; B : c ;")
	fromTable := Flatten(build(t, s), s)
	many := some()
	many.Conflicts, many.Settled = 100000, 64
	taken := 0
	for _, f := range []Flat{least(), some(), many, fromTable} {
		b := wantBack(t, f)
		wantCut(t, b)
		wantLonger(t, b)
		for i := range b {
			for by := 1; by < 256; by++ {
				x := slices.Clone(b)
				x[i] += byte(by)
				if wantJust(t, x) {
					taken++
				}
			}
			x := slices.Delete(slices.Clone(b), i, i+1)
			wantJust(t, x)
			for c := range 256 {
				wantJust(t, slices.Insert(slices.Clone(b), i, byte(c)))
			}
		}
	}
	if taken < 1000 {
		t.Errorf("only %d changed bytes were those of another", taken)
	}
	b := wantBack(t, greatest())
	for i := range b {
		for _, by := range []byte{1, 2, 128, 255}[i%2 : 2+i%2] {
			x := slices.Clone(b)
			x[i] += by
			wantJust(t, x)
		}
	}
	for n := range b {
		if wantJust(t, b[:n]) {
			t.Errorf("P12.1: Decode takes the greatest, cut to %d bytes", n)
		}
	}
	if wantJust(t, append(b, 0)) || wantJust(t, append(b, b...)) {
		t.Error("P12.1: Decode takes the greatest and more")
	}
}

// One of the numbers is another one, whose bytes are right.
func TestDecodeOfOtherNumbers(t *testing.T) {
	taken := 0
	for _, f := range []Flat{least(), some()} {
		b := wantBack(t, f)
		for i := 0; i < len(b); {
			_, k, err := num.Get(b[i:])
			if err != api.OK {
				t.Fatalf("no number: %d", err)
			}
			for _, n := range append([]int{0, 1, 5, 10, 12, 13, 477, 479, 480, 100000, 100001}, strange...) {
				x := append(num.Put(b[:i], int64(n)), b[i+k:]...)
				if !wantJust(t, x) {
					continue
				}
				taken++
				if n < 0 || n > 100000 {
					t.Errorf("P12.1: Decode takes the number %d at %d", n, i)
				}
			}
			i += k
		}
	}
	if taken < 50 {
		t.Errorf("only %d were taken", taken)
	}
}

// All that two changed bytes can make of the least.
func TestDecodeOfTwoChanged(t *testing.T) {
	b := Encode(least())
	taken := 0
	for i := range b {
		for k := range i {
			x := slices.Clone(b)
			for n := range 1 << 16 {
				x[i], x[k] = byte(n), byte(n>>8)
				if wantJust(t, x) {
					taken++
				}
			}
		}
	}
	if taken < 1000 {
		t.Errorf("only %d were taken", taken)
	}
}

func TestDecodeOfNothing(t *testing.T) {
	for _, b := range [][]byte{nil, {}} {
		if wantJust(t, b) {
			t.Errorf("P12.1: Decode takes %v", b)
		}
	}
	for n := range 1 << 16 {
		if wantJust(t, []byte{byte(n)}) || wantJust(t, []byte{byte(n >> 8), byte(n)}) {
			t.Fatalf("P12.1: Decode takes %d", n)
		}
	}
	r := rand.New(rand.NewSource(14))
	for range 100000 {
		b := make([]byte, r.Intn(40))
		for i := range b {
			b[i] = byte(r.Intn(256) >> r.Intn(8))
		}
		wantJust(t, b)
	}
}

// What is told goes by the numbers and by the lists, whichever tell less.
func TestAskedOfOddFlats(t *testing.T) {
	some := some()
	short := copied(some)
	short.Acts, short.Gotos = short.Acts[:2], short.Gotos[:1]
	rows := copied(some)
	rows.Acts[0], rows.Gotos[1] = rows.Acts[0][:1], rows.Gotos[1][:1]
	few := copied(some)
	few.Tokens, few.NTs = 1, 1
	many := copied(some)
	many.Tokens, many.NTs = 7, 7
	odd := copied(some)
	odd.Rows = []int{-1, 2, 3, math.MinInt, math.MaxInt}
	below := copied(some)
	below.Tokens = -1
	lowest := copied(some)
	lowest.Tokens = math.MinInt
	none := copied(some)
	none.NTs = -1
	type ask struct {
		state, sym int
		act        string
		to         int
	}
	for what, x := range map[string]struct {
		f    Flat
		asks []ask
	}{
		"some":           {some, []ask{{0, 0, "s4", -1}, {1, 2, "acc", -1}, {0, 3, "-", -1}, {0, 4, "-", 3}, {2, 4, "-", 3}, {4, 3, "-", 119}, {1, 4, "-", 0}, {3, 4, "-", -1}, {0, 5, "-", -1}, {5, 4, "-", -1}, {-1, 4, "-", -1}, {0, -1, "-", -1}}},
		"less rows":      {short, []ask{{0, 0, "s4", -1}, {1, 1, "s119", -1}, {3, 0, "-", -1}, {0, 4, "-", 3}, {1, 3, "-", -1}}},
		"shorter rows":   {rows, []ask{{0, 0, "s4", -1}, {0, 1, "-", -1}, {3, 1, "r7", -1}, {1, 3, "-", 119}, {1, 4, "-", -1}, {0, 4, "-", 3}}},
		"lesser numbers": {few, []ask{{0, 1, "r7", -1}, {1, 2, "-", 119}, {1, 3, "-", -1}, {1, 4, "-", -1}}},
		"more":           {many, []ask{{1, 2, "acc", -1}, {1, 3, "-", -1}, {1, 7, "-", -1}, {1, 8, "-", 119}, {1, 9, "-", 0}, {1, 10, "-", -1}, {1, 14, "-", -1}, {1, 15, "-", -1}}},
		"odd Rows":       {odd, []ask{{0, 0, "-", -1}, {1, 0, "s4", -1}, {2, 0, "-", -1}, {3, 4, "-", -1}, {4, 4, "-", -1}}},
		"no end":         {below, []ask{{0, 0, "-", -1}, {1, 0, "-", -1}, {1, -1, "-", -1}}},
		"far below":      {lowest, []ask{{1, 0, "-", -1}, {1, math.MaxInt, "-", -1}, {1, math.MinInt, "-", -1}, {1, math.MinInt + 1, "-", -1}}},
		"no others":      {none, []ask{{1, 2, "acc", -1}, {1, 3, "-", -1}}},
		"zero":           {Flat{}, []ask{{0, 0, "-", -1}, {0, 1, "-", -1}, {-1, 0, "-", -1}}},
	} {
		for _, a := range x.asks {
			if act, to := done(x.f.Act(a.state, a.sym)), x.f.Goto(a.state, a.sym); act != a.act || to != a.to {
				t.Errorf("P12.1: %s: of (%d, %d) %s, %d; want %s, %d", what, a.state, a.sym, act, to, a.act, a.to)
			}
		}
	}
}

// No call panics, whatever the numbers and lists are.
func TestOddFlats(t *testing.T) {
	numbers := append([]int{0, 1, 2, 3}, strange...)
	lists := [][]int{nil, {}, {0}, {0, 1}, {math.MinInt, math.MaxInt}, {2, 1, 0, -1, 7}}
	acts := [][][]api.Act{nil, {}, {nil}, {nil, {{}}}, {{{}}, nil}, {{{Kind: math.MaxInt, N: math.MinInt}, {Kind: -1}}}, {{{}}, {{}}, {{}}}}
	gotos := [][][]int{nil, {}, {nil}, {nil, {0}}, {{0}, nil}, {{math.MinInt, math.MaxInt}}, {{0}, {1}, {2}}}
	for i, tokens := range numbers {
		for k, nts := range numbers {
			for n := range len(lists) * len(acts) * len(gotos) {
				f := Flat{Tokens: tokens, NTs: nts, Conflicts: numbers[(i+n)%len(numbers)], Settled: numbers[(k+n)%len(numbers)]}
				f.Rows, f.Acts, f.Gotos = lists[n%6], acts[n/6%7], gotos[n/42]
				if got, want := May(f), plainMay(f); got != want || (Encode(f) != nil) != want {
					t.Fatalf("P12.1: May of %v: %v; Encode: %v", f, got, Encode(f))
				}
				for _, x := range numbers {
					f.Act(x, tokens)
					f.Act(0, x)
					f.Goto(x, nts)
					f.Goto(0, x)
					f.Goto(1, x)
				}
			}
		}
	}
}

// spoil writes over a list and its spare room.
func spoil[T any](list []T, with T) {
	list = list[:cap(list)]
	for i := range list {
		list[i] = with
	}
}

// wantApart spoils the lists of f one by one, and holds that no other list of f or of what others tell changes.
func wantApart(t *testing.T, what string, f Flat, others func() string) {
	t.Helper()
	was := others()
	want := copied(f)
	check := func() {
		t.Helper()
		if !same(f, want) {
			t.Errorf("P0.3: two lists of what %s answers are one", what)
		}
		if got := others(); got != was {
			t.Errorf("P0.3: what %s answers is kept: %s was %s", what, got, was)
		}
	}
	for row := range f.Acts {
		spoil(f.Acts[row], api.Act{Kind: 9, N: 99})
		want.Acts[row] = slices.Clone(f.Acts[row])
		check()
		spoil(f.Gotos[row], 98)
		want.Gotos[row] = slices.Clone(f.Gotos[row])
		check()
	}
	spoil(f.Rows, 97)
	want.Rows = slices.Clone(f.Rows)
	check()
	spoil(f.Acts, nil)
	want.Acts = make([][]api.Act, len(f.Acts))
	check()
	spoil(f.Gotos, nil)
	want.Gotos = make([][]int, len(f.Gotos))
	check()
}

func TestAnswersAreNew(t *testing.T) {
	s := specOf(t, "%token a b c e %% S : a A e | b A e | b B e ; A : c ; B : c ;")
	b := build(t, s)
	f := Flatten(b, s)
	text := Encode(f)
	tell := func() string {
		return fmt.Sprint(f, text, Encode(f), Flatten(b, s), s)
	}
	wantApart(t, "Flatten", Flatten(b, s), tell)
	g, err := Decode(text)
	if err != api.OK {
		t.Fatalf("P12.1: Decode: %d", err)
	}
	wantApart(t, "Decode", g, tell)
	was := tell()
	spoil(Encode(f), 7)
	if got := tell(); got != was {
		t.Errorf("P0.3: what Encode answers is kept: %s was %s", got, was)
	}
	// What was handed in can be written into behind the call.
	g, _ = Decode(text)
	spoil(text, 9)
	if !same(f, g) {
		t.Errorf("P0.3: Decode keeps what it is handed: %v is %v now", f, g)
	}
	text = Encode(g)
	bytes := string(text)
	wantApart(t, "Decode", g, func() string { return bytes })
	if string(text) != bytes {
		t.Error("P0.3: Encode keeps what it is handed")
	}
	f = Flatten(b, s)
	before := fmt.Sprint(f)
	spoil(s.Names, "z")
	spoil(s.Rules, is(77, 78))
	spoil(s.Levels, 76)
	spoil(s.Assocs, 75)
	if got := fmt.Sprint(f); got != before {
		t.Errorf("P0.3: Flatten keeps what it is handed: %s was %s", got, before)
	}
}

// room is list with spare room that holds x.
func room[T any](list []T, x T) []T {
	return append(slices.Clone(list), x, x, x)[:len(list)]
}

// all is list with its spare room.
func all[T any](list []T) []T {
	return list[:cap(list)]
}

func TestNothingIsChanged(t *testing.T) {
	f := some()
	f.Rows = room(f.Rows, 55)
	for row := range f.Acts {
		f.Acts[row] = room(f.Acts[row], api.Act{Kind: 5, N: 55})
		f.Gotos[row] = room(f.Gotos[row], 55)
	}
	f.Acts, f.Gotos = room(f.Acts, []api.Act{{Kind: 6}}), room(f.Gotos, []int{66})
	tell := func() string {
		text := fmt.Sprint(all(f.Rows), all(f.Acts), all(f.Gotos), len(f.Rows), len(f.Acts), len(f.Gotos))
		for row := range f.Acts {
			text += fmt.Sprint(all(f.Acts[row]), all(f.Gotos[row]))
		}
		return text
	}
	was := tell()
	text := room(wantBack(t, f), 5)
	bytes := string(all(text))
	for state := -1; state < 7; state++ {
		for sym := -1; sym < 7; sym++ {
			f.Act(state, sym)
			f.Goto(state, sym)
		}
	}
	if g, err := Decode(text); err != api.OK || !same(f, g) {
		t.Errorf("P12.1: Decode: %v, %d", g, err)
	}
	Decode(text[:7])
	if got := tell(); got != was {
		t.Errorf("P0.3: what is handed in is changed: %s was %s", got, was)
	}
	if got := string(all(text)); got != bytes {
		t.Errorf("P0.3: Decode changes its bytes: % x were % x", got, bytes)
	}
	s := specOf(t, "%token n %left p %% E : E p E | n ;")
	s.Names, s.Levels, s.Rules = room(s.Names, "q"), room(s.Levels, 44), room(s.Rules, is(33, 34))
	b := build(t, s)
	was = fmt.Sprint(s, all(s.Names), all(s.Levels), all(s.Rules))
	Flatten(b, s)
	if got := fmt.Sprint(s, all(s.Names), all(s.Levels), all(s.Rules)); got != was {
		t.Errorf("P0.3: Flatten changes its Spec: %s was %s", got, was)
	}
	if again := build(t, s); !table.Eq(b, again) {
		t.Error("P0.3: Flatten changes its table")
	}
}

func TestNilIsEmpty(t *testing.T) {
	b := build(t, specOf(t, "%token n %left p %% E : E p E | n ;"))
	if f, g := Flatten(b, api.Spec{Tokens: 2, NTs: 1}), Flatten(b, api.Spec{Tokens: 2, NTs: 1, Names: []string{}, Levels: []int{}, Assocs: []int{}, Rules: []api.SRule{}}); !same(f, g) || len(f.Rows) != 5 {
		t.Errorf("P0.4: of nil %v, of empty lists %v", f, g)
	}
	for _, x := range [][2]Flat{
		{{Tokens: 1, NTs: 1}, {Tokens: 1, NTs: 1, Rows: []int{}, Acts: [][]api.Act{}, Gotos: [][]int{}}},
		{{NTs: 1, Rows: []int{0}, Acts: [][]api.Act{nil}, Gotos: [][]int{nil}}, {NTs: 1, Rows: []int{0}, Acts: [][]api.Act{{}}, Gotos: [][]int{{}}}},
	} {
		for _, f := range x {
			if May(f) || Encode(f) != nil || f.Act(0, 0) != (api.Act{}) || f.Goto(0, 2) != -1 {
				t.Errorf("P0.4: of %v May: %v, Encode: %v, %v, %d", f, May(f), Encode(f), f.Act(0, 0), f.Goto(0, 2))
			}
		}
	}
}

// What is told does not hang on what was asked before.
func TestAskedInAnyOrder(t *testing.T) {
	s := specOf(t, "%token a b c e %% S : a A e | b A e | b B e ; A : c ; B : c ;")
	b := build(t, s)
	f := Flatten(b, s)
	was := fmt.Sprint(lines(f), Encode(f), asTable(f, b, s))
	r := rand.New(rand.NewSource(15))
	for range 300 {
		other := drawn(r)
		Decode(Encode(other))
		May(changed(r, other))
		f.Act(r.Intn(20), r.Intn(9))
		f.Goto(r.Intn(20), r.Intn(9))
		if g := Flatten(b, s); !same(f, g) || fmt.Sprint(lines(f), Encode(g), asTable(g, b, s)) != was {
			t.Fatalf("P0.5: behind other questions %v is told", g)
		}
	}
}
