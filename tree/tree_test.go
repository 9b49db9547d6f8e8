package tree

import (
	"fmt"
	"math"
	"math/rand"
	"slices"
	"strconv"
	"strings"
	"testing"

	"donatus/api"
	"donatus/read"
	"donatus/well"
)

// specOf is the Spec of the grammar that the text writes.
func specOf(t *testing.T, text string) api.Spec {
	t.Helper()
	g, f := read.Read(text)
	if f != (api.Fault{}) {
		t.Fatalf("Read(%q): %v", text, f)
	}
	s, err := well.Of(g)
	if err != api.OK {
		t.Fatalf("well.Of(%q): %d", text, err)
	}
	return s
}

// sums has the tokens num 0, plus 1, the end 2, and Sum 3, One 4, None 5.
const sums = "%token num plus %% Sum : Sum plus One | One | Sum None ; One : num ; None : ;"

// The rules of sums.
const (
	sumPlusOne = iota + 1
	sumOne
	sumNone
	oneNum
	none
)

// raw is a tree of just these parts.
func raw(rule, tok int, kids ...*api.Tree) *api.Tree {
	return &api.Tree{Rule: rule, Tok: tok, Kids: kids}
}

// one is the tree of a num, as a One.
func one() *api.Tree { return Node(oneNum, Leaf(0)) }

// sum is the tree of as many nums.
func sum(n int) *api.Tree {
	x := Node(sumOne, one())
	for range n - 1 {
		x = Node(sumPlusOne, x, Leaf(1), one())
	}
	return x
}

// whole writes a tree out with all that is in it, shared kids at each place.
func whole(t *api.Tree) string {
	if t == nil {
		return "nil"
	}
	parts := []string{strconv.Itoa(t.Rule), strconv.Itoa(t.Tok)}
	for _, kid := range t.Kids {
		parts = append(parts, whole(kid))
	}
	return "<" + strings.Join(parts, " ") + ">"
}

// cut keeps what is told of a failure short.
func cut(x any) string {
	text := fmt.Sprint(x)
	return text[:min(len(text), 300)]
}

// tell is all that the calls answer of one tree.
func tell(s api.Spec, t *api.Tree) string {
	n, deep := Size(t)
	return fmt.Sprintf("%v %v %q %d %d", Check(s, t), Yield(t), Text(s, t), n, deep)
}

var strange = []int{math.MinInt, math.MinInt + 1, -1 << 40, -2, -1, 0, 1, 2, 3, 7, 1 << 31, 1 << 40, math.MaxInt - 1, math.MaxInt}

func TestLeaf(t *testing.T) {
	for _, tok := range strange {
		if x := Leaf(tok); x == nil || x.Rule != -1 || x.Tok != tok || len(x.Kids) != 0 {
			t.Errorf("P13.1: Leaf(%d) is %v", tok, x)
		}
	}
	a, b := Leaf(4), Leaf(4)
	a.Tok, a.Rule = 5, 6
	if b.Tok != 4 || b.Rule != -1 {
		t.Error("P0.3: two Leafs are one")
	}
}

func TestNode(t *testing.T) {
	kids := []*api.Tree{Leaf(0), nil, Node(7), Leaf(2)}
	for _, rule := range strange {
		for n := range len(kids) + 1 {
			x := Node(rule, kids[:n]...)
			if x == nil || x.Rule != rule || x.Tok != 0 || !slices.Equal(x.Kids, kids[:n]) {
				t.Errorf("P13.1: Node(%d, %d kids) is %v", rule, n, x)
			}
		}
	}
	if x := Node(3); x.Rule != 3 || x.Tok != 0 || len(x.Kids) != 0 {
		t.Errorf("P13.1: Node(3) is %v", x)
	}
}

func TestNodeKeepsNoList(t *testing.T) {
	first, second, other := Leaf(0), Leaf(1), Leaf(2)
	list := append(make([]*api.Tree, 0, 8), first, second)
	x, y := Node(1, list...), Node(1, list...)
	if room := list[:8]; !slices.Equal(room, []*api.Tree{first, second, nil, nil, nil, nil, nil, nil}) {
		t.Error("P0.3: Node wrote into the list of kids or its spare room")
	}
	list[0] = other
	_ = append(list, other)
	if !slices.Equal(x.Kids, []*api.Tree{first, second}) {
		t.Error("P0.3: Node kept the list of kids")
	}
	room := x.Kids[:cap(x.Kids)]
	for i := range room {
		room[i] = nil
	}
	if !slices.Equal(y.Kids, []*api.Tree{first, second}) || !slices.Equal(list, []*api.Tree{other, second}) {
		t.Error("P0.3: two Nodes share a list of kids")
	}
	empty := make([]*api.Tree, 0, 4)
	z := Node(1, empty...)
	_ = append(z.Kids, other)
	if empty[:1][0] != nil || len(z.Kids) != 0 {
		t.Error("P0.3: Node kept a list without kids")
	}
}

// seen is what is to be told of a tree of sums: Text "" if it is none.
type seen struct {
	name    string
	t       *api.Tree
	text    string
	yield   []int
	n, deep int
}

func trees() []seen {
	shared := one()
	return []seen{
		{"a token's leaf", Leaf(0), "num", []int{0}, 1, 1},
		{"the last token's leaf", Leaf(1), "plus", []int{1}, 1, 1},
		{"the end", Leaf(2), "", []int{2}, 1, 1},
		{"a Left as a leaf", Leaf(3), "", []int{3}, 1, 1},
		{"no symbol", Leaf(6), "", []int{6}, 1, 1},
		{"a number below 0", Leaf(-1), "", []int{-1}, 1, 1},
		{"an empty Right", Node(none), "(None)", nil, 1, 1},
		{"a leaf in a node", one(), "(One num)", []int{0}, 2, 2},
		{"nodes in nodes", sum(1), "(Sum (One num))", []int{0}, 3, 3},
		{"three kids", sum(2), "(Sum (Sum (One num)) plus (One num))", []int{0, 1, 0}, 7, 4},
		{"deeper on the left", sum(3), "(Sum (Sum (Sum (One num)) plus (One num)) plus (One num))", []int{0, 1, 0, 1, 0}, 11, 5},
		{"deeper on the right", Node(sumNone, Node(sumNone, sum(1), Node(none)), Node(none)), "(Sum (Sum (Sum (One num)) (None)) (None))", []int{0}, 7, 5},
		{"a kid that is shared", Node(sumPlusOne, Node(sumOne, shared), Leaf(1), shared), "(Sum (Sum (One num)) plus (One num))", []int{0, 1, 0}, 7, 4},
		{"rule 0", Node(0, sum(1)), "", []int{0}, 4, 4},
		{"rule 0 without kids", Node(0), "", nil, 1, 1},
		{"a rule behind the last", Node(6), "", nil, 1, 1},
		{"a rule far behind the last", Node(1<<40, Leaf(0)), "", []int{0}, 2, 2},
		{"rule -1 with Tok 0 of a Node", Node(-1), "num", []int{0}, 1, 1},
		{"a rule below -1", Node(-2), "", nil, 1, 1},
		{"a rule far below", Node(math.MinInt, Leaf(1)), "", []int{1}, 2, 2},
		{"a Tok in a node", raw(oneNum, 1, Leaf(0)), "", []int{0}, 2, 2},
		{"a Tok below 0 in a node", raw(none, -1), "", nil, 1, 1},
		{"a Tok in a node within", Node(sumOne, raw(oneNum, 1, Leaf(0))), "", []int{0}, 3, 3},
		{"a leaf with a kid", raw(-1, 0, Leaf(1)), "", []int{0, 1}, 2, 2},
		{"a leaf with a kid within", Node(oneNum, raw(-1, 0, Node(none))), "", []int{0}, 3, 3},
		{"a kid too few", Node(oneNum), "", nil, 1, 1},
		{"a kid too few of three", Node(sumPlusOne, sum(1), Leaf(1)), "", []int{0, 1}, 5, 4},
		{"a kid too many", Node(oneNum, Leaf(0), Leaf(0)), "", []int{0, 0}, 3, 2},
		{"a kid where none is", Node(none, Node(none)), "", nil, 2, 2},
		{"kids in another order", Node(sumPlusOne, one(), Leaf(1), sum(1)), "", []int{0, 1, 0}, 7, 4},
		{"kids the other way round", Node(sumNone, Node(none), sum(1)), "", []int{0}, 5, 4},
		{"another token's leaf", Node(oneNum, Leaf(1)), "", []int{1}, 2, 2},
		{"a leaf of the Left that stands there", Node(sumOne, Leaf(4)), "", []int{4}, 2, 2},
		{"a leaf where a Left stands", Node(sumOne, Leaf(0)), "", []int{0}, 2, 2},
		{"a node where a token stands", Node(oneNum, Node(none)), "", nil, 2, 2},
		{"a node of another Left", Node(sumOne, sum(1)), "", []int{0}, 4, 4},
		{"a node of another Left, empty", Node(sumOne, Node(none)), "", nil, 2, 2},
		{"what is none, further down", Node(sumPlusOne, Node(sumNone, sum(1), Node(oneNum, Leaf(0))), Leaf(1), one()), "", []int{0, 0, 1, 0}, 10, 5},
		{"what is none, as the last kid", Node(sumPlusOne, sum(1), Leaf(1), Node(oneNum, Leaf(1))), "", []int{0, 1, 1}, 7, 4},
		{"nil", nil, "", nil, 0, 0},
		{"a nil kid", Node(oneNum, nil), "", nil, 0, 0},
		{"a nil kid behind others", Node(sumPlusOne, sum(1), Leaf(1), nil), "", nil, 0, 0},
		{"a nil kid ahead of others", Node(sumPlusOne, nil, Leaf(1), one()), "", nil, 0, 0},
		{"a nil kid within", Node(sumOne, Node(oneNum, nil)), "", nil, 0, 0},
		{"a leaf with a nil kid", raw(-1, 0, nil), "", nil, 0, 0},
	}
}

func TestByHand(t *testing.T) {
	s := specOf(t, sums)
	for _, x := range trees() {
		if got, want := Check(s, x.t), x.text != ""; got != want {
			t.Errorf("P13.1: %s: Check is %v", x.name, got)
		}
		if got := Text(s, x.t); got != x.text {
			t.Errorf("P13.1: %s: Text is %q, not %q", x.name, got, x.text)
		}
		if got := Yield(x.t); !slices.Equal(got, x.yield) {
			t.Errorf("P13.1: %s: Yield is %v, not %v", x.name, got, x.yield)
		}
		if n, deep := Size(x.t); n != x.n || deep != x.deep {
			t.Errorf("P13.1: %s: Size is %d, %d, not %d, %d", x.name, n, deep, x.n, x.deep)
		}
	}
}

func TestEqOfThoseByHand(t *testing.T) {
	for _, x := range trees() {
		for _, y := range trees() {
			if got, want := Eq(x.t, y.t), whole(x.t) == whole(y.t); got != want {
				t.Errorf("P13.1: Eq of %s and %s is %v", x.name, y.name, got)
			}
		}
	}
}

func TestNil(t *testing.T) {
	s := specOf(t, sums)
	if got := tell(s, nil); got != `false [] "" 0 0` {
		t.Errorf("P13.1: of nil: %s", got)
	}
	if Yield(nil) != nil || Yield(Node(1, nil)) != nil {
		t.Error("P13.1: the Yield of nil is not nil")
	}
	if !Eq(nil, nil) || Eq(nil, Leaf(0)) || Eq(Leaf(0), nil) || Eq(nil, &api.Tree{}) || Eq(&api.Tree{}, nil) {
		t.Error("P13.1: Eq of nil")
	}
	if !Eq(Node(1, nil), Node(1, nil)) || Eq(Node(1, nil), Node(1)) || Eq(Node(1, nil), Node(1, Leaf(0))) || Eq(Node(1, Leaf(0)), Node(1, nil)) || Eq(Node(1, Leaf(0), nil), Node(1, nil, Leaf(0))) {
		t.Error("P13.1: Eq of nil kids")
	}
	if !Eq(raw(1, 0), &api.Tree{Rule: 1, Kids: []*api.Tree{}}) || !Eq(&api.Tree{Rule: 1, Kids: make([]*api.Tree, 0, 3)}, Node(1)) {
		t.Error("P0.4: Eq of no kids, nil and empty")
	}
	if got := tell(s, &api.Tree{Rule: none, Kids: []*api.Tree{}}); got != `true [] "(None)" 1 1` {
		t.Errorf("P0.4: of an empty list of kids: %s", got)
	}
}

func TestEq(t *testing.T) {
	for _, x := range []struct {
		name string
		a, b *api.Tree
		want bool
	}{
		{"leaves alike", Leaf(3), Leaf(3), true},
		{"leaves of unlike tokens", Leaf(3), Leaf(4), false},
		{"leaves of a token and its number below 0", Leaf(1), Leaf(-1), false},
		{"leaf and node", Leaf(0), raw(0, 0), false},
		{"nodes alike", Node(3), Node(3), true},
		{"nodes of unlike rules", Node(3), Node(2), false},
		{"rules far apart", Node(math.MinInt), Node(0), false},
		{"toks of nodes unlike", raw(3, 0), raw(3, 1), false},
		{"toks far apart", Leaf(math.MinInt), Leaf(0), false},
		{"deep alike", sum(5), sum(5), true},
		{"unlike in depth", sum(5), sum(6), false},
		{"no kid and one", Node(3), Node(3, Leaf(0)), false},
		{"one kid and two", Node(3, Leaf(0)), Node(3, Leaf(0), Leaf(0)), false},
		{"kids in another order", Node(3, Leaf(0), Leaf(1)), Node(3, Leaf(1), Leaf(0)), false},
		{"kids elsewhere", Node(1, Node(2, Leaf(0)), Node(2)), Node(1, Node(2), Node(2, Leaf(0))), false},
		{"a first kid unlike", Node(1, Leaf(0), Leaf(1), Leaf(2)), Node(1, Leaf(9), Leaf(1), Leaf(2)), false},
		{"a last kid unlike", Node(1, Leaf(0), Leaf(1), Leaf(2)), Node(1, Leaf(0), Leaf(1), Leaf(9)), false},
		{"a middle kid unlike", Node(1, Leaf(0), Leaf(1), Leaf(2)), Node(1, Leaf(0), Leaf(9), Leaf(2)), false},
		{"leaves with kids alike", raw(-1, 3, Leaf(0)), raw(-1, 3, Leaf(0)), true},
		{"leaves with kids unlike", raw(-1, 3, Leaf(0)), raw(-1, 3, Leaf(1)), false},
		{"a leaf and one with a kid", Leaf(3), raw(-1, 3, Leaf(0)), false},
	} {
		if Eq(x.a, x.b) != x.want || Eq(x.b, x.a) != x.want {
			t.Errorf("P13.1: Eq of %s is not %v", x.name, x.want)
		}
		if !Eq(x.a, x.a) || !Eq(x.b, x.b) {
			t.Errorf("P13.1: Eq of a tree and itself (%s)", x.name)
		}
	}
}

// deepCopy is the tree with no kid shared.
func deepCopy(t *api.Tree) *api.Tree {
	if t == nil {
		return nil
	}
	c := &api.Tree{Rule: t.Rule, Tok: t.Tok}
	for _, kid := range t.Kids {
		c.Kids = append(c.Kids, deepCopy(kid))
	}
	return c
}

// places lists a tree and all in it, at each place.
func places(t *api.Tree) []*api.Tree {
	if t == nil {
		return nil
	}
	all := []*api.Tree{t}
	for _, kid := range t.Kids {
		all = append(all, places(kid)...)
	}
	return all
}

func TestEqOfOneChange(t *testing.T) {
	x := Node(1, sum(2), Node(2, Leaf(4), Node(3), raw(-1, 5, Leaf(6))), Leaf(0))
	changes := []func(*api.Tree){
		func(y *api.Tree) { y.Rule++ },
		func(y *api.Tree) { y.Rule-- },
		func(y *api.Tree) { y.Tok++ },
		func(y *api.Tree) { y.Tok-- },
		func(y *api.Tree) { y.Kids = append(y.Kids, Leaf(0)) },
		func(y *api.Tree) { y.Kids = append(y.Kids, nil) },
		func(y *api.Tree) { y.Kids = append([]*api.Tree{Leaf(0)}, y.Kids...) },
		func(y *api.Tree) {
			if len(y.Kids) == 0 {
				y.Rule = 1 << 40
				return
			}
			y.Kids[len(y.Kids)-1] = nil
		},
		func(y *api.Tree) {
			if len(y.Kids) == 0 {
				y.Tok = math.MinInt
				return
			}
			y.Kids = y.Kids[1:]
		},
	}
	for i := range places(x) {
		for k, change := range changes {
			y := deepCopy(x)
			if !Eq(x, y) || !Eq(y, x) {
				t.Fatal("P13.1: Eq of a copy")
			}
			change(places(y)[i])
			if Eq(x, y) || Eq(y, x) {
				t.Errorf("P13.1: Eq of trees unlike at place %d (change %d): %s", i, k, whole(y))
			}
		}
	}
}

func TestEqOfSharedKids(t *testing.T) {
	kid := sum(2)
	apart := Node(1, sum(2), Node(2, sum(2)), sum(2))
	shared := Node(1, kid, Node(2, kid), kid)
	half := Node(1, kid, Node(2, kid), sum(2))
	for i, a := range []*api.Tree{apart, shared, half} {
		for k, b := range []*api.Tree{apart, shared, half} {
			if !Eq(a, b) {
				t.Errorf("P13.1: Eq of kids apart and shared: %d, %d", i, k)
			}
		}
	}
	for i, b := range []*api.Tree{
		Node(1, kid, Node(2, kid), sum(1)), Node(1, kid, Node(2, sum(1)), kid), Node(1, sum(1), Node(2, kid), kid), Node(1, kid, kid, Node(2, kid)),
	} {
		for k, a := range []*api.Tree{apart, shared, half} {
			if Eq(a, b) || Eq(b, a) {
				t.Errorf("P13.1: Eq of unlike kids, shared: %d, %d", k, i)
			}
		}
	}
	a, b := Leaf(0), Leaf(1)
	if Eq(Node(1, a, b), Node(1, b, a)) || Eq(Node(1, a, a), Node(1, a, b)) || Eq(Node(1, a, b), Node(1, b, b)) || Eq(Node(1, a, a), Node(1, b, b)) {
		t.Error("P13.1: Eq of two kids shared by both trees")
	}
}

// texts lists all trees of s that stand for a symbol and have up to most leaves and nodes, written out by whole: by what rules derive.
func texts(s api.Spec, sym, most int) []string {
	if most < 1 {
		return nil
	}
	if sym < s.Tokens {
		return []string{whole(Leaf(sym))}
	}
	var all []string
	for i, r := range s.Rules[1:] {
		if r.Left == sym {
			for _, kids := range rows(s, r.Right, most-1) {
				all = append(all, "<"+strings.Join(append([]string{strconv.Itoa(i + 1), "0"}, kids...), " ")+">")
			}
		}
	}
	return all
}

// rows lists all rows of trees for these symbols, of up to most leaves and nodes in all.
func rows(s api.Spec, syms []int, most int) [][]string {
	if len(syms) == 0 {
		return [][]string{nil}
	}
	var all [][]string
	for _, head := range texts(s, syms[0], most-len(syms)+1) {
		for _, rest := range rows(s, syms[1:], most-strings.Count(head, "<")) {
			all = append(all, append([]string{head}, rest...))
		}
	}
	return all
}

// shapes goes through all trees of just n leaves and nodes, whose tops are of the given ones.
func shapes(tops []api.Tree, n int, do func(*api.Tree)) {
	for _, top := range tops {
		forests(tops, n-1, nil, func(kids []*api.Tree) {
			do(&api.Tree{Rule: top.Rule, Tok: top.Tok, Kids: kids})
		})
	}
}

func forests(tops []api.Tree, n int, kids []*api.Tree, do func([]*api.Tree)) {
	if n == 0 {
		do(kids)
		return
	}
	for first := 1; first <= n; first++ {
		shapes(tops, first, func(kid *api.Tree) {
			forests(tops, n-first, append(slices.Clip(kids), kid), do)
		})
	}
}

func TestAllSmallTrees(t *testing.T) {
	s := specOf(t, "%token a b %% S : S S | a | b T | T ; T : | T T ;")
	want := make(map[string]int)
	for sym := range s.Tokens + 1 + s.NTs {
		if sym != s.Tokens {
			for _, text := range texts(s, sym, 5) {
				want[text]++
			}
		}
	}
	tops := []api.Tree{{Rule: -1}, {Rule: -1, Tok: 1}, {Rule: -1, Tok: 2}, {Rule: 1}, {Rule: 2}, {Rule: 3}, {Rule: 4}, {Rule: 5}, {Rule: 6}}
	found := 0
	for n := 1; n <= 5; n++ {
		shapes(tops, n, func(x *api.Tree) {
			text := whole(x)
			if Check(s, x) != (want[text] > 0) || (Text(s, x) != "") != (want[text] > 0) {
				t.Fatalf("P13.1: Check of %s is %v", text, Check(s, x))
			}
			found += want[text]
			if size, _ := Size(x); size != n || len(Yield(x)) != strings.Count(text, "<-1 ") {
				t.Fatalf("P13.1: of %s: Size %d, Yield %v", text, size, Yield(x))
			}
		})
	}
	if found != len(want) || found < 15 {
		t.Fatalf("%d trees of the Spec came, not %d", found, len(want))
	}
	odd := []api.Tree{{Rule: -2}, {Rule: -1, Tok: -1}, {Rule: -1, Tok: 3}, {Rule: 0}, {Rule: 7}, {Rule: 5, Tok: 1}, {Rule: 5, Tok: -1}}
	for n := 1; n <= 3; n++ {
		shapes(append(tops, odd...), n, func(x *api.Tree) {
			if text := whole(x); Check(s, x) != (want[text] > 0) {
				t.Fatalf("P13.1: Check of %s is %v", text, Check(s, x))
			}
		})
	}
}

// grow makes a tree of a symbol at random; only few deep.
func grow(r *rand.Rand, s api.Spec, sym, room int) *api.Tree {
	if sym < s.Tokens {
		return Leaf(sym)
	}
	var of []int
	for i, rule := range s.Rules {
		if rule.Left == sym {
			of = append(of, i)
		}
	}
	rule := of[r.Intn(len(of))]
	if room < 1 {
		rule = slices.MinFunc(of, func(a, b int) int { return lefts(s, a) - lefts(s, b) })
	}
	x := &api.Tree{Rule: rule}
	for _, kid := range s.Rules[rule].Right {
		x.Kids = append(x.Kids, grow(r, s, kid, room-1))
	}
	return x
}

// lefts counts the Lefts in a rule's Right.
func lefts(s api.Spec, rule int) int {
	n := 0
	for _, sym := range s.Rules[rule].Right {
		if sym > s.Tokens {
			n++
		}
	}
	return n
}

// plainText is the text of a tree of s.
func plainText(s api.Spec, t *api.Tree) string {
	if t.Rule == -1 {
		return s.Names[t.Tok]
	}
	text := "(" + s.Names[s.Rules[t.Rule].Left]
	for _, kid := range t.Kids {
		text += " " + plainText(s, kid)
	}
	return text + ")"
}

// plainYield and plainDepth go by the places of a tree.
func plainYield(t *api.Tree) []int {
	var toks []int
	for _, x := range places(t) {
		if x.Rule == -1 {
			toks = append(toks, x.Tok)
		}
	}
	return toks
}

func plainDepth(t *api.Tree) int {
	deep := 1
	for _, kid := range t.Kids {
		deep = max(deep, 1+plainDepth(kid))
	}
	return deep
}

// stands tells whether a tree stands for a symbol, as the chapter's words go.
func stands(s api.Spec, t *api.Tree, sym int) bool {
	if t.Rule == -1 {
		return len(t.Kids) == 0 && t.Tok == sym && slices.Contains(allTokens(s), sym)
	}
	if t.Rule < 1 || t.Rule > len(s.Rules)-1 || t.Tok != 0 || s.Rules[t.Rule].Left != sym {
		return false
	}
	var tops []int
	for _, kid := range t.Kids {
		for sym := range len(s.Names) {
			if stands(s, kid, sym) {
				tops = append(tops, sym)
			}
		}
	}
	return len(tops) == len(t.Kids) && slices.Equal(tops, s.Rules[t.Rule].Right)
}

func allTokens(s api.Spec) []int {
	var toks []int
	for tok := range s.Tokens {
		toks = append(toks, tok)
	}
	return toks
}

// grammars are some to grow trees of.
var grammars = []string{
	sums,
	"%token a %% S : a S | ;",
	"%token x y z %% A : x | B y C | A A ; B : | z B ; C : A | y y y y y y | B ;",
	"%token n %left p %left t %% E : E p E | E t E | n ;",
}

// change spoils a tree at one place, at random, or leaves it as it is.
func change(r *rand.Rand, x *api.Tree) {
	all := places(x)
	y := all[r.Intn(len(all))]
	switch r.Intn(8) {
	case 0:
		y.Rule = r.Intn(12) - 3
	case 1:
		y.Tok = r.Intn(7) - 2
	case 2:
		y.Kids = append(y.Kids, Leaf(r.Intn(3)))
	case 3:
		y.Kids = y.Kids[:len(y.Kids)/2]
	case 4:
		slices.Reverse(y.Kids)
	case 5:
		*y = *deepCopy(all[r.Intn(len(all))])
	}
}

func TestRandomTrees(t *testing.T) {
	r := rand.New(rand.NewSource(13))
	good, bad, alike := 0, 0, 0
	for range 6000 {
		s := specOf(t, grammars[r.Intn(len(grammars))])
		x := grow(r, s, s.Tokens+1+r.Intn(s.NTs), r.Intn(5))
		y := deepCopy(x)
		if r.Intn(3) > 0 {
			change(r, x)
		}
		if len(places(x)) > 300 {
			continue
		}
		text, want := "", false
		for sym := range len(s.Names) {
			want = want || stands(s, x, sym)
		}
		if want {
			text, good = plainText(s, x), good+1
		} else {
			bad++
		}
		if got := Check(s, x); got != want {
			t.Fatalf("P13.1: Check of %s is %v", cut(whole(x)), got)
		}
		if got := Text(s, x); got != text {
			t.Fatalf("P13.1: Text of %s is %q, not %q", cut(whole(x)), cut(got), cut(text))
		}
		if got := Yield(x); !slices.Equal(got, plainYield(x)) {
			t.Fatalf("P13.1: Yield of %s is %v", cut(whole(x)), cut(got))
		}
		if n, deep := Size(x); n != len(places(x)) || deep != plainDepth(x) {
			t.Fatalf("P13.1: Size of %s is %d, %d", cut(whole(x)), n, deep)
		}
		same := whole(x) == whole(y)
		if same {
			alike++
		}
		if Eq(x, y) != same || Eq(y, x) != same {
			t.Fatalf("P13.1: Eq of %s and %s is not %v", cut(whole(x)), cut(whole(y)), same)
		}
	}
	if good < 500 || bad < 500 || alike < 500 {
		t.Fatalf("%d trees of their Spec, %d of none, %d alike", good, bad, alike)
	}
}

// bag makes trees at random out of those before them, so that they share kids, few kinds of each.
func bag(r *rand.Rand, n int) []*api.Tree {
	all := []*api.Tree{nil, Leaf(0), Leaf(0), Leaf(1)}
	for range n {
		x := &api.Tree{Rule: 1 + r.Intn(2)}
		for range r.Intn(3) {
			x.Kids = append(x.Kids, all[r.Intn(len(all))])
		}
		all = append(all, x)
	}
	return all
}

func TestEqOfRandomSharing(t *testing.T) {
	r := rand.New(rand.NewSource(131))
	alike := 0
	for range 300 {
		all := bag(r, 14)
		for i, a := range all {
			for k, b := range all {
				want := whole(a) == whole(b)
				if got := Eq(a, b); got != want {
					t.Fatalf("P13.1: Eq of %s and %s is %v", cut(whole(a)), cut(whole(b)), got)
				}
				if want && i != k {
					alike++
				}
			}
		}
	}
	if alike < 1000 {
		t.Fatalf("only %d were alike", alike)
	}
}

// chain is a tree that deep, each node with one kid.
func chain(deep int) *api.Tree {
	x := Leaf(0)
	for range deep - 1 {
		x = Node(1, x)
	}
	return x
}

// fan is a node with so many kids, all one leaf.
func fan(kids int) *api.Tree {
	leaf, list := Leaf(0), []*api.Tree(nil)
	for range kids {
		list = append(list, leaf)
	}
	return Node(1, list...)
}

// plain has one token a 0, and S 2 that is an S, two S, or a.
const plain = "%token a %% S : S | S S | a ;"

// comb is a tree of plain with so many leaves: 2 * leaves nodes behind each other on the left.
func comb(leaves int) *api.Tree {
	x := Node(3, Leaf(0))
	for range leaves - 1 {
		x = Node(2, x, Node(3, Leaf(0)))
	}
	return x
}

// under puts so many nodes of rule 1 of plain above a tree.
func under(x *api.Tree, nodes int) *api.Tree {
	for range nodes {
		x = Node(1, x)
	}
	return x
}

func TestDeep(t *testing.T) {
	s := specOf(t, plain)
	for _, deep := range []int{2, 3, 100, 4998, 4999, 5000} {
		x := under(Node(3, Leaf(0)), deep-2)
		if n, d := Size(x); n != deep || d != deep {
			t.Errorf("P13.1: Size of a tree %d deep is %d, %d", deep, n, d)
		}
		want := strings.Repeat("(S ", deep-1) + "a" + strings.Repeat(")", deep-1)
		if !Check(s, x) || !slices.Equal(Yield(x), []int{0}) || Text(s, x) != want {
			t.Errorf("P13.1: a tree %d deep is not taken", deep)
		}
		if n, d := Size(chain(deep)); n != deep || d != deep || Check(s, chain(deep)) != (deep == 1) {
			t.Errorf("P13.1: a chain %d deep: Size %d, %d", deep, n, d)
		}
	}
	for _, deep := range []int{5001, 5002, 6000, 10001, 1000000} {
		x := under(Node(3, Leaf(0)), deep-2)
		if got := tell(s, x); got != `false [] "" 0 0` || Yield(x) != nil {
			t.Errorf("P13.1: of a tree %d deep: %s", deep, cut(got))
		}
		if !Eq(x, under(Node(3, Leaf(0)), deep-2)) || Eq(x, under(Node(3, Leaf(1)), deep-2)) || Eq(x, under(Node(3, Leaf(0)), deep-3)) {
			t.Errorf("P13.1: Eq of trees %d deep", deep)
		}
	}
}

func TestDeepOnOneSide(t *testing.T) {
	for _, x := range []struct {
		t    *api.Tree
		n, d int
	}{
		{Node(1, chain(4999), Leaf(1)), 5001, 5000},
		{Node(1, Leaf(1), chain(4999)), 5001, 5000},
		{Node(1, chain(4999), chain(4999)), 9999, 5000},
		{Node(1, chain(4999), chain(4998), Leaf(2), Leaf(3)), 10000, 5000},
		{Node(1, chain(5000)), 0, 0},
		{Node(1, chain(5000), Leaf(1)), 0, 0},
		{Node(1, Leaf(1), chain(5000)), 0, 0},
		{Node(1, chain(4999), chain(5000)), 0, 0},
		{Node(1, chain(4999), chain(4999), Leaf(1), Leaf(2)), 0, 0},
	} {
		n, d := Size(x.t)
		if n != x.n || d != x.d || (Yield(x.t) != nil) != (x.n > 0) {
			t.Errorf("P13.1: Size is %d, %d, not %d, %d", n, d, x.n, x.d)
		}
	}
}

func TestMany(t *testing.T) {
	s := specOf(t, plain)
	for _, kids := range []int{1, 2, 100, 9998, 9999} {
		if n, d := Size(fan(kids)); n != kids+1 || d != 2 || len(Yield(fan(kids))) != kids {
			t.Errorf("P13.1: Size of a node of %d kids is %d, %d", kids, n, d)
		}
	}
	for _, kids := range []int{10000, 10001, 20000, 1000000} {
		if got := tell(s, fan(kids)); got != `false [] "" 0 0` || Yield(fan(kids)) != nil {
			t.Errorf("P13.1: of a node of %d kids: %s", kids, cut(got))
		}
		if !Eq(fan(kids), fan(kids)) || Eq(fan(kids), fan(kids-1)) {
			t.Errorf("P13.1: Eq of nodes of %d kids", kids)
		}
	}
	x := under(comb(3333), 2) // 3 * 3333 - 1 leaves and nodes, and 2
	if n, d := Size(x); n != 10000 || d != 3336 || !Check(s, x) || len(Yield(x)) != 3333 {
		t.Errorf("P13.1: of 10000 leaves and nodes: Size %d, %d, Check %v", n, d, Check(s, x))
	}
	if text := Text(s, x); strings.Count(text, "(S") != 6667 || strings.Count(text, " a)") != 3333 || strings.Count(text, " ") != 9999 {
		t.Errorf("P13.1: Text of 10000 leaves and nodes is %s", cut(text))
	}
	if got := tell(s, Node(1, x)); got != `false [] "" 0 0` || Yield(Node(1, x)) != nil {
		t.Errorf("P13.1: of 10001 leaves and nodes: %s", cut(got))
	}
}

func TestSharedCountEachTime(t *testing.T) {
	s := specOf(t, plain)
	x := Node(3, Leaf(0)) // n doublings: 3 * 2^n - 1
	for n := 1; n <= 11; n++ {
		x = Node(2, x, x)
		if size, deep := Size(x); size != 3<<n-1 || deep != n+2 || len(Yield(x)) != 1<<n || !Check(s, x) {
			t.Errorf("P13.1: doubled %d times: Size %d, %d", n, size, deep)
		}
	}
	rest := 10000 - 6143 // leaves and nodes that can still come
	if n, _ := Size(under(x, rest)); n != 10000 {
		t.Errorf("P13.1: just 10000 with shared kids: %d", n)
	}
	if got := tell(s, under(x, rest+1)); got != `false [] "" 0 0` {
		t.Errorf("P13.1: 10001 with shared kids: %s", cut(got))
	}
	if got := tell(s, Node(2, x, x)); got != `false [] "" 0 0` {
		t.Errorf("P13.1: doubled 12 times: %s", cut(got))
	}
}

// doubled is a tree that holds the one before it twice, and so on.
func doubled(x *api.Tree, times int) *api.Tree {
	for range times {
		x = Node(2, x, x)
	}
	return x
}

func TestBeyondCounting(t *testing.T) {
	s := specOf(t, plain)
	for _, times := range []int{12, 13, 60, 64, 5000, 100000} {
		x := doubled(Node(3, Leaf(0)), times)
		if got := tell(s, x); got != `false [] "" 0 0` || Yield(x) != nil {
			t.Errorf("P13.1: doubled %d times: %s", times, cut(got))
		}
		if !Eq(x, doubled(Node(3, Leaf(0)), times)) || Eq(x, doubled(Node(3, Leaf(1)), times)) || Eq(x, doubled(Node(3, Leaf(0)), times-1)) || Eq(doubled(nil, times), x) {
			t.Errorf("P13.1: Eq of trees doubled %d times", times)
		}
		if !Eq(x.Kids[0], x.Kids[1]) || Eq(x, x.Kids[0]) {
			t.Errorf("P13.1: Eq of a tree doubled %d times and its kid", times)
		}
		if got := tell(s, doubled(nil, times)); got != `false [] "" 0 0` || !Eq(doubled(nil, times), doubled(nil, times)) {
			t.Errorf("P13.1: nil doubled %d times: %s", times, cut(got))
		}
	}
	a, b := Leaf(0), Leaf(0) // Each level has two trees, alike, that hold both of those below crosswise.
	for range 5000 {
		a, b = Node(2, a, b), Node(2, b, a)
	}
	if !Eq(a, b) || Eq(a, a.Kids[0]) {
		t.Error("P13.1: Eq of trees that share their kids crosswise")
	}
	a, b = Leaf(0), Leaf(1)
	for range 5000 {
		a, b = Node(2, a, b), Node(2, b, a)
	}
	if Eq(a, b) || Eq(b, a) || !Eq(a, a) {
		t.Error("P13.1: Eq of unlike trees that share their kids crosswise")
	}
}

// ring is a tree that holds itself, so many steps below.
func ring(steps int, rule int) *api.Tree {
	top := Node(rule, nil)
	x := top
	for range steps - 1 {
		x = Node(rule, x)
	}
	top.Kids[0] = x
	return top
}

func TestTreesThatHoldThemselves(t *testing.T) {
	s := specOf(t, plain)
	twice := Node(2, nil, nil)
	twice.Kids[0], twice.Kids[1] = twice, twice
	behind := Node(2, Node(3, Leaf(0)), nil)
	behind.Kids[1] = behind
	ahead := Node(2, nil, Node(3, Leaf(0)))
	ahead.Kids[0] = ahead
	leaf := Leaf(0)
	leaf.Kids = []*api.Tree{leaf}
	within := under(ring(3, 1), 5)
	all := []*api.Tree{ring(1, 1), ring(1, 3), twice, behind, ahead, leaf, within, ring(100, 3)}
	for i, x := range all {
		if got := tell(s, x); got != `false [] "" 0 0` || Yield(x) != nil {
			t.Errorf("P0.1, P13.1: ring %d: %s", i, cut(got))
		}
		for k, y := range all {
			// (0 and 6 hold the same without end, as do 1 and 7.)
			want := i == k || i+k == 6 && i*k == 0 || i+k == 8 && i*k == 7
			if got := Eq(x, y); got != want {
				t.Errorf("P13.1: Eq of rings %d and %d is %v", i, k, got)
			}
		}
		for _, y := range []*api.Tree{nil, Leaf(0), under(Node(3, Leaf(0)), 5), doubled(Leaf(0), 50)} {
			if Eq(x, y) || Eq(y, x) {
				t.Errorf("P13.1: Eq of ring %d and a tree without one", i)
			}
		}
	}
	for _, steps := range []int{2, 3, 7, 1000, 5000, 5001, 10001} {
		if !Eq(ring(steps, 1), ring(1, 1)) || !Eq(ring(steps, 1), ring(steps+1, 1)) || Eq(ring(steps, 1), ring(steps, 2)) {
			t.Errorf("P0.1, P13.1: Eq of rings of %d steps", steps)
		}
	}
}

func TestTextByNames(t *testing.T) {
	s := specOf(t, "%token long_name a %% Start : a long_name Next ; Next : ;")
	x := Node(1, Leaf(1), Leaf(0), Node(2))
	if got := Text(s, x); got != "(Start a long_name (Next))" {
		t.Errorf("P13.1: Text is %q", got)
	}
	if got := Text(s, x.Kids[2]); got != "(Next)" {
		t.Errorf("P13.1: Text is %q", got)
	}
	s.Names[4] = "é x"
	if got := Text(s, x); got != "(Start a long_name (é x))" {
		t.Errorf("P13.1: Text is %q", got)
	}
}

// oddSpecs are such as well.Of tells of no grammar.
func oddSpecs(s api.Spec) []api.Spec {
	var all []api.Spec
	for _, n := range strange {
		one := s
		one.Tokens = n
		two := s
		two.NTs, two.Start, two.Expect = n, n, n
		three := s
		three.Rules = append(slices.Clone(s.Rules), api.SRule{Left: n, Right: []int{n, 0}}, api.SRule{Left: 0, Right: []int{n}}, api.SRule{Left: n})
		all = append(all, one, two, three)
	}
	bare := s
	bare.Names, bare.Levels, bare.Assocs = nil, nil, nil
	short := s
	short.Names = []string{"num"}
	long := s
	long.Rules = append(slices.Clone(s.Rules), make([]api.SRule, 100000)...)
	for i := range 1000 {
		long.Rules = append(long.Rules, api.SRule{Left: i, Right: make([]int, i)})
	}
	return append(all, bare, short, long, api.Spec{}, api.Spec{Rules: []api.SRule{{}}}, api.Spec{Tokens: 1, Rules: []api.SRule{{}, {}}})
}

func TestStrangeArguments(t *testing.T) {
	s := specOf(t, sums)
	all := []*api.Tree{nil, chain(5000), chain(5001), fan(9999), fan(100000), doubled(Leaf(0), 40), ring(2, 1), sum(3)}
	for _, n := range strange {
		all = append(all, Leaf(n), Node(n), Node(n, Leaf(n)), raw(n, n), raw(n, 0, nil, raw(-1, n)), Node(6, Leaf(n), Leaf(0)), Node(8), Node(oneNum, Node(n)))
	}
	for _, odd := range append(oddSpecs(s), s) {
		for _, x := range all {
			got, text := Check(odd, x), Text(odd, x)
			if text != "" && !got || text == "" && got && x.Rule != -1 {
				t.Errorf("P13.1: Check is %v, Text %q", got, cut(text))
			}
			Yield(x)
			Size(x)
		}
	}
	for _, x := range all {
		for _, y := range all {
			if Eq(x, y) != Eq(y, x) {
				t.Error("P13.1: Eq goes by which comes first")
			}
		}
	}
}

func TestSpecsWithoutAll(t *testing.T) {
	s := specOf(t, sums)
	s.Names = nil
	if got := tell(s, sum(1)); got != `true [0] "( ( ))" 3 3` {
		t.Errorf("P0.1: without Names: %s", got)
	}
	for _, empty := range []api.Spec{{}, {Names: []string{}, Levels: []int{}, Assocs: []int{}, Rules: []api.SRule{}}} {
		for _, x := range []*api.Tree{Leaf(0), Node(0), Node(1), sum(2)} {
			if Check(empty, x) || Text(empty, x) != "" {
				t.Errorf("P0.4: of an empty Spec: Check %v, Text %q", Check(empty, x), Text(empty, x))
			}
		}
	}
	long := s
	long.Tokens = math.MaxInt
	if !Check(long, Leaf(math.MaxInt-1)) || Check(long, Leaf(math.MaxInt)) || Check(long, Leaf(-1)) {
		t.Error("P13.1: Check by tokens without end")
	}
}

func TestNothingIsChanged(t *testing.T) {
	s := specOf(t, sums)
	before := fmt.Sprint(s)
	x := sum(3)
	for _, y := range places(x) {
		y.Kids = append(make([]*api.Tree, 0, len(y.Kids)+2), y.Kids...)
		y.Kids[:cap(y.Kids)][len(y.Kids)] = Leaf(77)
	}
	was, all := whole(x), places(x)
	first := tell(s, x)
	if second := tell(s, x); first != second {
		t.Errorf("P0.5: told first %s, then %s", first, second)
	}
	Eq(x, sum(3))
	Eq(sum(4), x)
	if whole(x) != was || !slices.Equal(places(x), all) || fmt.Sprint(s) != before {
		t.Error("P0.3: a call changed its arguments")
	}
	for _, y := range all {
		if room := y.Kids[:cap(y.Kids)]; room[len(y.Kids)] == nil || room[len(y.Kids)].Tok != 77 {
			t.Error("P0.3: a call wrote into spare room")
		}
	}
	a, b := Yield(x), Yield(x)
	for i := range a[:cap(a)] {
		a[:cap(a)][i] = -9
	}
	if want := []int{0, 1, 0, 1, 0}; !slices.Equal(b, want) || !slices.Equal(Yield(x), want) || whole(x) != was {
		t.Error("P0.3: two Yields share memory")
	}
}
