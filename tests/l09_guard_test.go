package tests

import (
	"math"
	"runtime/debug"

	"slices"
	"strings"
	"testing"

	"loop.example/g00517/impl"
)

// The operators on words as the rows of a table: the first word gives the row, the second one the place in it.
var wordTables = map[string][4]string{
	"plus":  {"0123", "1230", "2301", "3012"},
	"minus": {"0321", "1032", "2103", "3210"},
	"times": {"0000", "0123", "0202", "0321"},
}

// plainIsWord, plainReduce, plainHolds, plainSeparator and plainGuardText do what the document says, without the program.
func plainIsWord(t impl.Term) bool {
	return t.Kind == impl.TmWord && 0 <= t.N && t.N <= 3 && t.Name == "" && len(t.Args) == 0
}

func plainReduce(t impl.Term) impl.Term {
	var args []impl.Term
	for _, arg := range t.Args {
		args = append(args, plainReduce(arg))
	}
	t.Args = args
	rows, isBuiltin := wordTables[t.Name]
	if !isBuiltin || t.Kind != impl.TmApp || t.N != 0 || len(args) != 2 || !plainIsWord(args[0]) || !plainIsWord(args[1]) {
		return t
	}
	return word(int(rows[args[0].N][args[1].N] - '0'))
}

func plainHolds(g impl.Guard) bool {
	if len(variablesOf(g.Left)) > 0 || len(variablesOf(g.Right)) > 0 {
		return false
	}
	left, right := plainReduce(g.Left), plainReduce(g.Right)
	return g.Kind == impl.GuEqual && equalTerms(left, right) ||
		g.Kind == impl.GuDifferent && !equalTerms(left, right) ||
		g.Kind == impl.GuLess && plainIsWord(left) && plainIsWord(right) && left.N < right.N
}

var guardKinds = []int{impl.GuEqual, impl.GuDifferent, impl.GuLess}

// strangeKinds are the kinds of no guard.
var strangeKinds = []int{0, -1, 4, 5, -2, 1 << 32, 1<<32 + 1, math.MinInt, math.MinInt + 1, math.MaxInt}

func plainSeparator(kind int) string {
	return map[int]string{impl.GuEqual: " == ", impl.GuDifferent: " != ", impl.GuLess: " < "}[kind]
}

func plainGuardText(g impl.Guard) string {
	return plainText(g.Left) + plainSeparator(g.Kind) + plainText(g.Right)
}

// guardIn reads a guard strictly as the document says and without the program: its first side, a separator, and its second side up to the end.
func guardIn(s string) (impl.Guard, bool) {
	left, rest, isLeft := termAtStart(s)
	for _, kind := range guardKinds {
		after, isKind := strings.CutPrefix(rest, plainSeparator(kind))
		right, end, isRight := termAtStart(after)
		if isLeft && isKind && isRight && end == "" && isSmall(left) && isSmall(right) {
			return impl.Guard{Kind: kind, Left: left, Right: right}, true
		}
	}
	return impl.Guard{}, false
}

func equalGuards(a, b impl.Guard) bool {
	return a.Kind == b.Kind && equalTerms(a.Left, b.Left) && equalTerms(a.Right, b.Right)
}

func mustGuard(t *testing.T, s string) impl.Guard {
	t.Helper()
	g, ok := impl.ParseGuard(s)
	if !ok {
		t.Fatalf("ParseGuard(%q) fails", s)
	}
	return g
}

func TestGuardConstants(t *testing.T) {
	if impl.GuEqual != 1 || impl.GuDifferent != 2 || impl.GuLess != 3 {
		t.Error("kinds")
	}
}

func checkReduced(t *testing.T, term, want impl.Term) {
	t.Helper()
	got := impl.ReduceWords(term)
	if !equalTerms(got, want) {
		t.Errorf("ReduceWords(%v) = %v, want %v", term, got, want)
	}
	if again := impl.ReduceWords(got); !equalTerms(again, got) {
		t.Errorf("ReduceWords(%v) = %v, which is reduced to %v", term, got, again)
	}
}

func checkKept(t *testing.T, term impl.Term) {
	t.Helper()
	checkReduced(t, term, term)
}

func TestOperatorsOnAllPairsOfWords(t *testing.T) {
	for name, rows := range wordTables {
		for a := range 4 {
			for b := range 4 {
				want := word(int(rows[a][b] - '0'))
				checkReduced(t, operator(name, word(a), word(b)), want)
				checkReduced(t, operator("f", variable("X"), operator(name, word(a), word(b))), operator("f", variable("X"), want))
				for c := range 4 {
					next := word(int(rows[want.N][c] - '0'))
					checkReduced(t, operator(name, operator(name, word(a), word(b)), word(c)), next)
					last := word(int(rows[c][want.N] - '0'))
					checkReduced(t, operator(name, word(c), operator(name, word(a), word(b))), last)
				}
			}
		}
	}
}

func TestReduceWords(t *testing.T) {
	for _, c := range []struct{ term, want string }{
		{"plus(1, 2)", "3"},
		{"plus(2, 2)", "0"},
		{"plus(3, 3)", "2"},
		{"minus(3, 1)", "2"},
		{"times(1, 3)", "3"},
		// Below 0, and above Modulus - 1.
		{"minus(0, 1)", "3"},
		{"minus(0, 3)", "1"},
		{"minus(1, 3)", "2"},
		{"minus(2, 3)", "3"},
		{"times(2, 2)", "0"},
		{"times(2, 3)", "2"},
		{"times(3, 3)", "1"},
		// From the inside out: each result is a word before it is used.
		{"plus(plus(1, 2), 3)", "2"},
		{"plus(3, plus(1, 2))", "2"},
		{"plus(plus(3, 3), plus(3, 2))", "3"},
		{"minus(minus(0, 1), minus(1, 2))", "0"},
		{"times(minus(0, 1), minus(0, 1))", "1"},
		{"times(plus(3, 2), minus(1, 2))", "3"},
		{"minus(times(3, 3), plus(2, times(2, 3)))", "1"},
		{"times(times(times(3, 3), 3), times(3, 2))", "2"},
		{"plus(plus(plus(plus(1, 1), 1), 1), 1)", "1"},
		{"minus(1, minus(1, minus(1, minus(1, 2))))", "2"},
		// Below other operators, at any depth and at several places.
		{"f(plus(3, 2), minus(X, times(2, 2)))", "f(1, minus(X, 0))"},
		{"f(plus(1, 1))", "f(2)"},
		{"f(g(a, h(times(3, 2))), X)", "f(g(a, h(2)), X)"},
		{"f(plus(1, 1), plus(1, 1), minus(0, 1))", "f(2, 2, 3)"},
		{"cons(plus(3, 2), cons(minus(0, 2), nil))", "cons(1, cons(2, nil))"},
		{"num(plus(1, times(3, 3)))", "num(2)"},
		// An application that is kept keeps those around it, but not those below it.
		{"plus(X, plus(1, 2))", "plus(X, 3)"},
		{"plus(plus(1, 2), X)", "plus(3, X)"},
		{"plus(plus(X, plus(1, 1)), plus(3, 3))", "plus(plus(X, 2), 2)"},
		{"times(a, minus(0, 1))", "times(a, 3)"},
		{"times(num(plus(1, 1)), 2)", "times(num(2), 2)"},
		{"plus(plus(1, 1))", "plus(2)"},
		{"plus(1, plus(1, 1), 2)", "plus(1, 2, 2)"},
		{"minus(plus(1, 1), times(3, 3), minus(0, 1))", "minus(2, 1, 3)"},
		{"plus(times, minus(0, 1))", "plus(times, 3)"},
	} {
		checkReduced(t, must(t, c.term), must(t, c.want))
	}
}

func TestTermsThatAreNotReduced(t *testing.T) {
	for _, s := range []string{
		"X", "a", "0", "3", "f(X, g(1, a))", "f(1, 2)", "nil", "cons(1, cons(2, nil))",
		// Operators of other names, also ones that are nearly built-in.
		"add(1, 2)", "mul(1, 2)", "times2(1, 2)", "plus1(1, 2)", "plu(1, 2)", "pluss(1, 2)", "min(1, 2)", "p(1, 2)", "div(2, 1)", "word(1, 2)", "plusplus(1, 2)",
		// The built-in operators with no, one or three arguments.
		"plus", "minus", "times", "plus(1)", "minus(1)", "times(1)", "plus(1, 2, 3)", "minus(1, 2, 3)", "times(1, 2, 3)", "plus(0, 0, 0, 0)", "f(plus, minus(1))",
		// An argument that is a variable, an operator or an application that is kept.
		"plus(X, 1)", "plus(1, X)", "plus(X, X)", "minus(X, X)", "times(0, X)", "times(X, 0)", "plus(X, 0)", "plus(0, X)", "times(1, X)", "minus(X, 0)",
		"plus(a, 1)", "minus(1, a)", "times(a, a)", "plus(num(1), 2)", "plus(2, num(1))", "times(f(1), f(2))",
		"plus(plus(X, 1), 1)", "plus(1, plus(1, X))", "minus(minus(1), 1)", "times(plus(1, 2, 3), 0)", "plus(plus, minus)", "plus(plus(a, a), plus(X, X))", "minus(1, plus)",
	} {
		checkKept(t, must(t, s))
		checkKept(t, operator("f", must(t, s), variable("X"), must(t, s)))
	}
}

func TestReductionWithWordsThatAreNotValid(t *testing.T) {
	for _, argument := range []impl.Term{
		word(-1), word(4), word(5), word(-4), word(8), word(1 << 32), word(-1 << 32), word(1<<32 + 1), word(math.MinInt), word(math.MaxInt),
		{Kind: impl.TmWord, N: 1, Name: "a"}, {Kind: impl.TmWord, Name: "X"}, {Kind: impl.TmWord, N: 2, Name: "\xff"}, {Kind: impl.TmWord, Name: "plus"},
		{Kind: impl.TmWord, N: 1, Args: []impl.Term{word(1)}}, {Kind: impl.TmWord, Args: []impl.Term{{}}}, {Kind: impl.TmWord, Args: []impl.Term{word(1), word(2)}},
		{}, {N: 1}, {Kind: 4, N: 1}, {Kind: -1, N: 1}, {Kind: math.MaxInt, N: 2}, {Kind: impl.TmVar, N: 1}, {Kind: impl.TmApp, N: 1}, {Kind: impl.TmApp}, {Kind: impl.TmVar},
	} {
		checkKept(t, argument)
		for name := range wordTables {
			for _, other := range []impl.Term{word(0), word(1), word(3), argument} {
				checkKept(t, operator(name, argument, other))
				checkKept(t, operator(name, other, argument))
				checkKept(t, operator("f", operator(name, argument, other)))
				checkKept(t, operator(name, operator(name, other, argument), word(1)))
			}
			// What stands beside it is reduced all the same.
			checkReduced(t, operator(name, argument, operator("plus", word(3), word(2))), operator(name, argument, word(1)))
			checkReduced(t, operator(name, operator("minus", word(0), word(1)), argument), operator(name, word(3), argument))
		}
	}
}

// TestReductionOfNodesThatAreNotValid uses nodes that are no applications, or have another N: they are kept, and the applications below them are reduced.
func TestReductionOfNodesThatAreNotValid(t *testing.T) {
	one, two := word(1), word(2)
	for name := range wordTables {
		for _, kind := range []int{impl.TmVar, impl.TmApp, impl.TmWord, 0, 4, -1, math.MinInt, math.MaxInt} {
			for _, n := range []int{0, 1, -1, 4, math.MinInt, math.MaxInt} {
				if kind == impl.TmApp && n == 0 {
					continue
				}
				node := func(args ...impl.Term) impl.Term { return impl.Term{Kind: kind, N: n, Name: name, Args: args} }
				checkKept(t, node(one, two))
				checkKept(t, node())
				checkKept(t, operator(name, node(one, two), one))
				checkKept(t, operator(name, one, node(one, two)))
				checkReduced(t, node(one, operator("plus", two, one)), node(one, word(3)))
				checkReduced(t, node(operator("times", two, two)), node(word(0)))
				checkReduced(t, operator("f", node(operator("f", operator("minus", one, two)), one)), operator("f", node(operator("f", word(3)), one)))
				checkReduced(t, node(node(operator("plus", operator("plus", one, one), one), node())), node(node(word(3), node())))
			}
		}
	}
	// Names that are none, and that are nearly those of operators.
	for _, name := range []string{"", "Plus", "PLUS", " plus", "plus ", "plus\x00", "\xff", "plus(", "+", "-", "*", "pl\u00fcs", "\uff50lus", strings.Repeat("plus", 1000)} {
		checkKept(t, operator(name, one, two))
		checkReduced(t, operator(name, operator("plus", one, two), two), operator(name, word(3), two))
	}
}

func TestReductionWithNilAndEmptyArgs(t *testing.T) {
	for _, args := range [][]impl.Term{nil, {}, []impl.Term{word(2)}[:0], []impl.Term{word(2), word(3)}[:0]} {
		one := impl.Term{Kind: impl.TmWord, N: 1, Args: args}
		checkReduced(t, operator("plus", one, one), word(2))
		checkReduced(t, operator("f", operator("minus", word(0), one)), operator("f", word(3)))
		for _, node := range []impl.Term{one, operator("plus", args...), variable("X"), {Args: args}, {Kind: impl.TmApp, Name: "f", Args: args}} {
			checkKept(t, node)
			checkKept(t, operator("plus", node, variable("X")))
		}
	}
	// Arguments in unused capacity are none.
	checkKept(t, operator("plus", []impl.Term{word(1), word(2)}[:1]...))
	checkReduced(t, operator("plus", []impl.Term{word(1), word(2), word(3)}[:2]...), word(3))
}

// wordTerms returns built-in operators of up to three levels over words, a variable and a constant, some of them below other operators; the first 14 have nothing but words.
func wordTerms() []impl.Term {
	all := []impl.Term{word(1), word(3)}
	leaves := []impl.Term{word(1), word(3), variable("X"), operator("a")}
	for _, name := range []string{"plus", "minus", "times"} {
		for _, a := range leaves[:2] {
			for _, b := range leaves[:2] {
				all = append(all, operator(name, a, b))
			}
		}
	}
	var below []impl.Term
	for _, name := range []string{"plus", "minus", "times", "f"} {
		for i, a := range leaves {
			below = append(below, operator(name, a, leaves[(i+2)%4]), operator(name, leaves[(i+1)%4], a))
		}
		below = append(below, operator(name, word(0)), operator(name, word(2), word(2)))
	}
	for _, a := range append(slices.Clone(below), leaves...) {
		for _, b := range append(slices.Clone(below), leaves...) {
			for _, name := range []string{"plus", "minus", "times", "f"} {
				all = append(all, operator(name, a, b))
			}
		}
	}
	return append(append(all, leaves...), below...)
}

// reducedTerms returns terms of every form, among them ones that are not valid.
func reducedTerms() []impl.Term {
	sum, difference := operator("plus", word(3), word(2)), operator("minus", word(0), operator("times", word(3), word(3)))
	all := slices.Concat(wordTerms(), positionedTerms(), strangeNodes())
	for _, whole := range append(invalidTerms(), nestedTerm(), chain(16, word(1)), operator("times", word(2), word(3))) {
		for _, p := range positionsBelow(whole) {
			all = append(all, withPart(whole, p, sum), withPart(whole, p, difference), withPart(whole, p, operator("plus", variable("X"), sum)))
		}
		all = append(all, operator("plus", whole, word(1)), operator("times", sum, whole))
	}
	for _, shared := range append(sharedInside(), sharedWords()...) {
		all = append(all, shared, operator("minus", shared, shared))
	}
	return all
}

// sharedWords returns terms of which some applications lie in the same memory: it must be reduced at each of its places.
func sharedWords() []impl.Term {
	whole := []impl.Term{operator("plus", word(3), word(3)), word(1), operator("minus", variable("X"), operator("times", word(3), word(3)))}
	return []impl.Term{
		operator("f", operator("plus", whole[:2]...), operator("g", whole...), operator("times", whole[:2]...), operator("g", whole[1:]...)),
		operator("plus", operator("minus", whole[:2]...), operator("minus", whole[:2]...)),
		operator("g", slices.Repeat([]impl.Term{operator("times", whole[:2]...), operator("f", whole...)}, 3)...),
	}
}

func TestReducedTermsAreNotReducedFurther(t *testing.T) {
	changed := 0
	for _, term := range reducedTerms() {
		got := impl.ReduceWords(term)
		if want := plainReduce(term); !equalTerms(got, want) {
			t.Fatalf("ReduceWords(%v) = %v, want %v", term, got, want)
		}
		if again := impl.ReduceWords(got); !equalTerms(again, got) || !impl.EqualTerm(again, got) {
			t.Fatalf("ReduceWords(%v) = %v, which is reduced to %v", term, got, again)
		}
		for _, p := range positionsBelow(got) {
			if part := *placeIn(&got, p); !equalTerms(impl.ReduceWords(part), part) {
				t.Fatalf("ReduceWords(%v) = %v, of which %v is reduced further", term, got, part)
			}
		}
		if !slices.Equal(impl.VarsOfTerm(got), impl.VarsOfTerm(term)) {
			t.Fatalf("ReduceWords(%v) = %v has other variables", term, got)
		}
		if impl.IsValidTerm(term) && !impl.IsValidTerm(got) {
			t.Fatalf("ReduceWords(%v) = %v is not valid", term, got)
		}
		if !equalTerms(got, term) {
			changed++
		}
	}
	if changed < 1000 {
		t.Errorf("only %d terms are changed", changed)
	}
}

// exactValue computes with integers and without any modulus, which comes last: that this gives the same is what makes the result congruent.
func exactValue(t impl.Term) int {
	if t.Kind == impl.TmWord {
		return t.N
	}
	a, b := exactValue(t.Args[0]), exactValue(t.Args[1])
	return map[string]int{"plus": a + b, "minus": a - b, "times": a * b}[t.Name]
}

func TestReducedWordsAreCongruent(t *testing.T) {
	level := wordTerms()[:14]
	for range 2 {
		for i, a := range slices.Clone(level) {
			for j, name := range []string{"plus", "minus", "times"} {
				level = append(level, operator(name, a, level[(7*i+5*j+3)%len(level)]), operator(name, level[(3*i+j)%len(level)], a))
			}
		}
	}
	if len(level) < 600 {
		t.Fatal(len(level))
	}
	for _, term := range level {
		want := exactValue(term)
		for want < 0 {
			want += 4
		}
		checkReduced(t, term, word(want%4))
	}
}

// TestReducedPartsGiveTheSame reduces a part of a term before the whole, at each of its positions.
func TestReducedPartsGiveTheSame(t *testing.T) {
	for i, term := range reducedTerms() {
		if i%3 != 0 {
			continue
		}
		want := impl.ReduceWords(term)
		for _, p := range positionsBelow(term) {
			changed := withPart(term, p, impl.ReduceWords(*placeIn(&term, p)))
			if got := impl.ReduceWords(changed); !equalTerms(got, want) {
				t.Fatalf("%v is reduced to %v, but after its part at %v to %v", term, want, p, got)
			}
		}
	}
}

func TestReductionKeepsTheSort(t *testing.T) {
	s, vars := expressions(), varSorts("X:e N:word")
	for text, want := range map[string]string{
		"plus(1, 2)": "word", "minus(0, times(3, 3))": "word", "plus(N, plus(1, 1))": "word", "num(plus(1, 2))": "e", "add(num(times(3, 3)), X)": "e",
		"add(num(minus(N, 1)), num(plus(plus(1, 1), 1)))": "e", "num(plus(1, num(1)))": "", "plus(X, plus(1, 1))": "", "add(plus(1, 1), X)": "",
	} {
		term := must(t, text)
		if before, after := impl.SortOf(s, term, vars), impl.SortOf(s, impl.ReduceWords(term), vars); before != want || after != want {
			t.Errorf("%s has the sort %q, and reduced %q, want %q", text, before, after, want)
		}
	}
}

func checkHolds(t *testing.T, g impl.Guard, want bool) {
	t.Helper()
	if impl.HoldsGuard(g) != want {
		t.Errorf("HoldsGuard(%v) is not %v", g, want)
	}
}

func TestHoldsGuard(t *testing.T) {
	for s, want := range map[string]bool{
		"1 == 1": true, "0 == 0": true, "1 == 2": false, "a == a": true, "a == b": false, "a == 1": false, "1 == a": false,
		"f(a, 1) == f(a, 1)": true, "f(a, 1) == f(a, 2)": false, "f(a) == f(a, a)": false, "f(1) == g(1)": false, "f(g(h(1))) == f(g(h(1)))": true, "f(g(h(1))) == f(g(h(2)))": false,
		"1 != 2": true, "1 != 1": false, "a != b": true, "a != a": false, "a != 1": true, "1 != a": true,
		"f(a, 1) != f(a, 1)": false, "f(a, 1) != f(a, 2)": true, "f(a) != f(a, a)": true, "f(1) != g(1)": true,
		// Sides that only ReduceWords makes equal.
		"plus(1, 1) == 2": true, "2 == plus(1, 1)": true, "plus(3, 2) == times(3, 3)": true, "minus(0, 1) == 3": true, "times(2, 2) == 0": true, "plus(1, 1) == 3": false,
		"plus(1, 1) != 2": false, "2 != plus(1, 1)": false, "plus(3, 2) != times(3, 3)": false, "minus(0, 1) != 3": false, "plus(1, 1) != 3": true,
		"plus(1, 2) == plus(2, 1)": true, "plus(1, 2) != plus(2, 1)": false, "minus(1, 2) == minus(2, 1)": false, "minus(1, 2) != minus(2, 1)": true, "minus(1, 3) == minus(3, 1)": true,
		"f(a, g(plus(3, 3))) == f(a, g(2))": true, "f(a, g(plus(3, 3))) != f(a, g(2))": false, "f(a, g(plus(3, 3))) == f(a, g(3))": false, "num(plus(1, plus(1, 1))) == num(3)": true, "num(plus(1, plus(1, 1))) == 3": false,
		// Applications that are kept are equal only to themselves.
		"plus(a, 1) == plus(a, 1)": true, "plus(a, 1) == plus(1, a)": false, "plus(a, 1) != plus(1, a)": true, "plus(1, 1, 1) == 3": false, "plus(a, plus(1, 1)) == plus(a, 2)": true, "plus == plus": true, "plus(2) == 2": false, "add(1, 1) == 2": false, "minus(a, a) == 0": false,
		"0 < 1": true, "2 < 3": true, "0 < 3": true, "1 < 1": false, "0 < 0": false, "3 < 3": false, "1 < 0": false, "3 < 2": false, "3 < 0": false,
		"plus(1, 1) < 3": true, "1 < plus(1, 1)": true, "plus(1, 1) < times(3, 1)": true, "plus(1, 1) < 2": false, "2 < plus(1, 1)": false, "plus(3, 3) < 3": true, "3 < plus(3, 3)": false,
		// The words are compared, and not the numbers before the modulus.
		"minus(0, 1) < 0": false, "0 < minus(0, 1)": true, "times(3, 3) < 2": true, "2 < times(3, 3)": false, "minus(0, 3) < 2": true, "plus(2, 2) < 1": true, "3 < times(2, 2)": false,
		// Sides that are no words.
		"a < b": false, "b < a": false, "a < 1": false, "1 < a": false, "0 < a": false, "f(1) < f(2)": false, "f(1) < 3": false, "0 < f(1)": false, "num(0) < num(1)": false, "plus(a, 1) < 3": false, "0 < plus(a, 1)": false, "0 < plus(1)": false, "plus(0, 0, 0) < 1": false, "plus < 1": false,
	} {
		checkHolds(t, mustGuard(t, s), want)
	}
}

func TestOrderOfAllWords(t *testing.T) {
	for a := range 4 {
		for b := range 4 {
			// The same two words, also as results of operators.
			for _, left := range []impl.Term{word(a), operator("plus", word(a), word(0)), operator("minus", word(0), word((4-a)%4)), operator("times", word(3), word((4-a)%4))} {
				for _, right := range []impl.Term{word(b), operator("minus", word(3), word(3-b)), operator("plus", word(2), operator("plus", word(2), word(b)))} {
					checkHolds(t, impl.Guard{Kind: impl.GuEqual, Left: left, Right: right}, a == b)
					checkHolds(t, impl.Guard{Kind: impl.GuDifferent, Left: left, Right: right}, a != b)
					checkHolds(t, impl.Guard{Kind: impl.GuLess, Left: left, Right: right}, a < b)
				}
			}
		}
	}
}

func TestGuardsWithVariables(t *testing.T) {
	x := variable("X")
	sides := []impl.Term{
		x, variable("Y"), variable(""), variable("a"), variable("\xff"), operator("f", x), operator("f", word(1), operator("g", operator("a"), x)), chain(16, x), chain(100, x),
		operator("plus", x, word(1)), operator("plus", word(1), operator("plus", word(1), x)), operator("times", word(0), x), operator("minus", x, x),
		{Kind: impl.TmVar}, {Kind: impl.TmVar, N: 1}, {Kind: impl.TmVar, N: 1, Name: "X", Args: []impl.Term{word(1)}},
		{Kind: impl.TmWord, N: 1, Args: []impl.Term{x}}, {Kind: 4, Args: []impl.Term{operator("f", x)}}, {Args: []impl.Term{{Args: []impl.Term{{Kind: impl.TmWord, Args: []impl.Term{x}}}}}},
	}
	for i, side := range sides {
		for _, other := range []impl.Term{side, word(0), word(1), word(3), operator("a"), operator("f", word(1)), sides[(i+1)%len(sides)]} {
			for _, kind := range append(slices.Clone(guardKinds), strangeKinds...) {
				checkHolds(t, impl.Guard{Kind: kind, Left: side, Right: other}, false)
				checkHolds(t, impl.Guard{Kind: kind, Left: other, Right: side}, false)
			}
		}
	}
	for _, s := range []string{"X == X", "X != X", "X < X", "X == Y", "X != Y", "X < Y", "0 < N", "N < 3", "f(X) == f(X)", "f(X) != g(X)", "minus(X, X) == 0", "minus(X, X) != 1", "times(0, X) < 1", "1 == f(a, g(X))", "f(a, g(X)) != 1"} {
		checkHolds(t, mustGuard(t, s), false)
	}
}

func TestGuardsOfOtherKinds(t *testing.T) {
	for _, kind := range strangeKinds {
		for _, left := range []impl.Term{word(0), word(1), operator("a"), operator("plus", word(1), word(1)), {}} {
			for _, right := range []impl.Term{word(0), word(1), word(2), operator("a"), operator("b"), {}} {
				checkHolds(t, impl.Guard{Kind: kind, Left: left, Right: right}, false)
			}
		}
	}
	checkHolds(t, impl.Guard{}, false)
}

// TestGuardsWithSidesThatAreNotValid checks that sides are equal or not whatever they are, but that only words are less.
func TestGuardsWithSidesThatAreNotValid(t *testing.T) {
	for _, side := range []impl.Term{
		word(-1), word(4), word(-4), word(math.MinInt), word(math.MaxInt), {Kind: impl.TmWord, N: 1, Name: "a"}, {Kind: impl.TmWord, N: 1, Args: []impl.Term{word(1)}}, {Kind: impl.TmWord, N: 2, Name: "X"},
		{}, {N: 1}, {Kind: 4, N: 1}, {Kind: -1, N: 1}, {Kind: impl.TmApp, N: 1}, {Kind: impl.TmApp, N: 2, Name: "a"}, operator(""), operator("X"), chain(17, word(1)), operator("f", constants(60)...),
		{Kind: impl.TmApp, N: 1, Name: "plus", Args: []impl.Term{word(1), word(1)}}, operator("plus", word(1), word(4)), operator("plus", word(-1), word(2)),
	} {
		checkHolds(t, impl.Guard{Kind: impl.GuEqual, Left: side, Right: deepClone(side)}, true)
		checkHolds(t, impl.Guard{Kind: impl.GuDifferent, Left: side, Right: deepClone(side)}, false)
		checkHolds(t, impl.Guard{Kind: impl.GuLess, Left: side, Right: side}, false)
		for n := range 4 {
			for _, g := range []impl.Guard{{Left: side, Right: word(n)}, {Left: word(n), Right: side}} {
				for _, kind := range guardKinds {
					g.Kind = kind
					checkHolds(t, g, kind == impl.GuDifferent)
				}
			}
		}
	}
	// Sides that are not valid, but equal after ReduceWords.
	for _, node := range []impl.Term{{}, {Kind: impl.TmWord, N: 9}, {Kind: impl.TmApp, N: 5, Name: "plus"}, {Kind: 4, Name: "\xff"}} {
		left, right := node, node
		left.Args, right.Args = []impl.Term{operator("plus", word(3), word(3)), word(1)}, []impl.Term{word(2), operator("minus", word(0), word(3))}
		checkHolds(t, impl.Guard{Kind: impl.GuEqual, Left: left, Right: right}, true)
		checkHolds(t, impl.Guard{Kind: impl.GuDifferent, Left: left, Right: right}, false)
		right.N++
		checkHolds(t, impl.Guard{Kind: impl.GuEqual, Left: left, Right: right}, false)
		checkHolds(t, impl.Guard{Kind: impl.GuDifferent, Left: left, Right: right}, true)
	}
}

func TestGuardsHoldAsTheDocumentSays(t *testing.T) {
	all := reducedTerms()
	held := map[int]int{}
	for i, left := range all {
		others := []impl.Term{left, plainReduce(left), word(i % 4), operator("plus", word(i%3), word(2)), all[(i*7+3)%len(all)], all[(i*11+5)%len(all)]}
		for _, right := range others {
			for _, kind := range append(slices.Clone(guardKinds), 0, 4) {
				for _, g := range []impl.Guard{{Kind: kind, Left: left, Right: right}, {Kind: kind, Left: right, Right: left}} {
					checkHolds(t, g, plainHolds(g))
					if plainHolds(g) {
						held[kind]++
					}
				}
			}
		}
	}
	for _, kind := range guardKinds {
		if held[kind] < 100 {
			t.Errorf("only %d guards of the kind %d hold", held[kind], kind)
		}
	}
}

// checkGuardText checks that a guard and a text belong to each other, in both directions.
func checkGuardText(t *testing.T, g impl.Guard, s string) {
	t.Helper()
	if got := impl.FormatGuard(g); got != s {
		t.Errorf("FormatGuard(%v) = %q, want %q", g, got, s)
	}
	if got, ok := impl.ParseGuard(s); !ok || !equalGuards(got, g) {
		t.Errorf("ParseGuard(%q) = %v, %v, want %v", s, got, ok, g)
	}
}

func checkNoGuard(t *testing.T, s string) {
	t.Helper()
	if got, ok := impl.ParseGuard(s); ok || !equalGuards(got, impl.Guard{}) {
		t.Errorf("ParseGuard(%q) = %v, %v", s, got, ok)
	}
}

func checkNoGuardText(t *testing.T, g impl.Guard) {
	t.Helper()
	if got := impl.FormatGuard(g); got != "" {
		t.Errorf("FormatGuard(%v) = %q", g, got)
	}
}

// checkGuardAsRead checks ParseGuard against the strict reading of a text.
func checkGuardAsRead(t *testing.T, s string) bool {
	t.Helper()
	want, ok := guardIn(s)
	if ok {
		checkGuardText(t, want, s)
	} else {
		checkNoGuard(t, s)
	}
	return ok
}

func TestTextsOfGuards(t *testing.T) {
	x, a := variable("X"), operator("a")
	for _, c := range []struct {
		guard impl.Guard
		text  string
	}{
		{impl.Guard{Kind: impl.GuEqual, Left: x, Right: a}, "X == a"},
		{impl.Guard{Kind: impl.GuDifferent, Left: x, Right: a}, "X != a"},
		{impl.Guard{Kind: impl.GuLess, Left: x, Right: a}, "X < a"},
		{impl.Guard{Kind: impl.GuEqual, Left: a, Right: x}, "a == X"},
		{impl.Guard{Kind: impl.GuLess, Left: word(0), Right: variable("N")}, "0 < N"},
		{impl.Guard{Kind: impl.GuLess, Left: word(3), Right: word(1)}, "3 < 1"},
		{impl.Guard{Kind: impl.GuEqual, Left: word(2), Right: word(2)}, "2 == 2"},
		{impl.Guard{Kind: impl.GuDifferent, Left: operator("plus", variable("N"), word(1)), Right: variable("M")}, "plus(N, 1) != M"},
		{impl.Guard{Kind: impl.GuEqual, Left: operator("plus", word(1), word(1)), Right: word(2)}, "plus(1, 1) == 2"},
		{impl.Guard{Kind: impl.GuEqual, Left: nestedTerm(), Right: nestedTerm()}, "f(g(X, 2), a, h(g(k(Y, b, 0), X))) == f(g(X, 2), a, h(g(k(Y, b, 0), X)))"},
		{impl.Guard{Kind: impl.GuLess, Left: operator("f", x, operator("g", word(3))), Right: operator("h", a)}, "f(X, g(3)) < h(a)"},
	} {
		checkGuardText(t, c.guard, c.text)
	}
}

func TestGuardsAreParsedFromTheirText(t *testing.T) {
	terms := validTerms()
	largest := 0
	for i, left := range terms {
		for _, right := range []impl.Term{left, terms[(i+1)%len(terms)], terms[(i*7+3)%len(terms)], word(i % 4), variable("X")} {
			for _, kind := range guardKinds {
				g := impl.Guard{Kind: kind, Left: left, Right: right}
				checkGuardText(t, g, plainGuardText(g))
				largest = max(largest, impl.CountTerm(left)+impl.CountTerm(right))
				got, ok := impl.ParseGuard(impl.FormatGuard(g))
				if !ok || !impl.EqualGuard(got, g) {
					t.Errorf("%v is parsed from its text as %v, %v", g, got, ok)
				}
			}
		}
	}
	if largest != 120 {
		t.Errorf("no guard of maximum size: %d nodes", largest)
	}
}

func TestGuardsWithoutText(t *testing.T) {
	valid := []impl.Term{word(1), variable("X"), operator("f", operator("a")), nestedTerm()}
	invalid := append(invalidTerms(), chain(17, word(1)), operator("f", constants(60)...), operator(" == "), operator("a == b"), variable("X < Y"), operator("f", word(4)))
	for _, kind := range append(slices.Clone(guardKinds), strangeKinds...) {
		for _, u := range invalid {
			for _, v := range valid {
				checkNoGuardText(t, impl.Guard{Kind: kind, Left: u, Right: v})
				checkNoGuardText(t, impl.Guard{Kind: kind, Left: v, Right: u})
			}
			checkNoGuardText(t, impl.Guard{Kind: kind, Left: u, Right: u})
		}
		for _, v := range valid {
			g := impl.Guard{Kind: kind, Left: v, Right: v}
			if slices.Contains(guardKinds, kind) {
				checkGuardText(t, g, plainGuardText(g))
			} else {
				checkNoGuardText(t, g)
			}
		}
	}
	checkNoGuardText(t, impl.Guard{})
}

func TestTextsThatAreNoGuard(t *testing.T) {
	for _, s := range []string{
		"", " ", "X", "1", "f(X, 1)", "plus(1, 1)",
		// Missing, doubled and other spaces.
		"1<2", "1 <2", "1< 2", "1  < 2", "1 <  2", "1  <  2", " 1 < 2", "1 < 2 ", " 1 < 2 ", "1\t<\t2", "1 <\t2", "1\t< 2", "1 <\n2", "1\n< 2", "1 < 2\n", "\n1 < 2", "1\u00a0<\u00a02", "1 <\u00a02", "1\x00<\x002",
		"1==2", "1 ==2", "1== 2", "1  == 2", "1 ==  2", "1 = = 2", "1 == 2 ", " 1 == 2", "1 ==\n2", "1\t== 2",
		"1!=2", "1 !=2", "1!= 2", "1  != 2", "1 !=  2", "1 ! = 2", "1 != 2 ", " 1 != 2", "1 !=\r\n2",
		// Other separators, and none.
		"1 = 2", "1 === 2", "1 !== 2", "1 =! 2", "1 <> 2", "1 > 2", "1 <= 2", "1 >= 2", "1 =< 2", "1 << 2", "1 ! 2", "1 ~= 2", "1 := 2", "1 => 2", "1 : 2", "1, 2", "1 2", "1 & 2", "1 if 2", "1 \uff1c 2", "eq(1, 2)",
		// Separators that occur twice, alone and together.
		"1 < 2 < 3", "1 == 2 == 3", "1 != 2 != 3", "1 == 1 != 1", "1 != 1 == 1", "1 < 2 == 3", "1 == 2 < 3", "1 < 2 != 3", "1 != 2 < 3", "1 < < 2", "1 == == 2", "1 != != 2", "1 <  < 2", "1 ==  == 2", "1 < == 2", "1 == < 2", "1 != < 2", "1 < 2 < ", " < 1 < 2", "X == Y == ", " == X == Y",
		// Sides that are empty.
		"<", " <", "< ", " < ", "1 <", "1 < ", "< 2", " < 2", "==", " ==", "== ", " == ", "X ==", "X == ", "== X", " == X", "!=", " != ", "X != ", " != X", "  ", " <  < ", " ==  == ",
		// Sides that ParseTerm rejects.
		"1 < 4", "4 < 1", "01 < 2", "1 < 02", "-1 < 2", "1 < +2", "f( == a", "a == f(", "f() == a", "a == f()", "f(X,Y) == a", "a == f(X,Y)", "f(X, Y ) == a", "(a) == a", "a == (a)", "XY == a", "a != Xx_", "X(1) == a", "a == X(1)",
		"a == a)", "a) == a", "abcdefghi == a", "a != abcdefghi", "f(a == b)", "f(a) == f(b", "(a == b)", "not a == b", "a == b, c", "a, b == c", "a == b & c == d", "a == b;", "\"a\" == a", "a == b\x00", "\xffa == b", "a == b\xff", "a == \u00e9",
		"0 < N if 1 < N", "rule a: b => c if 0 < N", "if 0 < N", "claim a == b",
	} {
		checkNoGuard(t, s)
		if _, ok := guardIn(s); ok {
			t.Errorf("%q is a guard", s)
		}
	}
}

// guardTexts returns texts of guards of all kinds.
func guardTexts() []string {
	return []string{"X == Y", "a != b", "0 < N", "plus(N, 1) < 3", "f(g(X, 2), a) == h(1)", "abcdefgh != Abcdefgh", "cons(1, nil) != nil"}
}

func TestGuardTextsWithOneByteChanged(t *testing.T) {
	for _, s := range guardTexts() {
		if !checkGuardAsRead(t, s) {
			t.Errorf("%q is no guard", s)
		}
		for i := range len(s) {
			before, after := s[:i], s[i+1:]
			checkGuardAsRead(t, before)
			checkGuardAsRead(t, s[i:])
			checkGuardAsRead(t, before+after)
			checkGuardAsRead(t, before+s[i:i+1]+s[i:])
			for b := range 256 {
				changed := string([]byte{byte(b)})
				checkGuardAsRead(t, before+changed+after)
				checkGuardAsRead(t, before+changed+s[i:])
			}
			for _, separator := range []string{" == ", " != ", " < ", "==", " =", "= ", ", ", "  ", "(", ")"} {
				checkGuardAsRead(t, before+separator+after)
				checkGuardAsRead(t, before+separator+s[i:])
			}
		}
		for b := range 256 {
			checkGuardAsRead(t, s+string([]byte{byte(b)}))
		}
		for _, foreign := range foreignRunes() {
			for i := range len(s) {
				checkNoGuard(t, s[:i]+foreign+s[i:])
				checkNoGuard(t, s[:i]+foreign+s[i+1:])
			}
			checkNoGuard(t, s+foreign)
		}
	}
}

// TestShortGuardTexts goes through all strings of up to seven bytes that have a meaning somewhere in a guard.
func TestShortGuardTexts(t *testing.T) {
	parsed := 0
	for _, s := range stringsOf("aX=!< ", 7) {
		want, isGuard := guardIn(s)
		got, ok := impl.ParseGuard(s)
		if ok != isGuard || !equalGuards(got, want) {
			t.Errorf("ParseGuard(%q) = %v, %v, want %v, %v", s, got, ok, want, isGuard)
		}
		if ok {
			parsed++
			checkGuardText(t, got, s)
		}
	}
	// There are two sides of each length up to 3: 12 guards for each of the separators of 4 bytes, and 24 for that of 3.
	if parsed != 48 {
		t.Errorf("%d texts", parsed)
	}
}

func TestGuardTextsAtTheLimit(t *testing.T) {
	for _, left := range longestTerms() {
		for _, right := range longestTerms() {
			for _, kind := range guardKinds {
				g := impl.Guard{Kind: kind, Left: left, Right: right}
				s := plainGuardText(g)
				if len(s) != 2*598+len(plainSeparator(kind)) {
					t.Fatalf("%q has %d bytes", s, len(s))
				}
				checkGuardText(t, g, s)
				for _, more := range []string{" ", "  ", "b", ")", ", a", "\n", "\xff"} {
					checkGuardAsRead(t, s+more)
					checkNoGuard(t, more+s)
				}
			}
		}
	}
	for _, kind := range guardKinds {
		for _, c := range []struct {
			side    impl.Term
			isValid bool
		}{
			{chain(16, word(1)), true}, {chain(17, word(1)), false}, {operator("f", constants(59)...), true}, {operator("f", constants(60)...), false},
			{chain(15, operator("f", constants(45)...)), true}, {chain(15, operator("f", constants(46)...)), false},
		} {
			for _, g := range []impl.Guard{{Kind: kind, Left: c.side, Right: word(1)}, {Kind: kind, Left: word(1), Right: c.side}, {Kind: kind, Left: c.side, Right: c.side}} {
				if s := plainGuardText(g); c.isValid {
					checkGuardText(t, g, s)
				} else {
					checkNoGuardText(t, g)
					checkNoGuard(t, s)
				}
			}
		}
	}
	for n := 58; n <= 62; n++ {
		for _, length := range []int{n + 2*(n-1), 597, 598, 599, 600, 601, 602} {
			checkGuardAsRead(t, textOfNodes(n, length)+" == a")
			checkGuardAsRead(t, "a < "+textOfNodes(n, length))
		}
	}
}

func checkAppliedTo(t *testing.T, list []impl.Bind, g, want impl.Guard) {
	t.Helper()
	if got := impl.ApplyToGuard(list, g); !equalGuards(got, want) {
		t.Errorf("ApplyToGuard(%v, %v) = %v, want %v", list, g, got, want)
	}
}

func TestApplyToGuard(t *testing.T) {
	for _, c := range []struct{ list, guard, want string }{
		{"", "X == Y", "X == Y"},
		{"N := 1", "0 < N", "0 < 1"},
		{"N := 1", "N < 0", "1 < 0"},
		{"N := 1", "M < N", "M < 1"},
		{"N := 1", "N != N", "1 != 1"},
		{"X := a; Y := b", "X == Y", "a == b"},
		{"X := 1", "a == f(2)", "a == f(2)"},
		{"X := f(Z, 2)", "g(X, X) != h(a, X)", "g(f(Z, 2), f(Z, 2)) != h(a, f(Z, 2))"},
		// A variable that is replaced by a term with a variable, also on the other side, is not replaced again.
		{"X := Y", "X == Y", "Y == Y"},
		{"X := Y; Y := X", "X == Y", "Y == X"},
		{"X := Y; Y := 1", "X < Y", "Y < 1"},
		{"Y := 1; X := Y", "X < Y", "Y < 1"},
		{"X := f(X)", "X != f(X)", "f(X) != f(f(X))"},
		{"X := f(X, Y); Y := g(X)", "h(X) == Y", "h(f(X, Y)) == g(X)"},
		// The first of two Binds.
		{"X := 1; X := 2", "X == X", "1 == 1"},
		// Nothing is reduced.
		{"N := 2", "plus(N, 1) == 3", "plus(2, 1) == 3"},
		{"N := plus(1, 1)", "N < 3", "plus(1, 1) < 3"},
		// Only variables are replaced.
		{"a := 1; f := X", "f(a) != a", "f(a) != a"},
	} {
		checkAppliedTo(t, binds(t, c.list), mustGuard(t, c.guard), mustGuard(t, c.want))
	}
}

func TestSubstitutionsOfBothSides(t *testing.T) {
	terms := append(substitutedTerms(), reducedTerms()[:50]...)
	kinds := append(slices.Clone(guardKinds), strangeKinds...)
	for i, list := range append(substitutions(t), shortSubstitutions(t, 2)...) {
		for j, left := range terms {
			right, kind := terms[(i+3*j)%len(terms)], kinds[(i+j)%len(kinds)]
			checkAppliedTo(t, list, impl.Guard{Kind: kind, Left: left, Right: right}, impl.Guard{Kind: kind, Left: plainApply(list, left), Right: plainApply(list, right)})
		}
	}
	for _, kind := range kinds {
		checkAppliedTo(t, binds(t, "X := 1"), impl.Guard{Kind: kind, Left: variable("X"), Right: variable("Y")}, impl.Guard{Kind: kind, Left: word(1), Right: variable("Y")})
		checkAppliedTo(t, nil, impl.Guard{Kind: kind}, impl.Guard{Kind: kind})
	}
}

func TestEqualGuard(t *testing.T) {
	x, a := variable("X"), operator("a")
	base := impl.Guard{Kind: impl.GuEqual, Left: operator("f", x, word(1)), Right: a}
	check := func(a, b impl.Guard, want bool) {
		t.Helper()
		if impl.EqualGuard(a, b) != want || impl.EqualGuard(b, a) != want {
			t.Errorf("EqualGuard(%v, %v) is not %v", a, b, want)
		}
	}
	check(base, base, true)
	check(base, impl.Guard{Kind: impl.GuEqual, Left: deepClone(base.Left), Right: deepClone(a)}, true)
	check(impl.Guard{}, impl.Guard{}, true)
	check(base, impl.Guard{}, false)
	// Each field alone.
	for _, kind := range append(slices.Clone(strangeKinds), impl.GuDifferent, impl.GuLess) {
		check(base, impl.Guard{Kind: kind, Left: base.Left, Right: base.Right}, false)
		check(impl.Guard{Kind: kind}, impl.Guard{Kind: kind}, true)
	}
	for _, other := range append(invalidTerms(), x, word(1), operator("f", x, word(2)), operator("f", x), operator("f", variable("Y"), word(1)), operator("g", x, word(1))) {
		check(base, impl.Guard{Kind: impl.GuEqual, Left: other, Right: a}, false)
		check(base, impl.Guard{Kind: impl.GuEqual, Left: base.Left, Right: other}, false)
		check(impl.Guard{Kind: 7, Left: other, Right: other}, impl.Guard{Kind: 7, Left: deepClone(other), Right: deepClone(other)}, true)
	}
	// Sides that are exchanged, or equal only after ReduceWords.
	check(base, impl.Guard{Kind: impl.GuEqual, Left: base.Right, Right: base.Left}, false)
	check(mustGuard(t, "plus(1, 1) == 2"), mustGuard(t, "2 == 2"), false)
	check(mustGuard(t, "1 == plus(1, 1)"), mustGuard(t, "1 == 2"), false)
	for _, args := range [][]impl.Term{{}, []impl.Term{x}[:0]} {
		withArgs := impl.Term{Kind: impl.TmApp, Name: "a", Args: args}
		check(impl.Guard{Kind: impl.GuLess, Left: withArgs, Right: withArgs}, impl.Guard{Kind: impl.GuLess, Left: a, Right: a}, true)
	}
	all := manyTerms()
	for i, left := range all {
		for j, right := range all {
			check(impl.Guard{Kind: 1, Left: left, Right: right}, impl.Guard{Kind: 1, Left: all[(i+j)%len(all)], Right: right}, equalTerms(left, all[(i+j)%len(all)]))
			check(impl.Guard{Kind: 1, Left: right, Right: left}, impl.Guard{Kind: 1, Left: right, Right: all[(i+j)%len(all)]}, equalTerms(left, all[(i+j)%len(all)]))
		}
	}
}

func guardWithSpare(g impl.Guard) impl.Guard {
	return impl.Guard{Kind: g.Kind, Left: termWithSpare(g.Left, word(2)), Right: termWithSpare(g.Right, operator("plus", word(1), word(2)))}
}

func TestGuardsAreNotChanged(t *testing.T) {
	lists := substitutions(t)
	for i, term := range reducedTerms() {
		whole := termWithSpare(term, operator("plus", word(1), word(2)))
		kept := deepClone(whole)
		checkReduced(t, whole, plainReduce(term))
		if !sameMemory(whole, kept) {
			t.Fatalf("%v was changed to %v", kept, whole)
		}
		plain := impl.Guard{Kind: i%5 - 1, Left: term, Right: operator("minus", word(0), word(3))}
		g, list := guardWithSpare(plain), bindsWithSpare(lists[i%len(lists)])
		keptLeft, keptRight, keptList := deepClone(g.Left), deepClone(g.Right), cloneBinds(list)
		checkHolds(t, g, plainHolds(plain))
		if impl.FormatGuard(g) != impl.FormatGuard(plain) {
			t.Errorf("the text of %v depends on unused capacity", g)
		}
		checkAppliedTo(t, list, g, impl.Guard{Kind: g.Kind, Left: plainApply(list, g.Left), Right: plainApply(list, g.Right)})
		if !impl.EqualGuard(g, plain) || !impl.EqualGuard(plain, g) {
			t.Errorf("%v is not equal to itself", plain)
		}
		if !sameMemory(g.Left, keptLeft) || !sameMemory(g.Right, keptRight) || !sameBindMemory(keptList, list) {
			t.Fatalf("%v or %v was changed to %v or %v", plain, keptList, g, list)
		}
	}
}

func TestReducedTermsShareNoMemory(t *testing.T) {
	for _, term := range reducedTerms() {
		for _, whole := range []impl.Term{term, termWithSpare(term, operator("plus", word(1), word(2)))} {
			kept := deepClone(whole)
			results := []impl.Term{impl.ReduceWords(whole), impl.ReduceWords(whole)}
			if sharesMemory(results, []impl.Term{whole}) {
				t.Fatalf("results for %v share memory", term)
			}
			overwriteTerm(results[0])
			if !equalTerms(results[1], plainReduce(kept)) {
				t.Fatalf("two results for %v share memory", term)
			}
			overwriteTerm(results[1])
			if !sameMemory(whole, kept) {
				t.Fatalf("writing to the results for %v changes it to %v", kept, whole)
			}
		}
	}
	for _, term := range slices.Concat(sharedInside(), sharedWords(), []impl.Term{nestedTerm(), operator("f", sharedWords()...)}) {
		checkApart(t, func() impl.Term { return impl.ReduceWords(term) })
	}
}

// guardAsTerm puts the sides of a guard below one operator, in the memory in which they are.
func guardAsTerm(g impl.Guard) impl.Term { return operator("guard", g.Left, g.Right) }

func TestResultsOfGuardsShareNoMemory(t *testing.T) {
	for _, shared := range append(sharedInside(), sharedWords()...) {
		list := []impl.Bind{{Name: "X", Term: shared}, {Name: "Y", Term: shared.Args[0]}}
		for _, side := range []impl.Term{variable("X"), shared, operator("f", variable("X"), variable("Y"), variable("X")), operator("a")} {
			g := impl.Guard{Kind: impl.GuEqual, Left: side, Right: side}
			keptSide, keptList := deepClone(side), cloneBinds(list)
			results := []impl.Term{guardAsTerm(impl.ApplyToGuard(list, g)), guardAsTerm(impl.ApplyToGuard(list, g)), guardAsTerm(impl.ApplyToGuard(nil, g))}
			if sharesMemory(results, []impl.Term{guardAsTerm(g), asTerm(list)}) {
				t.Fatalf("results for %v and %v share memory", list, g)
			}
			for _, result := range results {
				overwriteTerm(result)
			}
			if !sameMemory(side, keptSide) || !sameBindMemory(keptList, list) {
				t.Fatalf("writing to the results for %v and %v changes %v or %v", keptList, keptSide, list, side)
			}
			checkApart(t, func() impl.Term { return guardAsTerm(impl.ApplyToGuard(list, g)) })
		}
	}
	for _, s := range append(guardTexts(), "f(g(a, b), g(a, b)) == f(g(a, b), g(a, b))", "f(a) != f(a)", "f(X) < ", "f(X) == f()") {
		checkApart(t, func() impl.Term {
			got, _ := impl.ParseGuard(s)
			return guardAsTerm(got)
		})
		first, _ := impl.ParseGuard(s)
		second, _ := impl.ParseGuard(s)
		if sharesMemory([]impl.Term{guardAsTerm(first), guardAsTerm(second)}, nil) {
			t.Errorf("results for %q share memory", s)
		}
	}
}

// nestedWords applies an operator to one word and itself again and again, on the stated side.
func nestedWords(name string, count int, isLeft bool, last impl.Term) impl.Term {
	t := last
	for range count {
		if isLeft {
			t = operator(name, t, word(1))
		} else {
			t = operator(name, word(1), t)
		}
	}
	return t
}

func TestGuardsOfDeepTerms(t *testing.T) {
	const size = 100001
	x := variable("X")
	deepX := nestedWords("plus", size, true, x)
	// A stack in which there is no room for a call for each level of a deep term.
	defer debug.SetMaxStack(debug.SetMaxStack(1 << 20))
	for _, isLeft := range []bool{true, false} {
		sum := nestedWords("plus", size, isLeft, word(3))
		if got := impl.ReduceWords(sum); !impl.EqualTerm(got, word(0)) {
			t.Errorf("a deep sum is reduced to the word %d", got.N)
		}
		if got := impl.ReduceWords(chain(size, sum)); !impl.EqualTerm(got, chain(size, word(0))) {
			t.Error("a deep term with a deep sum")
		}
		kept := nestedWords("plus", size, isLeft, operator("a"))
		if got := impl.ReduceWords(nestedWords("plus", size, isLeft, operator("f", sum))); !impl.EqualTerm(got, nestedWords("plus", size, isLeft, operator("f", word(0)))) {
			t.Error("a deep sum that is kept")
		}
		checkLarge := func(kind int, left, right impl.Term, want bool) {
			t.Helper()
			g := impl.Guard{Kind: kind, Left: left, Right: right}
			if impl.HoldsGuard(g) != want {
				t.Errorf("HoldsGuard of a deep guard of the kind %d is not %v", kind, want)
			}
			if impl.FormatGuard(g) != "" || !impl.EqualGuard(g, g) {
				t.Error("a deep guard has a text, or is not equal to itself")
			}
		}
		checkLarge(impl.GuEqual, sum, word(0), true)
		checkLarge(impl.GuDifferent, word(0), sum, false)
		checkLarge(impl.GuLess, sum, word(1), true)
		checkLarge(impl.GuLess, word(3), sum, false)
		checkLarge(impl.GuEqual, kept, kept, true)
		checkLarge(impl.GuDifferent, kept, sum, true)
		checkLarge(impl.GuLess, kept, word(3), false)
		checkLarge(impl.GuEqual, deepX, deepX, false)
		checkLarge(impl.GuDifferent, deepX, sum, false)
		checkLarge(9, sum, word(0), false)
	}
	g := impl.ApplyToGuard([]impl.Bind{{Name: "X", Term: chain(size, word(2))}}, impl.Guard{Kind: impl.GuLess, Left: deepX, Right: chain(size, x)})
	if g.Kind != impl.GuLess || !impl.EqualTerm(g.Right, chain(2*size-1, word(2))) || !impl.EqualTerm(g.Left, nestedWords("plus", size, true, chain(size, word(2)))) {
		t.Error("ApplyToGuard of a deep guard")
	}
}

func TestGuardsOfWideTerms(t *testing.T) {
	const size = 100000
	var args, want []impl.Term
	for i := range size {
		args = append(args, operator("times", word(i%4), operator("minus", word(0), word(1))), variable("X"), operator("plus", variable("X"), word(1)))
		want = append(want, word((4-i%4)%4), variable("X"), operator("plus", variable("X"), word(1)))
	}
	wide, wanted := operator("f", args...), operator("f", want...)
	if got := impl.ReduceWords(wide); !impl.EqualTerm(got, wanted) {
		t.Error("a wide term is not reduced")
	}
	kept := operator("plus", slices.Repeat([]impl.Term{word(1)}, size)...)
	if got := impl.ReduceWords(kept); !impl.EqualTerm(got, kept) {
		t.Error("a sum of many words is not kept")
	}
	g := impl.Guard{Kind: impl.GuEqual, Left: wide, Right: wanted}
	if impl.HoldsGuard(g) || !impl.HoldsGuard(impl.ApplyToGuard([]impl.Bind{{Name: "X", Term: word(2)}}, g)) {
		t.Error("a guard of wide terms")
	}
	if impl.FormatGuard(g) != "" || !impl.EqualGuard(g, g) || impl.EqualGuard(g, impl.Guard{Kind: impl.GuEqual, Left: wanted, Right: wanted}) {
		t.Error("a guard of wide terms has a text, or is not equal to itself")
	}
	// A sum of 2^17 words, in which all parts of the same size lie in the same memory.
	shared := word(1)
	for range 17 {
		shared = operator("plus", shared, shared)
	}
	if got := impl.ReduceWords(shared); !equalTerms(got, word(0)) {
		t.Errorf("a sum of shared words is %v", got)
	}
	checkHolds(t, impl.Guard{Kind: impl.GuLess, Left: shared, Right: operator("plus", shared, word(1))}, true)
}

func TestGuardTextsBeyondAllLimits(t *testing.T) {
	const size = 100000
	shared := word(1)
	for range 100 {
		shared = operator("f", shared, shared)
	}
	// A stack in which there is no room for a call for each level of a deep term.
	defer debug.SetMaxStack(debug.SetMaxStack(1 << 20))
	for _, kind := range guardKinds {
		for _, g := range []impl.Guard{{Kind: kind, Left: shared, Right: word(1)}, {Kind: kind, Left: word(1), Right: shared}, {Kind: kind, Left: shared, Right: shared}} {
			if impl.FormatGuard(g) != "" {
				t.Error("a guard beyond all limits has a text")
			}
		}
	}
	for _, part := range []string{"f(", "a", "0", " ", " == ", " != ", " < ", "1 == ", " < 1", "X == Y", "X < Y & ", "\xff", "\x00", "="} {
		for _, s := range []string{strings.Repeat(part, size), "X == " + strings.Repeat(part, size), strings.Repeat(part, size) + " == X", "X < " + strings.Repeat(part, size), strings.Repeat(part, size) + " != 1"} {
			if got, ok := impl.ParseGuard(s); ok || !equalGuards(got, impl.Guard{}) {
				t.Errorf("a text of %d bytes is parsed", len(s))
			}
		}
	}
}
