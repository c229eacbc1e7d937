package tests

import (
	"cmp"
	"math"
	"slices"
	"strings"
	"testing"

	"loop.example/g00517/impl"
)

func variable(name string) impl.Term { return impl.Term{Kind: impl.TmVar, Name: name} }

func operator(name string, args ...impl.Term) impl.Term {
	return impl.Term{Kind: impl.TmApp, Name: name, Args: args}
}

func word(n int) impl.Term { return impl.Term{Kind: impl.TmWord, N: n} }

// constants returns n constants, all different by name.
func constants(n int) []impl.Term {
	var list []impl.Term
	for i := range n {
		list = append(list, operator("c"+impl.FormatInt(i)))
	}
	return list
}

// chain returns last below depth - 1 operators of one argument each.
func chain(depth int, last impl.Term) impl.Term {
	t := last
	for range depth - 1 {
		t = operator("f", t)
	}
	return t
}

// deepClone copies a term with all of the memory of its arguments, their unused capacity included.
func deepClone(t impl.Term) impl.Term {
	if t.Args == nil {
		return t
	}
	whole := t.Args[:cap(t.Args)]
	copied := make([]impl.Term, len(whole))
	for i, arg := range whole {
		copied[i] = deepClone(arg)
	}
	t.Args = copied[:len(t.Args)]
	return t
}

// sameMemory reports whether two terms agree in all fields, the unused capacity of their arguments included.
func sameMemory(a, b impl.Term) bool {
	return a.Kind == b.Kind && a.N == b.N && a.Name == b.Name && len(a.Args) == len(b.Args) && (a.Args == nil) == (b.Args == nil) &&
		slices.EqualFunc(a.Args[:cap(a.Args)], b.Args[:cap(b.Args)], sameMemory)
}

// termWithSpare copies a term so that each of its lists of arguments has unused capacity, filled with spare.
func termWithSpare(t, spare impl.Term) impl.Term {
	var args []impl.Term
	for _, arg := range t.Args {
		args = append(args, termWithSpare(arg, spare))
	}
	whole := append(args, spare, spare)
	t.Args = whole[:len(t.Args)]
	return t
}

func TestTermConstants(t *testing.T) {
	if impl.MaxTermNodes != 60 || impl.MaxTermDepth != 16 || impl.Modulus != 4 {
		t.Error("limits")
	}
	if impl.TmVar != 1 || impl.TmApp != 2 || impl.TmWord != 3 {
		t.Error("kinds")
	}
}

type termFacts struct {
	term         impl.Term
	count, depth int
	isValid      bool
	vars         []string
}

func (want termFacts) check(t *testing.T) {
	t.Helper()
	if got := impl.CountTerm(want.term); got != want.count {
		t.Errorf("CountTerm(%v) = %d, want %d", want.term, got, want.count)
	}
	if got := impl.DepthOfTerm(want.term); got != want.depth {
		t.Errorf("DepthOfTerm(%v) = %d, want %d", want.term, got, want.depth)
	}
	if got := impl.IsValidTerm(want.term); got != want.isValid {
		t.Errorf("IsValidTerm(%v) = %v", want.term, got)
	}
	if got := impl.VarsOfTerm(want.term); !slices.Equal(got, want.vars) {
		t.Errorf("VarsOfTerm(%v) = %q, want %q", want.term, got, want.vars)
	}
	if got := impl.IsGround(want.term); got != (len(want.vars) == 0) {
		t.Errorf("IsGround(%v) = %v", want.term, got)
	}
}

func TestFactsOfTerms(t *testing.T) {
	x, y, z := variable("X"), variable("Y"), variable("Z")
	for _, c := range []termFacts{
		{x, 1, 1, true, []string{"X"}},
		{variable("X1"), 1, 1, true, []string{"X1"}},
		{variable("Xs"), 1, 1, true, []string{"Xs"}},
		{operator("a"), 1, 1, true, nil},
		{operator("zero"), 1, 1, true, nil},
		{impl.Term{Kind: impl.TmApp, Name: "a", Args: []impl.Term{}}, 1, 1, true, nil},
		{impl.Term{Kind: impl.TmVar, Name: "X", Args: []impl.Term{}}, 1, 1, true, []string{"X"}},
		{impl.Term{Kind: impl.TmWord, N: 1, Args: []impl.Term{}}, 1, 1, true, nil},
		{word(0), 1, 1, true, nil},
		{word(1), 1, 1, true, nil},
		{word(2), 1, 1, true, nil},
		{word(3), 1, 1, true, nil},
		{operator("f", x), 2, 2, true, []string{"X"}},
		{operator("f", word(2)), 2, 2, true, nil},
		{operator("f", operator("a")), 2, 2, true, nil},
		{operator("f", operator("a"), x, word(3)), 4, 2, true, []string{"X"}},
		{operator("f", operator("f", operator("f", operator("a")))), 4, 4, true, nil},
		{operator("f", operator("g", x, word(0)), operator("h", operator("g", y, operator("a")))), 8, 4, true, []string{"X", "Y"}},
		{operator("f", operator("h", operator("h", word(1))), word(1)), 5, 4, true, nil},
		{operator("f", word(1), operator("h", operator("h", word(1)))), 5, 4, true, nil},
		{operator("f", word(1), operator("h", word(1)), word(1)), 5, 3, true, nil},
		// The same variable several times, and variables that do not occur in ascending order.
		{operator("f", x, x), 3, 2, true, []string{"X"}},
		{operator("f", x, operator("g", x, operator("h", x)), x), 7, 4, true, []string{"X"}},
		{operator("f", y, x), 3, 2, true, []string{"X", "Y"}},
		{operator("f", z, operator("g", y, z), x, y), 7, 3, true, []string{"X", "Y", "Z"}},
		{operator("f", operator("g", operator("h", x)), operator("g", y), z), 7, 4, true, []string{"X", "Y", "Z"}},
		{operator("f", operator("g", operator("h", z)), operator("g", y), x), 7, 4, true, []string{"X", "Y", "Z"}},
		{operator("f", variable("X2"), variable("X10"), variable("X"), variable("Xa"), variable("A9")), 6, 2, true, []string{"A9", "X", "X10", "X2", "Xa"}},
		// Operators that have the name of a variable but for its first letter are no variables.
		{operator("x", operator("y"), variable("X")), 3, 2, true, []string{"X"}},
	} {
		c.check(t)
	}
}

func TestTermsOfMaximumSize(t *testing.T) {
	x := variable("X")
	binary := func(depth int) impl.Term {
		t := word(1)
		for range depth - 1 {
			t = operator("f", t, t)
		}
		return t
	}
	for _, c := range []termFacts{
		{operator("f", constants(59)...), 60, 2, true, nil},
		{operator("f", constants(60)...), 61, 2, false, nil},
		{operator("f", constants(61)...), 62, 2, false, nil},
		{operator("f", constants(500)...), 501, 2, false, nil},
		{operator("f", slices.Repeat([]impl.Term{x}, 59)...), 60, 2, true, []string{"X"}},
		{operator("f", slices.Repeat([]impl.Term{x}, 60)...), 61, 2, false, []string{"X"}},
		{operator("f", slices.Repeat([]impl.Term{word(3)}, 59)...), 60, 2, true, nil},
		{operator("f", slices.Repeat([]impl.Term{word(3)}, 60)...), 61, 2, false, nil},
		{operator("f", operator("g", constants(28)...), operator("g", constants(29)...)), 60, 3, true, nil},
		{operator("f", operator("g", constants(29)...), operator("g", constants(29)...)), 61, 3, false, nil},
		{operator("f", operator("g", constants(58)...)), 60, 3, true, nil},
		{operator("f", operator("g", constants(59)...)), 61, 3, false, nil},
		{binary(5), 31, 5, true, nil},
		{binary(6), 63, 6, false, nil},
		{chain(15, word(0)), 15, 15, true, nil},
		{chain(16, word(0)), 16, 16, true, nil},
		{chain(16, operator("a")), 16, 16, true, nil},
		{chain(16, x), 16, 16, true, []string{"X"}},
		{chain(17, word(0)), 17, 17, false, nil},
		{chain(17, operator("a")), 17, 17, false, nil},
		{chain(17, x), 17, 17, false, []string{"X"}},
		{chain(18, x), 18, 18, false, []string{"X"}},
		{operator("f", x, chain(15, x)), 17, 16, true, []string{"X"}},
		{operator("f", chain(15, x), x), 17, 16, true, []string{"X"}},
		{operator("f", x, chain(16, x)), 18, 17, false, []string{"X"}},
		{operator("f", chain(16, x), x), 18, 17, false, []string{"X"}},
		// Both limits at once.
		{operator("f", append(constants(44), chain(15, x))...), 60, 16, true, []string{"X"}},
		{operator("f", append(constants(45), chain(15, x))...), 61, 16, false, []string{"X"}},
		{operator("f", append(constants(43), chain(16, x))...), 60, 17, false, []string{"X"}},
		{chain(15, operator("f", constants(45)...)), 60, 16, true, nil},
		{chain(15, operator("f", constants(46)...)), 61, 16, false, nil},
		{chain(16, operator("f", constants(44)...)), 60, 17, false, nil},
	} {
		c.check(t)
	}
}

func TestTermsOfEverySize(t *testing.T) {
	for n := range 130 {
		termFacts{operator("f", constants(n)...), n + 1, min(n+1, 2), n+1 <= 60, nil}.check(t)
		if n > 0 {
			termFacts{chain(n, variable("X")), n, n, n <= 16, []string{"X"}}.check(t)
		}
	}
}

func TestWordsAndNamesAtTheirLimits(t *testing.T) {
	for _, n := range []int{0, 1, 2, 3} {
		termFacts{word(n), 1, 1, true, nil}.check(t)
	}
	for _, n := range []int{-1, 4, 5, 7, -4, 256, 1 << 32, math.MinInt, math.MaxInt} {
		termFacts{word(n), 1, 1, false, nil}.check(t)
		termFacts{operator("f", word(n)), 2, 2, false, nil}.check(t)
	}
	for _, c := range []struct {
		rest string
		isOK bool
	}{
		{"", true},
		{"bcdefg", true},
		{"bcdefgh", true},
		{"1234567", true},
		{"bcdefghi", false},
		{"12345678", false},
		{"bcdefg\u00e9", false},
		{"B", false},
		{"_", false},
		{" ", false},
		{"\xff", false},
		{strings.Repeat("b", 300), false},
	} {
		termFacts{operator("a" + c.rest), 1, 1, c.isOK, nil}.check(t)
		termFacts{variable("A" + c.rest), 1, 1, c.isOK, []string{"A" + c.rest}}.check(t)
		termFacts{operator("f", operator("a"+c.rest, word(0)), variable("A"+c.rest)), 4, 3, c.isOK, []string{"A" + c.rest}}.check(t)
		// The name of an operator for a variable, and the other way round.
		termFacts{operator("A" + c.rest), 1, 1, false, nil}.check(t)
		termFacts{variable("a" + c.rest), 1, 1, false, []string{"a" + c.rest}}.check(t)
	}
}

func TestFieldsThatAKindDoesNotUse(t *testing.T) {
	x, y, a := variable("X"), variable("Y"), operator("a")
	for _, c := range []termFacts{
		{impl.Term{Kind: impl.TmVar, N: 1, Name: "X"}, 1, 1, false, []string{"X"}},
		{impl.Term{Kind: impl.TmVar, N: -1, Name: "X"}, 1, 1, false, []string{"X"}},
		{impl.Term{Kind: impl.TmVar, N: math.MaxInt, Name: "X"}, 1, 1, false, []string{"X"}},
		{impl.Term{Kind: impl.TmVar, Name: "X", Args: []impl.Term{a}}, 2, 2, false, []string{"X"}},
		{impl.Term{Kind: impl.TmVar, Name: "X", Args: []impl.Term{x}}, 2, 2, false, []string{"X"}},
		{impl.Term{Kind: impl.TmVar, Name: "Y", Args: []impl.Term{x, operator("f", y)}}, 4, 3, false, []string{"X", "Y"}},
		{impl.Term{Kind: impl.TmVar, N: 3, Name: "Y", Args: []impl.Term{x}}, 2, 2, false, []string{"X", "Y"}},
		{impl.Term{Kind: impl.TmVar, N: 3}, 1, 1, false, []string{""}},
		{impl.Term{Kind: impl.TmApp, N: 1, Name: "a"}, 1, 1, false, nil},
		{impl.Term{Kind: impl.TmApp, N: -1, Name: "a"}, 1, 1, false, nil},
		{impl.Term{Kind: impl.TmApp, N: 3, Name: "a"}, 1, 1, false, nil},
		{impl.Term{Kind: impl.TmApp, N: 3, Name: "f", Args: []impl.Term{x, y}}, 3, 2, false, []string{"X", "Y"}},
		{impl.Term{Kind: impl.TmWord, N: 1, Name: "a"}, 1, 1, false, nil},
		{impl.Term{Kind: impl.TmWord, Name: "X"}, 1, 1, false, nil},
		{impl.Term{Kind: impl.TmWord, Name: "1"}, 1, 1, false, nil},
		{impl.Term{Kind: impl.TmWord, N: 1, Args: []impl.Term{a}}, 2, 2, false, nil},
		{impl.Term{Kind: impl.TmWord, N: 1, Args: []impl.Term{word(1)}}, 2, 2, false, nil},
		{impl.Term{Kind: impl.TmWord, Args: []impl.Term{operator("f", y), x}}, 4, 3, false, []string{"X", "Y"}},
		{impl.Term{Kind: impl.TmWord, N: 2, Name: "X", Args: []impl.Term{y}}, 2, 2, false, []string{"Y"}},
	} {
		c.check(t)
		c.term, c.count, c.depth = operator("f", c.term), c.count+1, c.depth+1
		c.check(t)
	}
}

func TestTermsOfNoKind(t *testing.T) {
	x := variable("X")
	termFacts{impl.Term{}, 1, 1, false, nil}.check(t)
	for _, kind := range []int{0, -1, -2, -3, 4, 5, 257, 258, 259, 1<<32 + 1, 1<<32 + 2, 1<<32 + 3, math.MaxInt, math.MinInt} {
		for _, c := range []termFacts{
			{impl.Term{Kind: kind}, 1, 1, false, nil},
			{impl.Term{Kind: kind, N: 1}, 1, 1, false, nil},
			{impl.Term{Kind: kind, Name: "a"}, 1, 1, false, nil},
			{impl.Term{Kind: kind, Name: "X"}, 1, 1, false, nil},
			{impl.Term{Kind: kind, Name: "f", Args: []impl.Term{x}}, 2, 2, false, []string{"X"}},
			{operator("f", impl.Term{Kind: kind, Args: []impl.Term{x, operator("a")}}), 4, 3, false, []string{"X"}},
		} {
			c.check(t)
		}
	}
}

// invalidNodes returns terms of one node that are not valid, and a few of more that only their first node makes invalid.
func invalidNodes() []impl.Term {
	list := []impl.Term{
		{},
		word(-1), word(4), word(math.MinInt), word(math.MaxInt),
		variable(""), variable("x"), variable("Xx_"), variable("X12345678"), variable("\xc3"),
		operator(""), operator("X"), operator("f_"), operator("f12345678"), operator("\xe9"),
		operator("F", word(1)), operator("", variable("X")),
		{Kind: impl.TmVar, N: 1, Name: "X"},
		{Kind: impl.TmVar, N: -1, Name: "X"},
		{Kind: impl.TmVar, Name: "X", Args: []impl.Term{word(1)}},
		{Kind: impl.TmApp, N: 1, Name: "a"},
		{Kind: impl.TmApp, N: -1, Name: "f", Args: []impl.Term{word(1)}},
		{Kind: impl.TmWord, N: 1, Name: "a"},
		{Kind: impl.TmWord, Name: "X"},
		{Kind: impl.TmWord, N: 1, Args: []impl.Term{word(1)}},
	}
	for _, kind := range []int{0, -1, 4, math.MinInt, math.MaxInt} {
		list = append(list,
			impl.Term{Kind: kind, Name: "a"}, impl.Term{Kind: kind, Name: "X"}, impl.Term{Kind: kind, N: 1},
			impl.Term{Kind: kind, Name: "f", Args: []impl.Term{word(1)}})
	}
	return list
}

// replacements returns all terms that t becomes when one of its subterms is replaced by u.
func replacements(t, u impl.Term) []impl.Term {
	all := []impl.Term{u}
	for i, arg := range t.Args {
		for _, changed := range replacements(arg, u) {
			whole := t
			whole.Args = slices.Clone(t.Args)
			whole.Args[i] = changed
			all = append(all, whole)
		}
	}
	return all
}

func TestInvalidTermsBelowValidOnes(t *testing.T) {
	valid := []impl.Term{
		operator("f", variable("X"), word(3), variable("X")),
		operator("g", operator("f", operator("a"), operator("f", word(0))), operator("h", variable("Y"), operator("b"))),
		chain(15, operator("f", word(1), variable("X"))),
	}
	for _, whole := range valid {
		if !impl.IsValidTerm(whole) {
			t.Errorf("IsValidTerm(%v) = false", whole)
		}
		for _, part := range invalidNodes() {
			for _, changed := range replacements(whole, part) {
				if impl.IsValidTerm(changed) {
					t.Errorf("IsValidTerm(%v) = true", changed)
				}
			}
		}
		// Whole and part are both valid, so only the depth could be too large.
		for _, part := range []impl.Term{variable("Z"), operator("c"), word(2)} {
			for _, changed := range replacements(whole, part) {
				if !impl.IsValidTerm(changed) {
					t.Errorf("IsValidTerm(%v) = false", changed)
				}
			}
		}
	}
}

// TestCompareTermsAscending lists terms in ascending order, each separated from the one before by one of the rules.
func TestCompareTermsAscending(t *testing.T) {
	x, y, a, b := variable("X"), variable("Y"), operator("a"), operator("b")
	list := []impl.Term{
		{Kind: math.MinInt, N: 9, Name: "z", Args: []impl.Term{a, a}},
		{Kind: -1},
		{},
		{Args: []impl.Term{{}}},
		{Args: []impl.Term{a}},
		{Name: "\x00"},
		{N: 1},
		{Kind: impl.TmVar, N: math.MinInt, Name: "X"},
		{Kind: impl.TmVar, N: -1, Name: "Z"},
		variable(""),
		variable("X"),
		{Kind: impl.TmVar, Name: "X", Args: []impl.Term{x}},
		{Kind: impl.TmVar, Name: "X", Args: []impl.Term{y}},
		variable("X1"),
		variable("X10"),
		variable("X2"),
		variable("Y"),
		variable("x"),
		{Kind: impl.TmVar, N: 1, Name: "X"},
		{Kind: impl.TmApp, N: -5, Name: "z"},
		operator(""),
		operator("B"),
		operator("a"),
		operator("a", word(3)),
		operator("a", word(0), word(0)),
		operator("a", word(0), word(1)),
		operator("a", word(1), word(0)),
		operator("aa"),
		operator("ab"),
		operator("b"),
		operator("f"),
		operator("f", x),
		operator("f", y),
		operator("f", a),
		operator("f", operator("a", word(0))),
		operator("f", operator("a", word(1))),
		operator("f", operator("a", x, x)),
		operator("f", b),
		operator("f", word(0)),
		operator("f", word(3)),
		operator("f", impl.Term{Kind: 4}),
		operator("f", x, x),
		operator("f", x, word(3)),
		operator("f", operator("f", word(3), x), x),
		operator("f", operator("f", word(3), y), x),
		operator("f", operator("f", x, x, x), x),
		operator("f", word(0), x),
		operator("f", x, x, word(1)),
		operator("f", x, x, word(2)),
		operator("f", x, y, word(0)),
		operator("f", y, x, word(0)),
		operator("z"),
		operator("\x7f"),
		operator("\x80"),
		operator("\xc3\xa9"),
		operator("\xff"),
		{Kind: impl.TmApp, N: 1, Name: "a"},
		{Kind: impl.TmApp, N: math.MaxInt, Name: ""},
		word(math.MinInt),
		word(-1),
		word(0),
		{Kind: impl.TmWord, Args: []impl.Term{x}},
		{Kind: impl.TmWord, Name: "a"},
		word(1),
		word(2),
		word(3),
		word(4),
		word(10),
		word(math.MaxInt),
		{Kind: 4},
		{Kind: math.MaxInt},
	}
	for i, p := range list {
		for j, q := range list {
			if got, want := impl.CompareTerms(p, q), cmp.Compare(i, j); got != want {
				t.Errorf("CompareTerms(%v, %v) = %d, want %d", p, q, got, want)
			}
			if got := impl.EqualTerm(p, q); got != (i == j) {
				t.Errorf("EqualTerm(%v, %v) = %v", p, q, got)
			}
			// Anything below an equal node, and after equal arguments, is compared as at the top.
			for _, nest := range []func(impl.Term) impl.Term{
				func(t impl.Term) impl.Term { return operator("f", t) },
				func(t impl.Term) impl.Term { return operator("f", a, operator("f", x, b), t) },
				func(t impl.Term) impl.Term { return operator("f", operator("g", operator("h", t)), a) },
				func(t impl.Term) impl.Term { return impl.Term{Kind: impl.TmWord, Args: []impl.Term{t}} },
				func(t impl.Term) impl.Term {
					return impl.Term{Kind: impl.TmVar, Name: "X", Args: []impl.Term{x, t}}
				},
				func(t impl.Term) impl.Term { return impl.Term{Kind: 77, Args: []impl.Term{t}} },
			} {
				if got, want := impl.CompareTerms(nest(p), nest(q)), cmp.Compare(i, j); got != want {
					t.Errorf("CompareTerms(%v, %v) = %d, want %d", nest(p), nest(q), got, want)
				}
				if got := impl.EqualTerm(nest(p), nest(q)); got != (i == j) {
					t.Errorf("EqualTerm(%v, %v) = %v", nest(p), nest(q), got)
				}
			}
		}
	}
}

// TestFieldsAreComparedInOrder lets each field decide against all that follow it.
func TestFieldsAreComparedInOrder(t *testing.T) {
	few, many := []impl.Term{word(9)}, []impl.Term{word(0), word(0)}
	for _, c := range []struct{ less, more impl.Term }{
		{impl.Term{Kind: 1, N: 9, Name: "z", Args: many}, impl.Term{Kind: 2, N: 0, Name: "a", Args: few}},
		{impl.Term{Kind: 1, N: 8, Name: "z", Args: many}, impl.Term{Kind: 1, N: 9, Name: "a", Args: few}},
		{impl.Term{Kind: 1, N: 9, Name: "a", Args: many}, impl.Term{Kind: 1, N: 9, Name: "z", Args: few}},
		{impl.Term{Kind: 1, N: 9, Name: "a", Args: few}, impl.Term{Kind: 1, N: 9, Name: "a", Args: many}},
		{operator("f", word(0), word(9)), operator("f", word(1), word(0))},
		{operator("f", operator("f", word(0)), word(9)), operator("f", operator("f", word(1)), word(0))},
		{operator("f", operator("f", operator("f", word(0))), word(9)), operator("f", operator("f", operator("f", word(1))), word(0))},
	} {
		if impl.CompareTerms(c.less, c.more) != -1 || impl.CompareTerms(c.more, c.less) != 1 || impl.EqualTerm(c.less, c.more) || impl.EqualTerm(c.more, c.less) {
			t.Errorf("%v and %v: %d, %d", c.less, c.more, impl.CompareTerms(c.less, c.more), impl.CompareTerms(c.more, c.less))
		}
	}
}

// manyTerms returns a mixture of valid and invalid terms, some of them repeated.
func manyTerms() []impl.Term {
	var nodes []impl.Term
	for _, kind := range []int{-1, 1, 2, 3, 4} {
		for _, n := range []int{-1, 0, 1} {
			for _, name := range []string{"", "X", "a", "ab", "\xff"} {
				nodes = append(nodes, impl.Term{Kind: kind, N: n, Name: name})
			}
		}
	}
	some := []impl.Term{variable("X"), operator("a"), operator("ab"), word(0), word(1), {Kind: 4}, {Kind: impl.TmApp, N: 1, Name: "a"}, operator("a", word(0))}
	all := slices.Clone(nodes)
	for _, p := range some {
		all = append(all, operator("f", p), operator("a", p), impl.Term{Kind: impl.TmVar, Name: "X", Args: []impl.Term{p}})
		for _, q := range some {
			all = append(all, operator("f", p, q), operator("f", operator("f", p), q), operator("f", q, operator("f", p)))
		}
	}
	all = append(all, operator("a", constants(59)...), operator("a", constants(60)...), chain(16, word(0)), chain(17, word(0)))
	return append(all, nodes[:5]...)
}

// orderOf compares as the document says, without the program.
func orderOf(a, b impl.Term) int {
	return cmp.Or(
		cmp.Compare(a.Kind, b.Kind), cmp.Compare(a.N, b.N), strings.Compare(a.Name, b.Name), cmp.Compare(len(a.Args), len(b.Args)),
		slices.CompareFunc(a.Args, b.Args, orderOf))
}

func TestTermsAreTotallyOrdered(t *testing.T) {
	all := manyTerms()
	order := make([][]int, len(all))
	for i, a := range all {
		order[i] = make([]int, len(all))
		for j, b := range all {
			got := impl.CompareTerms(a, b)
			order[i][j] = got
			if got != -1 && got != 0 && got != 1 {
				t.Fatalf("CompareTerms(%v, %v) = %d", a, b, got)
			}
			if got != orderOf(a, b) {
				t.Fatalf("CompareTerms(%v, %v) = %d, want %d", a, b, got, orderOf(a, b))
			}
			if back := impl.CompareTerms(b, a); back != -got {
				t.Fatalf("CompareTerms(%v, %v) = %d, but the other way round it is %d", a, b, got, back)
			}
			if isEqual := impl.EqualTerm(a, b); isEqual != (got == 0) {
				t.Fatalf("EqualTerm(%v, %v) = %v, but CompareTerms = %d", a, b, isEqual, got)
			}
		}
		if order[i][i] != 0 {
			t.Fatalf("CompareTerms(%v, itself) = %d", a, order[i][i])
		}
	}
	for i := range all {
		for j := range all {
			for k := range all {
				if order[i][j] <= 0 && order[j][k] <= 0 && order[i][k] != min(order[i][j], order[j][k]) {
					t.Fatalf("not transitive: %v, %v, %v: %d, %d, %d", all[i], all[j], all[k], order[i][j], order[j][k], order[i][k])
				}
			}
		}
	}
}

func TestGroundTermsHaveNoVariables(t *testing.T) {
	for _, term := range manyTerms() {
		if impl.IsGround(term) != (len(impl.VarsOfTerm(term)) == 0) {
			t.Errorf("IsGround(%v) = %v, VarsOfTerm = %q", term, impl.IsGround(term), impl.VarsOfTerm(term))
		}
	}
}

func TestNilAndEmptyArgsAreEqual(t *testing.T) {
	for _, node := range append(invalidNodes(), variable("X"), operator("a"), word(1)) {
		withNil, withEmpty, withCapacity := node, node, node
		withNil.Args, withEmpty.Args, withCapacity.Args = nil, []impl.Term{}, []impl.Term{word(1)}[:0]
		for _, a := range []impl.Term{withNil, withEmpty, withCapacity} {
			for _, b := range []impl.Term{withNil, withEmpty, withCapacity} {
				if !impl.EqualTerm(a, b) || impl.CompareTerms(a, b) != 0 {
					t.Errorf("%v and %v are not equal", a, b)
				}
				if a, b := operator("f", word(1), a), operator("f", word(1), b); !impl.EqualTerm(a, b) || impl.CompareTerms(a, b) != 0 {
					t.Errorf("%v and %v are not equal", a, b)
				}
			}
			if impl.CountTerm(a) != 1 || impl.DepthOfTerm(a) != 1 || impl.IsValidTerm(a) != impl.IsValidTerm(withNil) {
				t.Errorf("%v: %d nodes, depth %d, valid %v", a, impl.CountTerm(a), impl.DepthOfTerm(a), impl.IsValidTerm(a))
			}
		}
	}
}

func TestTermsAreNotChanged(t *testing.T) {
	terms := append(manyTerms(), operator("f", variable("Y"), operator("g", variable("X"), variable("Z")), variable("Y")))
	for _, term := range terms {
		a := termWithSpare(term, operator("spare"))
		b := termWithSpare(term, variable("Spare"))
		keptA, keptB := deepClone(a), deepClone(b)
		impl.CountTerm(a)
		impl.DepthOfTerm(a)
		impl.IsValidTerm(a)
		impl.VarsOfTerm(a)
		impl.IsGround(a)
		if !impl.EqualTerm(a, b) || !impl.EqualTerm(b, a) || impl.CompareTerms(a, b) != 0 {
			t.Errorf("%v is not equal to itself", term)
		}
		other := operator("f", operator("other"), a)
		impl.EqualTerm(a, other)
		impl.CompareTerms(a, other)
		if !sameMemory(a, keptA) || !sameMemory(b, keptB) || !sameMemory(other.Args[1], keptA) {
			t.Errorf("%v was changed", keptA)
		}
	}
}

func TestVarsOfTermSharesNoMemory(t *testing.T) {
	x, y := variable("X"), variable("Y")
	for _, term := range []impl.Term{x, operator("f", x), operator("f", x, y), operator("f", y, operator("g", x, y), x), operator("a")} {
		kept := deepClone(term)
		names := impl.VarsOfTerm(term)
		want := slices.Clone(names)
		overwrite(impl.VarsOfTerm(term))
		if !slices.Equal(names, want) {
			t.Errorf("two results for %v share memory", kept)
		}
		if !sameMemory(term, kept) {
			t.Errorf("the result for %v shares memory with it", kept)
		}
	}
}

func TestTermsBeyondAllLimits(t *testing.T) {
	const size = 100000
	deep := chain(size, variable("X"))
	termFacts{deep, size, size, false, []string{"X"}}.check(t)
	wide := operator("f", slices.Repeat([]impl.Term{variable("X"), word(1)}, size)...)
	termFacts{wide, 2*size + 1, 2, false, []string{"X"}}.check(t)
	for _, term := range []impl.Term{deep, wide} {
		if !impl.EqualTerm(term, term) || impl.CompareTerms(term, term) != 0 {
			t.Error("a large term is not equal to itself")
		}
	}
	if got := impl.CompareTerms(deep, chain(size, variable("Y"))); got != -1 {
		t.Errorf("CompareTerms of deep terms = %d", got)
	}
	if got := impl.CompareTerms(deep, chain(size+1, variable("X"))); got != -1 {
		t.Errorf("CompareTerms of deep terms of different depths = %d", got)
	}
	// These stand for more nodes than could ever be counted.
	shared := word(1)
	for range 100 {
		shared = operator("f", shared, shared)
	}
	if impl.IsValidTerm(shared) {
		t.Error("IsValidTerm accepts a term of many shared arguments")
	}
}
