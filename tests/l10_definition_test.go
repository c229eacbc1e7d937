package tests

import (
	"math"
	"runtime/debug"
	"slices"
	"strings"
	"testing"

	"loop.example/g00517/impl"
)

// ruleIn reads a rule such as "add: f(X) => X if 0 < N & N != M", whose terms and guards have a text.
func ruleIn(t *testing.T, text string) impl.Rule {
	t.Helper()
	name, rest, _ := strings.Cut(text, ": ")
	left, rest, _ := strings.Cut(rest, " => ")
	right, guards, hasGuards := strings.Cut(rest, " if ")
	r := impl.Rule{Name: name, Left: must(t, left), Right: must(t, right)}
	if hasGuards {
		for _, guard := range strings.Split(guards, " & ") {
			r.Guards = append(r.Guards, mustGuard(t, guard))
		}
	}
	return r
}

// definitionIn adds rules and elements of Strict such as "add 0" to a signature.
func definitionIn(t *testing.T, s impl.Signature, strict []string, rules ...string) impl.Definition {
	t.Helper()
	d := impl.Definition{Signature: s}
	for _, text := range strict {
		op, arg, _ := strings.Cut(text, " ")
		n, ok := impl.ParseInt(arg)
		if !ok {
			t.Fatalf("%q is no element of Strict", text)
		}
		d.Strict = append(d.Strict, impl.Strict{Op: op, Arg: n})
	}
	for _, text := range rules {
		d.Rules = append(d.Rules, ruleIn(t, text))
	}
	return d
}

// exampleDefinitions returns the three languages of the document and a few small ones, all valid.
func exampleDefinitions(t *testing.T) []impl.Definition {
	t.Helper()
	return []impl.Definition{
		definitionIn(t, expressions(), []string{"add 0", "add 1", "mul 0", "mul 1", "ifz 0"},
			"add: add(num(N), num(M)) => num(plus(N, M))",
			"mul: mul(num(N), num(M)) => num(times(N, M))",
			"zero: ifz(num(0), X, Y) => X",
			"other: ifz(num(N), X, Y) => Y if 0 < N"),
		definitionIn(t, stackMachine(), []string{"comp 1", "run 0"},
			"lit: comp(num(N), I) => push(N, I)",
			"csum: comp(add(X, Y), I) => comp(X, comp(Y, sum(I)))",
			"cprod: comp(mul(X, Y), I) => comp(X, comp(Y, prod(I)))",
			"push: run(push(N, I), S) => run(I, cons(N, S))",
			"sum: run(sum(I), cons(N, cons(M, S))) => run(I, cons(plus(M, N), S))",
			"prod: run(prod(I), cons(N, cons(M, S))) => run(I, cons(times(M, N), S))"),
		loopLanguage(t),
		{},
		{Signature: signature("e", "a : e")},
		definitionIn(t, signature("", "f word : word", "c : word"), []string{"f 0"}, "f: f(N) => plus(N, 1) if N != 3 & c == c", "c: c => f(0)"),
	}
}

func loopLanguage(t *testing.T) impl.Definition {
	t.Helper()
	return definitionIn(t, signature("c", "loop word word : c", "done word : c", "wrap c : c"), []string{"wrap 0"},
		"turn: loop(N, M) => loop(minus(N, 1), plus(M, 1)) if 0 < N",
		"end: loop(0, M) => done(M)",
		"open: wrap(done(N)) => done(plus(N, 1))")
}

// plainIsTerm, plainIsRule, plainIsGuard, plainIsDefinition and plainIsConfig do what the document says, without chapter 10 of the program.
func plainIsTerm(t impl.Term) bool {
	if !isSmall(t) {
		return false
	}
	for _, p := range positionsBelow(t) {
		node := *placeIn(&t, p)
		isLeaf := node.N == 0 && len(node.Args) == 0
		switch {
		case node.Kind == impl.TmVar && isLeaf && variableStart.FindString(node.Name) == node.Name && node.Name != "":
		case node.Kind == impl.TmApp && node.N == 0 && operatorStart.FindString(node.Name) == node.Name && node.Name != "":
		case plainIsWord(node):
		default:
			return false
		}
	}
	return true
}

func isBuiltinName(name string) bool {
	return slices.Contains([]string{"plus", "minus", "times"}, name)
}

func plainIsRule(s impl.Signature, r impl.Rule) bool {
	if !impl.IsName(r.Name) || !plainIsTerm(r.Left) || !plainIsTerm(r.Right) || r.Left.Kind != impl.TmApp || len(r.Guards) > 2 {
		return false
	}
	for _, p := range positionsBelow(r.Left) {
		if node := *placeIn(&r.Left, p); node.Kind == impl.TmApp && isBuiltinName(node.Name) {
			return false
		}
	}
	op := declared(s, r.Left.Name)
	if op == nil {
		return false
	}
	vars, ok := plainVars(s, r.Left, op.Result)
	known := variablesOf(r.Left)
	if !ok || plainSort(s, r.Right, vars) != op.Result || !areAmong(variablesOf(r.Right), known) {
		return false
	}
	for _, g := range r.Guards {
		if !plainIsGuard(s, g, vars) || !areAmong(variablesOf(g.Left), known) || !areAmong(variablesOf(g.Right), known) {
			return false
		}
	}
	return true
}

func areAmong(names, known []string) bool {
	return !slices.ContainsFunc(names, func(name string) bool { return !slices.Contains(known, name) })
}

func plainIsGuard(s impl.Signature, g impl.Guard, vars []impl.VarSort) bool {
	if !slices.Contains(guardKinds, g.Kind) || !plainIsTerm(g.Left) || !plainIsTerm(g.Right) {
		return false
	}
	left, right := plainSort(s, g.Left, vars), plainSort(s, g.Right, vars)
	return left != "" && left == right && (g.Kind != impl.GuLess || left == "word")
}

func plainIsDefinition(d impl.Definition) bool {
	if !impl.IsValidSignature(d.Signature) || len(d.Rules) > 16 || len(d.Strict) > 8 {
		return false
	}
	for i, r := range d.Rules {
		for _, other := range d.Rules[:i] {
			if other.Name == r.Name {
				return false
			}
		}
		if !plainIsRule(d.Signature, r) {
			return false
		}
	}
	for i, element := range d.Strict {
		op := declared(d.Signature, element.Op)
		if op == nil || isBuiltinName(element.Op) || element.Arg < 0 || element.Arg >= len(op.Args) || slices.Index(d.Strict, element) < i {
			return false
		}
	}
	return true
}

func plainIsConfig(d impl.Definition, term impl.Term) bool {
	return plainIsDefinition(d) && plainIsTerm(term) && len(variablesOf(term)) == 0 && plainSort(d.Signature, term, nil) != ""
}

func sameRules(a, b impl.Rule) bool {
	return a.Name == b.Name && equalTerms(a.Left, b.Left) && equalTerms(a.Right, b.Right) && slices.EqualFunc(a.Guards, b.Guards, equalGuards)
}

func sameDefinitions(a, b impl.Definition) bool {
	return slices.Equal(a.Signature.Sorts, b.Signature.Sorts) && slices.EqualFunc(a.Signature.Ops, b.Signature.Ops, sameOp) &&
		slices.EqualFunc(a.Rules, b.Rules, sameRules) && slices.Equal(a.Strict, b.Strict)
}

// checkRule also checks the rule as the only one of a definition, which is valid if its signature and its rule are.
func checkRule(t *testing.T, s impl.Signature, r impl.Rule, want bool) {
	t.Helper()
	if got := impl.IsValidRule(s, r); got != want {
		t.Errorf("IsValidRule(%v, %v) = %v", s, r, got)
	}
	if got := impl.IsValidDefinition(impl.Definition{Signature: s, Rules: []impl.Rule{r}}); got != (want && impl.IsValidSignature(s)) {
		t.Errorf("IsValidDefinition with %v and the rule %v = %v", s, r, got)
	}
}

func checkRuleText(t *testing.T, s impl.Signature, text string, want bool) {
	t.Helper()
	checkRule(t, s, ruleIn(t, text), want)
}

// checkDefinition also checks promise 10, and that the plain reading of the document gives the same.
func checkDefinition(t *testing.T, d impl.Definition, want bool) {
	t.Helper()
	got := impl.IsValidDefinition(d)
	if got != want {
		t.Errorf("IsValidDefinition(%v) = %v", d, got)
	}
	if plainIsDefinition(d) != want {
		t.Errorf("plainIsDefinition(%v) is not %v", d, want)
	}
	for _, r := range d.Rules {
		if got && !impl.IsValidRule(d.Signature, r) {
			t.Errorf("%v is valid, but not its rule %v", d, r)
		}
	}
}

func TestDefinitionConstants(t *testing.T) {
	if impl.MaxRules != 16 || impl.MaxGuards != 2 || impl.MaxStrict != 8 {
		t.Error("limits")
	}
}

func TestDefinitionsThatAreValid(t *testing.T) {
	for _, d := range exampleDefinitions(t) {
		checkDefinition(t, d, true)
		for _, r := range d.Rules {
			checkRule(t, d.Signature, r, true)
		}
	}
}

// ruleSignature has operators of two sorts and of the sort word.
func ruleSignature() impl.Signature {
	return signature("e d", "num word : e", "add e e : e", "a : e", "f e : d", "b : d", "k word e d : e", "size e : word", "zero : word")
}

func TestRulesThatAreValid(t *testing.T) {
	s := ruleSignature()
	for _, text := range []string{
		"r: a => a",
		"r: a => num(0)",
		"r: a => add(a, num(plus(1, times(2, 3))))",
		"r: add(X, Y) => X",
		"r: add(X, Y) => Y",
		"r: add(X, Y) => a",
		"r: add(X, X) => X",
		"r: add(X, add(Y, X)) => add(Y, add(X, Y))",
		"r: add(a, num(3)) => num(3)",
		"r: num(N) => num(plus(N, N))",
		"r: k(N, X, B) => add(X, num(N))",
		"r: k(0, num(N), f(X)) => k(N, X, b)",
		// Results of other sorts than the first one, and of the sort word.
		"r: f(X) => b",
		"r: b => f(a)",
		"r: size(X) => 3",
		"r: size(num(N)) => minus(N, 1)",
		"r: size(add(X, Y)) => plus(size(X), size(Y))",
		"r: zero => plus(zero, 1)",
		// The same name for a rule, an operator and a sort.
		"add: add(X, Y) => X",
		"e: a => a",
		"word: a => a",
		"plus: a => a",
		"abcdefgh: a => a",
		"z1234567: a => a",
		// Guards.
		"r: num(N) => a if 0 < N",
		"r: num(N) => a if N < 0 & N != 3",
		"r: num(N) => a if 1 < 2",
		"r: k(N, X, B) => X if plus(N, 1) == times(N, N) & zero < size(X)",
		"r: k(N, X, B) => X if X == add(X, num(N)) & B != f(X)",
		"r: k(N, X, B) => X if size(X) < N & B == B",
		"r: a => a if a == num(plus(1, 1)) & b != f(a)",
		"r: add(X, Y) => X if X == Y & X == Y",
	} {
		checkRuleText(t, s, text, true)
	}
}

func TestRulesThatAreNotValid(t *testing.T) {
	s := ruleSignature()
	for _, text := range []string{
		// Names that are none.
		"R: a => a", ": a => a", "1: a => a", "abcdefghi: a => a", "a-b: a => a", " r: a => a", "r\xff: a => a",
		// A Left that is a variable or a word, or an application of no operator that is declared.
		"r: X => a", "r: X => X", "r: 1 => a", "r: 1 => 1", "r: 1 => zero", "r: X => 1",
		"r: nope => nope", "r: nope => a", "r: nope(X) => X", "r: nope(1) => 1", "r: e => a", "r: word(X) => X",
		// Built-in operators, at the root of Left and below it, with any arguments.
		"r: plus(N, M) => N", "r: minus(1, 2) => 3", "r: times(N, M) => times(M, N)", "r: plus => 1", "r: plus(N) => N", "r: times(1, 2, 3) => 0",
		"r: num(plus(N, M)) => a", "r: num(minus(1, N)) => num(N)", "r: num(times(1, 1)) => a", "r: k(plus(1, 1), X, B) => X",
		"r: add(X, num(plus(N, 1))) => X", "r: k(0, add(a, num(times(0, 0))), B) => a", "r: size(num(plus(1, 2))) => 1",
		// A Left without a sort.
		"r: a(X) => a", "r: add(X) => X", "r: add(X, Y, Z) => X", "r: num => a", "r: num(X, Y) => a", "r: add => a",
		"r: num(a) => a", "r: add(1, X) => X", "r: add(X, b) => X", "r: f(b) => b", "r: f(f(X)) => b", "r: add(X, nope) => X", "r: num(num(N)) => a",
		// A Right without a sort, or with another one than Left.
		"r: a => b", "r: a => 1", "r: a => zero", "r: b => a", "r: zero => a", "r: f(X) => X", "r: f(X) => size(X)", "r: size(X) => X", "r: num(N) => N", "r: a => size(a)",
		"r: a => nope", "r: a => a(1)", "r: a => add(a)", "r: a => add(a, 1)", "r: a => num(a)", "r: add(X, Y) => add(X, nope)", "r: add(X, Y) => num(X)", "r: num(N) => add(N, N)", "r: a => plus(1, 1)", "r: zero => plus(1)", "r: zero => plus(a, 1)",
		// A variable that occurs only in Right.
		"r: a => X", "r: a => num(N)", "r: add(X, Y) => Z", "r: add(X, Y) => add(X, add(Y, Z))", "r: num(N) => num(plus(N, M))", "r: f(X) => f(add(X, Y))", "r: zero => N", "r: add(X, Y) => Xx", "r: add(X, X1) => X2",
		// A variable that would need two sorts, in Left or in Right.
		"r: k(X, X, B) => a", "r: k(N, X, X) => X", "r: k(N, num(X), f(X)) => a", "r: add(X, num(X)) => a", "r: add(num(X), X) => a", "r: k(N, X, B) => k(X, X, B)", "r: k(N, X, B) => num(X)", "r: k(N, X, B) => add(X, B)", "r: f(X) => f(num(X))",
		// More guards than MaxGuards.
		"r: num(N) => a if 0 < N & 0 < N & 0 < N", "r: num(N) => a if 1 == 1 & 2 == 2 & 3 == 3 & N == N",
		// A variable that occurs only in a guard, on either side and in either guard.
		"r: num(N) => a if 0 < M", "r: num(N) => a if M < 1", "r: num(N) => a if M == M", "r: num(N) => a if N != plus(N, M)", "r: num(N) => a if 0 < N & M < 3", "r: num(N) => a if 0 < M & N < 3", "r: a => a if X == X", "r: a => a if add(a, X) != a", "r: f(X) => b if Y == Y",
		// Sides of different sorts.
		"r: num(N) => a if N == a", "r: num(N) => a if a == N", "r: num(N) => a if a != b", "r: add(X, Y) => X if X == f(X)", "r: k(N, X, B) => X if X == B", "r: k(N, X, B) => X if N != X", "r: a => a if 0 == a", "r: a => a if zero == a", "r: a => a if size(a) != a",
		// GuLess with sides of another sort than word.
		"r: add(X, Y) => X if X < Y", "r: a => a if a < a", "r: f(X) => b if b < f(X)", "r: num(N) => a if 0 < a", "r: num(N) => a if a < 1", "r: k(N, X, B) => X if B < B",
		// Sides without a sort.
		"r: a => a if nope == nope", "r: a => a if nope != a", "r: a => a if a == nope", "r: a => a if nope < nope", "r: a => a if a(1) == a(1)", "r: a => a if plus(a, 1) < 2", "r: a => a if 1 < plus(1)", "r: a => a if add(1, 1) == add(1, 1)", "r: num(N) => a if add(N, N) == a",
		// One guard that is not valid beside one that is.
		"r: num(N) => a if 0 < N & a < a", "r: num(N) => a if a < a & 0 < N",
	} {
		checkRuleText(t, s, text, false)
	}
}

func TestNamesOfRules(t *testing.T) {
	s, a := signature("e", "a : e"), operator("a")
	names := []string{"", "a", "z9", "abcdefgh", "abcdefghi", "A", "aB", "1a", "a ", " a", "a\n", "a\x00", "\xff", "a\xff", "\u00e9", "a:", strings.Repeat("a", 500)}
	for b := range 256 {
		names = append(names, string([]byte{byte(b)}), "a"+string([]byte{byte(b)}))
	}
	for _, name := range names {
		checkRule(t, s, impl.Rule{Name: name, Left: a, Right: a}, impl.IsName(name))
	}
}

func TestRulesWithTermsThatAreNotValid(t *testing.T) {
	s := ruleSignature()
	a := operator("a")
	for _, bad := range slices.Concat(invalidTerms(), []impl.Term{
		{Kind: 0, Name: "a"}, {Kind: 4, Name: "a"}, {Kind: -1, Name: "a"}, {Kind: math.MaxInt, Name: "a"}, {Kind: math.MinInt, Name: "a"}, {Kind: 1<<32 + 2, Name: "a"},
		{Kind: impl.TmApp, Name: "a", N: 1}, {Kind: impl.TmApp, Name: "a", N: -1}, {Kind: impl.TmApp, Name: "A"}, {Kind: impl.TmApp}, {Kind: impl.TmApp, Name: "abcdefghi"},
		{Kind: impl.TmVar, Name: "X", N: 1}, {Kind: impl.TmVar, Name: "x"}, {Kind: impl.TmVar}, {Kind: impl.TmVar, Name: "X", Args: []impl.Term{a}},
		word(-1), word(4), word(math.MaxInt), {Kind: impl.TmWord, Name: "a"}, {Kind: impl.TmWord, N: 1, Args: []impl.Term{a}},
		chain(17, a), operator("f", constants(60)...),
	}) {
		checkRule(t, s, impl.Rule{Name: "r", Left: bad, Right: a}, false)
		checkRule(t, s, impl.Rule{Name: "r", Left: bad, Right: bad}, false)
		checkRule(t, s, impl.Rule{Name: "r", Left: a, Right: bad}, false)
		for _, place := range []impl.Term{operator("add", bad, a), operator("add", a, bad), operator("num", bad), operator("f", operator("add", a, bad))} {
			checkRule(t, s, impl.Rule{Name: "r", Left: place, Right: a}, false)
			checkRule(t, s, impl.Rule{Name: "r", Left: operator("add", variable("X"), variable("Y")), Right: place}, false)
		}
		for _, kind := range guardKinds {
			for _, g := range []impl.Guard{{Kind: kind, Left: bad, Right: a}, {Kind: kind, Left: a, Right: bad}, {Kind: kind, Left: bad, Right: bad}, {Kind: kind, Left: word(1), Right: bad}, {Kind: kind, Left: operator("size", bad), Right: word(1)}} {
				checkRule(t, s, impl.Rule{Name: "r", Left: a, Right: a, Guards: []impl.Guard{g}}, false)
				checkRule(t, s, impl.Rule{Name: "r", Left: a, Right: a, Guards: []impl.Guard{{Kind: impl.GuEqual, Left: a, Right: a}, g}}, false)
			}
		}
		checkDefinition(t, impl.Definition{Signature: s, Rules: []impl.Rule{{Name: "r", Left: a, Right: a}, {Name: "q", Left: a, Right: bad}}}, false)
	}
}

// TestRulesWithSortedTermsThatAreNotValid uses nodes to which SortOf gives a sort although they are not valid: the validity of terms is not left to their sorts.
func TestRulesWithSortedTermsThatAreNotValid(t *testing.T) {
	s := ruleSignature()
	x := variable("X")
	for _, c := range []struct {
		bad  impl.Term
		sort string
	}{
		{word(4), "word"}, {word(-1), "word"}, {impl.Term{Kind: impl.TmWord, N: 1, Name: "a"}, "word"}, {impl.Term{Kind: impl.TmWord, Args: []impl.Term{x}}, "word"},
		{impl.Term{Kind: impl.TmApp, Name: "a", N: 1}, "e"}, {impl.Term{Kind: impl.TmVar, Name: "X", N: 1}, "e"}, {impl.Term{Kind: impl.TmVar, Name: "X", Args: []impl.Term{operator("a")}}, "e"},
	} {
		if got := impl.SortOf(s, c.bad, varSorts("X:e")); got != c.sort {
			t.Fatalf("SortOf(%v) = %q", c.bad, got)
		}
		whole := operator("f", c.bad)
		if c.sort == "word" {
			whole = operator("f", operator("num", c.bad))
		}
		checkRule(t, s, impl.Rule{Name: "r", Left: operator("f", x), Right: whole}, false)
		checkRule(t, s, impl.Rule{Name: "r", Left: whole, Right: operator("b")}, false)
		for _, kind := range guardKinds {
			for _, g := range []impl.Guard{{Kind: kind, Left: c.bad, Right: c.bad}, {Kind: kind, Left: whole, Right: whole}} {
				checkRule(t, s, impl.Rule{Name: "r", Left: operator("f", x), Right: operator("b"), Guards: []impl.Guard{g}}, false)
			}
		}
	}
	// Names of operators that only a signature that is not valid declares.
	loose := signature("e", "F e : e", "_ : e", "f e : e", "abcdefghi : e")
	for _, name := range []string{"F", "", "abcdefghi"} {
		bad := operator(name)
		if name == "F" {
			bad = operator(name, x)
		}
		checkRule(t, loose, impl.Rule{Name: "r", Left: bad, Right: bad}, false)
		checkRule(t, loose, impl.Rule{Name: "r", Left: operator("f", x), Right: bad}, false)
		checkRule(t, loose, impl.Rule{Name: "r", Left: operator("f", bad), Right: operator("f", x)}, false)
	}
}

func TestKindsOfGuardsInRules(t *testing.T) {
	s := ruleSignature()
	sides := map[string][2]string{"word": {"N", "plus(N, 1)"}, "e": {"X", "add(X, a)"}, "d": {"B", "f(X)"}}
	for sort, texts := range sides {
		left, right := must(t, texts[0]), must(t, texts[1])
		for _, kind := range append(slices.Clone(guardKinds), strangeKinds...) {
			want := kind == impl.GuEqual || kind == impl.GuDifferent || kind == impl.GuLess && sort == "word"
			g := impl.Guard{Kind: kind, Left: left, Right: right}
			valid := impl.Guard{Kind: impl.GuEqual, Left: right, Right: left}
			for _, guards := range [][]impl.Guard{{g}, {g, g}, {g, valid}, {valid, g}} {
				r := ruleIn(t, "r: k(N, X, B) => X")
				r.Guards = guards
				checkRule(t, s, r, want)
			}
		}
	}
}

func TestNumberOfGuards(t *testing.T) {
	s := ruleSignature()
	for n := range 40 {
		r := ruleIn(t, "r: k(N, X, B) => X")
		r.Guards = slices.Repeat([]impl.Guard{{Kind: impl.GuLess, Left: word(0), Right: variable("N")}}, n)
		checkRule(t, s, r, n <= 2)
	}
	// Guards in unused capacity are none.
	r := ruleIn(t, "r: num(N) => a if 0 < N & N < 3 & a < a")
	r.Guards = r.Guards[:2]
	checkRule(t, s, r, true)
	for _, guards := range [][]impl.Guard{nil, {}, r.Guards[:0]} {
		r.Guards = guards
		checkRule(t, s, r, true)
	}
}

// broadTerm returns a term of n nodes, from 40 to 67, and of the depth 4 or 5: three arguments at each level, and more below the last ones.
func broadTerm(n int) impl.Term {
	var level []impl.Term
	for i := range 27 {
		leaf := operator("a")
		if i < n-40 {
			leaf = operator("f", leaf)
		}
		level = append(level, leaf)
	}
	for len(level) > 1 {
		var above []impl.Term
		for args := range slices.Chunk(level, 3) {
			above = append(above, operator("k", args...))
		}
		level = above
	}
	return level[0]
}

// TestRulesAtTheLimitsOfTerms: each term of a rule is limited by itself.
func TestRulesAtTheLimitsOfTerms(t *testing.T) {
	s := signature("e", "f e : e", "k e e e : e", "a : e")
	a := operator("a")
	for _, c := range []struct {
		term impl.Term
		want bool
	}{
		{chain(16, a), true}, {chain(17, a), false}, {broadTerm(60), true}, {broadTerm(61), false}, {broadTerm(40), true}, {chain(12, broadTerm(49)), true}, {chain(13, broadTerm(49)), false}, {chain(12, broadTerm(50)), false},
	} {
		if impl.IsValidTerm(c.term) != c.want {
			t.Fatalf("IsValidTerm(%v) is not %v", c.term, c.want)
		}
		checkRule(t, s, impl.Rule{Name: "r", Left: c.term, Right: a}, c.want)
		checkRule(t, s, impl.Rule{Name: "r", Left: a, Right: c.term}, c.want)
		checkRule(t, s, impl.Rule{Name: "r", Left: c.term, Right: c.term, Guards: []impl.Guard{{Kind: impl.GuEqual, Left: c.term, Right: c.term}, {Kind: impl.GuDifferent, Left: c.term, Right: c.term}}}, c.want)
		checkRule(t, s, impl.Rule{Name: "r", Left: a, Right: a, Guards: []impl.Guard{{Kind: impl.GuEqual, Left: c.term, Right: a}}}, c.want)
		checkRule(t, s, impl.Rule{Name: "r", Left: a, Right: a, Guards: []impl.Guard{{Kind: impl.GuDifferent, Left: a, Right: c.term}}}, c.want)
	}
}

// TestRulesWithNilAndEmptyArgs: a constant, a variable and a word may have a list of arguments, as long as it is empty.
func TestRulesWithNilAndEmptyArgs(t *testing.T) {
	s := ruleSignature()
	for _, args := range [][]impl.Term{nil, {}, []impl.Term{word(1)}[:0]} {
		a, n, three := impl.Term{Kind: impl.TmApp, Name: "a", Args: args}, impl.Term{Kind: impl.TmVar, Name: "N", Args: args}, impl.Term{Kind: impl.TmWord, N: 3, Args: args}
		checkRule(t, s, impl.Rule{Name: "r", Left: a, Right: a}, true)
		checkRule(t, s, impl.Rule{Name: "r", Left: operator("num", n), Right: operator("num", three), Guards: []impl.Guard{{Kind: impl.GuLess, Left: n, Right: three}, {Kind: impl.GuEqual, Left: a, Right: a}}}, true)
		checkRule(t, s, impl.Rule{Name: "r", Left: impl.Term{Kind: impl.TmApp, Name: "num", Args: args}, Right: a}, false)
		checkRule(t, s, impl.Rule{Name: "r", Left: a, Right: impl.Term{Kind: impl.TmApp, Name: "num", Args: args}}, false)
	}
	// An argument in unused capacity is none.
	checkRule(t, s, impl.Rule{Name: "r", Left: operator("num", []impl.Term{variable("N"), word(1)}[:1]...), Right: operator("a", []impl.Term{word(1)}[:0]...)}, true)
}

// TestRulesInSignaturesThatAreNotValid: a rule may be valid all the same, as the sorts are found by the first operator with a name.
func TestRulesInSignaturesThatAreNotValid(t *testing.T) {
	double := signature("e d", "a : e", "f e : d", "f d d : e", "a word : d", "b : d", "g other : nosort", "c : other", "h _ : e", "i e : _", "j : _")
	plus := signature("e", "plus e e : e", "times : e", "a : e", "f e : e", "f word : word")
	// Operators with the names that a variable and a word have: neither is an application of them.
	unnamed := signature("e", "X : e", "_ : word", "a : e")
	for _, c := range []struct {
		s    impl.Signature
		text string
		want bool
	}{
		{unnamed, "r: X => X", false},
		{unnamed, "r: X => a", false},
		{unnamed, "r: 1 => 1", false},
		{unnamed, "r: a => a", true},
		{double, "r: a => a", true},
		{double, "r: f(X) => b", true},
		{double, "r: f(X) => f(a)", true},
		{double, "r: f(X, Y) => a", false},
		{double, "r: a(N) => b", false},
		{double, "r: a => b", false},
		// Sorts that are not declared are sorts, but "" is none.
		{double, "r: g(X) => g(X)", true},
		{double, "r: g(X) => g(c) if X == c", true},
		{double, "r: g(X) => c", false},
		{double, "r: g(X) => g(X) if X < c", false},
		{double, "r: h(X) => a", false},
		{double, "r: h(j) => a", false},
		{double, "r: i(X) => i(X)", false},
		{double, "r: j => j", false},
		{double, "r: a => h(a)", false},
		{double, "r: a => a if j == j", false},
		{double, "r: a => a if i(a) == i(a)", false},
		{double, "r: a => a if h(a) == a", false},
		// What is built-in cannot be declared.
		{plus, "r: plus(X, Y) => X", false},
		{plus, "r: times => a", false},
		{plus, "r: a => times", false},
		{plus, "r: a => plus(a, a)", false},
		{plus, "r: f(plus(X, Y)) => X", false},
		{plus, "r: f(X) => f(plus(X, X))", false},
		{plus, "r: f(X) => a if plus(1, 2) < 3", true},
		{plus, "r: f(X) => a if plus(X, X) == X", false},
		{impl.Signature{}, "r: a => a", false},
		{impl.Signature{}, "r: plus(N, M) => N", false},
	} {
		checkRuleText(t, c.s, c.text, c.want)
		if r := ruleIn(t, c.text); plainIsRule(c.s, r) != c.want {
			t.Errorf("plainIsRule(%v, %v) is not %v", c.s, r, c.want)
		}
	}
}

// ruleSides returns sides of rules and guards with few variables, so that many of them belong to each other.
func ruleSides(t *testing.T) []impl.Term {
	var all []impl.Term
	for _, s := range []string{
		"X", "Y", "N", "0", "3", "a", "b", "zero", "nope", "num(N)", "num(X)", "num(2)", "add(X, Y)", "add(X, X)", "add(Y, a)", "add(N, X)", "f(X)", "f(Y)", "f(num(N))", "k(N, X, Y)", "k(N, X, f(X))", "k(1, a, b)", "size(X)", "size(num(N))",
		"plus(N, 1)", "plus(N, X)", "times(N, N)", "num(plus(N, 1))", "add(num(minus(N, 1)), X)", "size(num(plus(1, 1)))", "plus(size(X), N)", "add(X)", "a(N)", "f(b)",
	} {
		all = append(all, must(t, s))
	}
	return append(all, impl.Term{}, word(4), impl.Term{Kind: impl.TmApp, Name: "a", N: 1}, impl.Term{Kind: impl.TmVar, Name: "X", Args: []impl.Term{word(1)}})
}

// ruleGuards returns lists of up to three guards.
func ruleGuards(t *testing.T) [][]impl.Guard {
	var single []impl.Guard
	for _, s := range []string{"0 < N", "N == M", "X != Y", "X < Y", "N == X", "num(N) == X", "size(X) < N", "f(X) == b", "a == b", "nope == nope", "1 < 2"} {
		single = append(single, mustGuard(t, s))
	}
	single = append(single, impl.Guard{Kind: 4, Left: word(1), Right: word(1)}, impl.Guard{}, impl.Guard{Kind: impl.GuEqual, Left: word(4), Right: word(4)})
	lists := [][]impl.Guard{nil, {single[0], single[0], single[0]}}
	for i, g := range single {
		lists = append(lists, []impl.Guard{g}, []impl.Guard{g, single[(i+6)%len(single)]})
	}
	return lists
}

func TestRulesAsTheDocumentSays(t *testing.T) {
	sides, guards := ruleSides(t), ruleGuards(t)
	signatures := append(looseSignatures(), ruleSignature(), expressions(), signature("e", "num word : e", "add e e : e", "k word e e : e", "f e : e", "size e : word", "a : e", "b : e"))
	valid := 0
	for _, s := range signatures {
		for _, left := range sides {
			for _, right := range sides {
				for _, list := range guards {
					r := impl.Rule{Name: "r", Left: left, Right: right, Guards: list}
					want := plainIsRule(s, r)
					if got := impl.IsValidRule(s, r); got != want {
						t.Fatalf("IsValidRule(%v, %v) = %v", s, r, got)
					}
					if want {
						valid++
					}
				}
			}
		}
	}
	if valid < 1000 {
		t.Errorf("only %d rules are valid", valid)
	}
}

// rulePool returns rules of loopLanguage's signature, the first ones valid and with different names.
func rulePool(t *testing.T) (all []impl.Rule, validCount int) {
	for _, text := range []string{
		"turn: loop(N, M) => loop(minus(N, 1), plus(M, 1)) if 0 < N", "end: loop(0, M) => done(M)", "open: wrap(done(N)) => done(plus(N, 1))", "in: wrap(X) => X if X == done(0)",
		"new: done(N) => done(M)", "other: done(N) => N", "Bad: done(N) => done(N)", "guard: wrap(X) => X if X < X", "op: nope => nope", "var: X => X", "plus: plus(N, M) => N",
	} {
		all = append(all, ruleIn(t, text))
	}
	return all, 4
}

// TestAllRulesOfAValidDefinitionAreValid is promise 10.
func TestAllRulesOfAValidDefinitionAreValid(t *testing.T) {
	pool, validCount := rulePool(t)
	s := loopLanguage(t).Signature
	valid := 0
	for _, indices := range listsOfIndices(len(pool), 3) {
		d := impl.Definition{Signature: s}
		want := true
		for i, k := range indices {
			d.Rules = append(d.Rules, pool[k])
			want = want && k < validCount && slices.Index(indices, k) == i
		}
		checkDefinition(t, d, want)
		if want {
			valid++
		}
	}
	if valid != 1+4+12+24 {
		t.Errorf("%d definitions are valid", valid)
	}
}

// listsOfIndices returns all lists of up to the stated length of numbers below n.
func listsOfIndices(n, length int) [][]int {
	all := [][]int{nil}
	for level := all; length > 0; length-- {
		var next [][]int
		for _, list := range level {
			for i := range n {
				next = append(next, slices.Concat(list, []int{i}))
			}
		}
		all, level = append(all, next...), next
	}
	return all
}

// manyRules returns valid rules of loopLanguage's signature with different names.
func manyRules(t *testing.T, n int) []impl.Rule {
	var rules []impl.Rule
	for i := range n {
		rules = append(rules, ruleIn(t, "r"+impl.FormatInt(i)+": done(N) => done(plus(N, "+impl.FormatInt(i%4)+"))"))
	}
	return rules
}

func TestNumberOfRules(t *testing.T) {
	s := loopLanguage(t).Signature
	for n := range 40 {
		checkDefinition(t, impl.Definition{Signature: s, Rules: manyRules(t, n)}, n <= 16)
	}
	rules := manyRules(t, 17)
	// Rules in unused capacity are none.
	checkDefinition(t, impl.Definition{Signature: s, Rules: rules[:16]}, true)
	// The same rule twice, and two rules with one name, at any two places.
	for i := range 16 {
		for j := range i {
			twice := slices.Clone(rules[:16])
			twice[i] = twice[j]
			checkDefinition(t, impl.Definition{Signature: s, Rules: twice}, false)
			twice[i] = rules[i]
			twice[i].Name = rules[j].Name
			checkDefinition(t, impl.Definition{Signature: s, Rules: twice}, false)
		}
	}
	// Rules that differ only in their names.
	same := slices.Repeat(rules[:1], 16)
	for i := range same {
		same[i].Name = "q" + impl.FormatInt(i)
	}
	checkDefinition(t, impl.Definition{Signature: s, Rules: same}, true)
}

func TestOneRuleThatIsNotValid(t *testing.T) {
	pool, validCount := rulePool(t)
	s := loopLanguage(t).Signature
	rules := manyRules(t, 16)
	for _, bad := range pool[validCount:] {
		checkRule(t, s, bad, false)
		for i := range rules {
			changed := slices.Clone(rules)
			changed[i] = bad
			checkDefinition(t, impl.Definition{Signature: s, Rules: changed}, false)
			checkDefinition(t, impl.Definition{Signature: s, Rules: changed[i : i+1]}, false)
		}
	}
	zero := slices.Clone(rules)
	zero[7] = impl.Rule{}
	checkDefinition(t, impl.Definition{Signature: s, Rules: zero}, false)
}

func TestDefinitionsWithSignaturesThatAreNotValid(t *testing.T) {
	for _, s := range append(looseSignatures()[1:], signature("word"), signature("e e"), signature("", "plus word word : word"), signature("a b c d f"), signature("e", "a : nosort"), signature("E", "a : E")) {
		checkDefinition(t, impl.Definition{Signature: s}, false)
	}
	// With rules and elements of Strict that fit.
	for _, d := range exampleDefinitions(t) {
		d.Signature = cloneSignature(d.Signature)
		d.Signature.Sorts = append(d.Signature.Sorts, "word")
		checkDefinition(t, d, false)
		for _, r := range d.Rules {
			checkRule(t, d.Signature, r, true)
		}
		d.Signature.Sorts = []string{"v", "v"}
		checkDefinition(t, d, false)
	}
	d := loopLanguage(t)
	d.Signature.Ops = append(d.Signature.Ops, d.Signature.Ops[0])
	checkDefinition(t, d, false)
	d = loopLanguage(t)
	d.Signature.Sorts = nil
	checkDefinition(t, d, false)
}

// strictSignature has operators with no to three arguments.
func strictSignature() impl.Signature {
	return signature("e", "z : e", "u e : e", "v e e : e", "w word e word : word")
}

func TestStrictElements(t *testing.T) {
	arity := map[string]int{"z": 0, "u": 1, "v": 2, "w": 3}
	ops := []string{"z", "u", "v", "w", "", "nope", "e", "word", "plus", "minus", "times", "V", "vv", "v ", "\xff", strings.Repeat("v", 500)}
	args := []int{0, 1, 2, 3, 4, -1, -2, 1 << 32, 1<<32 + 1, -1 << 32, math.MinInt, math.MaxInt}
	for _, op := range ops {
		for _, arg := range args {
			count, isDeclared := arity[op]
			element := impl.Strict{Op: op, Arg: arg}
			want := isDeclared && 0 <= arg && arg < count
			checkDefinition(t, impl.Definition{Signature: strictSignature(), Strict: []impl.Strict{element}}, want)
			checkDefinition(t, impl.Definition{Signature: strictSignature(), Strict: []impl.Strict{{Op: "w", Arg: 1}, element}}, want && element != impl.Strict{Op: "w", Arg: 1})
			checkDefinition(t, impl.Definition{Signature: strictSignature(), Strict: []impl.Strict{element, {Op: "u", Arg: 0}}}, want && element != impl.Strict{Op: "u"})
			checkDefinition(t, impl.Definition{Strict: []impl.Strict{element}}, false)
		}
	}
	// In every order, also one that is not ascending.
	checkDefinition(t, definitionIn(t, strictSignature(), []string{"w 2", "v 1", "w 0", "u 0", "v 0", "w 1"}), true)
}

func TestNumberOfStrictElements(t *testing.T) {
	s := impl.Signature{Sorts: []string{"e"}}
	var list []impl.Strict
	for i := range 16 {
		op := impl.Op{Name: "f" + impl.FormatInt(i), Args: []string{"e", "word", "e"}, Result: "e"}
		s.Ops = append(s.Ops, op)
		list = append(list, impl.Strict{Op: op.Name, Arg: 2}, impl.Strict{Op: op.Name, Arg: 0}, impl.Strict{Op: op.Name, Arg: 1})
	}
	for n := range len(list) {
		// Elements in unused capacity are none.
		checkDefinition(t, impl.Definition{Signature: s, Strict: list[:n]}, n <= 8)
	}
	for i := range 8 {
		for j := range i {
			twice := slices.Clone(list[:8])
			twice[i] = twice[j]
			checkDefinition(t, impl.Definition{Signature: s, Strict: twice}, false)
			checkDefinition(t, impl.Definition{Signature: s, Strict: []impl.Strict{list[i], list[j]}}, true)
			checkDefinition(t, impl.Definition{Signature: s, Strict: []impl.Strict{list[i], list[j], list[i]}}, false)
		}
		checkDefinition(t, impl.Definition{Signature: s, Strict: []impl.Strict{list[i], list[i]}}, false)
		for _, bad := range []impl.Strict{{}, {Op: "f0", Arg: 3}, {Op: "f0", Arg: -1}, {Op: "nope"}, {Op: "plus"}} {
			changed := slices.Clone(list[:8])
			changed[i] = bad
			checkDefinition(t, impl.Definition{Signature: s, Strict: changed}, false)
		}
	}
}

func checkIndices(t *testing.T, what string, got, want []int) {
	t.Helper()
	if !slices.Equal(got, want) {
		t.Errorf("%s = %v, want %v", what, got, want)
	}
}

func checkRulesFor(t *testing.T, d impl.Definition, op string, want ...int) {
	t.Helper()
	checkIndices(t, "RulesFor "+op, impl.RulesFor(d, op), want)
}

func checkStrictArgs(t *testing.T, d impl.Definition, op string, want ...int) {
	t.Helper()
	checkIndices(t, "StrictArgs "+op, impl.StrictArgs(d, op), want)
}

func TestRulesFor(t *testing.T) {
	all := exampleDefinitions(t)
	checkRulesFor(t, all[0], "add", 0)
	checkRulesFor(t, all[0], "mul", 1)
	checkRulesFor(t, all[0], "ifz", 2, 3)
	checkRulesFor(t, all[1], "comp", 0, 1, 2)
	checkRulesFor(t, all[1], "run", 3, 4, 5)
	checkRulesFor(t, all[2], "loop", 0, 1)
	checkRulesFor(t, all[2], "wrap", 2)
	for _, d := range all {
		for _, op := range []string{"num", "halt", "done", "nope", "", "plus", "word", "e", "r", "Add", "X", "add ", "ad", "add0", "\xff", strings.Repeat("a", 1000)} {
			checkRulesFor(t, d, op)
		}
	}
	mixed := definitionIn(t, ruleSignature(), nil, "r1: a => a", "r2: num(N) => a", "r3: a => num(1)", "r4: b => b", "r5: num(0) => a", "r6: a => a if 0 < 1")
	checkRulesFor(t, mixed, "a", 0, 2, 5)
	checkRulesFor(t, mixed, "num", 1, 4)
	checkRulesFor(t, mixed, "b", 3)
	checkRulesFor(t, mixed, "f")
}

func TestRulesForInDefinitionsThatAreNotValid(t *testing.T) {
	a := operator("a")
	d := impl.Definition{Rules: []impl.Rule{
		{Left: impl.Term{Kind: impl.TmVar, Name: "a"}, Right: a},
		{Left: impl.Term{Kind: impl.TmWord, Name: "a"}, Right: a},
		{Name: "a", Left: operator("b", a), Right: a, Guards: []impl.Guard{{Left: a, Right: a}}},
		{Left: a},
		{Left: impl.Term{Name: "a"}},
		{Left: impl.Term{Kind: 4, Name: "a", Args: []impl.Term{a}}},
		{Left: impl.Term{Kind: impl.TmApp, Name: "a", N: 5}},
		{Left: operator("a", constants(100)...)},
		{Left: operator("plus", word(1), word(2))},
		{Left: operator("")},
		{},
		{Left: impl.Term{Kind: impl.TmVar}},
		{Left: operator("X")},
		{Left: variable("X")},
		{Left: operator("a", impl.Term{}, word(9))},
	}}
	checkRulesFor(t, d, "a", 3, 6, 7, 14)
	checkRulesFor(t, d, "b", 2)
	checkRulesFor(t, d, "plus", 8)
	checkRulesFor(t, d, "", 9)
	checkRulesFor(t, d, "X", 12)
	checkRulesFor(t, d, "c0")
	// Rules in unused capacity are none.
	d.Rules = d.Rules[:7]
	checkRulesFor(t, d, "a", 3, 6)
	for n := range 40 {
		many := impl.Definition{Rules: slices.Repeat([]impl.Rule{{Left: a}, {Left: operator("b")}}, n)}
		var even, odd []int
		for i := range n {
			even, odd = append(even, 2*i), append(odd, 2*i+1)
		}
		checkRulesFor(t, many, "a", even...)
		checkRulesFor(t, many, "b", odd...)
	}
}

func TestStrictArgs(t *testing.T) {
	all := exampleDefinitions(t)
	checkStrictArgs(t, all[0], "add", 0, 1)
	checkStrictArgs(t, all[0], "mul", 0, 1)
	checkStrictArgs(t, all[0], "ifz", 0)
	checkStrictArgs(t, all[1], "comp", 1)
	checkStrictArgs(t, all[1], "run", 0)
	for _, d := range all {
		for _, op := range []string{"num", "halt", "done", "nope", "", "plus", "word", "e", "Add", "add ", "\xff"} {
			checkStrictArgs(t, d, op)
		}
	}
	// In the order of Strict, also between elements of other operators.
	checkStrictArgs(t, definitionIn(t, strictSignature(), []string{"w 2", "v 1", "w 0", "u 0", "v 0", "w 1"}), "w", 2, 0, 1)
	checkStrictArgs(t, definitionIn(t, strictSignature(), []string{"w 2", "v 1", "w 0", "u 0", "v 0", "w 1"}), "v", 1, 0)
	// In definitions that are not valid, every element is listed as it is.
	d := impl.Definition{Strict: []impl.Strict{{Op: "nope", Arg: -1}, {Op: "plus", Arg: 7}, {Op: "nope", Arg: -1}, {Arg: 3}, {Op: "nope", Arg: math.MaxInt}, {}, {Op: "nope", Arg: math.MinInt}, {Op: "\xff", Arg: 1}}}
	checkStrictArgs(t, d, "nope", -1, -1, math.MaxInt, math.MinInt)
	checkStrictArgs(t, d, "plus", 7)
	checkStrictArgs(t, d, "", 3, 0)
	checkStrictArgs(t, d, "\xff", 1)
	checkStrictArgs(t, d, "nop")
	d.Strict = d.Strict[:3]
	checkStrictArgs(t, d, "nope", -1, -1)
}

func checkConfig(t *testing.T, d impl.Definition, term impl.Term, want bool) {
	t.Helper()
	if got := impl.IsConfig(d, term); got != want {
		t.Errorf("IsConfig(%v, %v) = %v", d, term, got)
	}
	if plainIsConfig(d, term) != want {
		t.Errorf("plainIsConfig(%v, %v) is not %v", d, term, want)
	}
}

func TestIsConfig(t *testing.T) {
	d := loopLanguage(t)
	for _, s := range []string{"0", "3", "plus(1, 2)", "times(minus(0, 1), plus(3, 3))", "done(0)", "done(plus(1, 1))", "loop(1, 2)", "wrap(loop(1, 2))", "wrap(wrap(wrap(done(times(2, 2)))))"} {
		checkConfig(t, d, must(t, s), true)
	}
	for _, s := range []string{
		// Without a sort.
		"nope", "done", "done(a)", "done(1, 2)", "loop(1)", "wrap(1)", "wrap(plus(1, 2))", "done(done(1))", "plus(1)", "plus(1, done(1))", "wrap(wrap(done(nope)))", "c", "word",
		// With a variable at any depth, also where its sort is demanded.
		"X", "N", "done(N)", "loop(0, N)", "loop(N, 0)", "wrap(X)", "wrap(done(N))", "done(plus(1, N))", "plus(X, 1)", "wrap(wrap(wrap(loop(1, times(2, minus(N, 1))))))",
	} {
		checkConfig(t, d, must(t, s), false)
	}
	checkConfig(t, d, chain(15, word(1)), false)
	deep := must(t, "done(1)")
	for range 14 {
		deep = operator("wrap", deep)
	}
	checkConfig(t, d, deep, true)
	checkConfig(t, d, operator("wrap", deep), false)
	// In the empty definition there are only words.
	checkConfig(t, impl.Definition{}, word(2), true)
	checkConfig(t, impl.Definition{}, must(t, "plus(1, 2)"), true)
	checkConfig(t, impl.Definition{}, must(t, "done(1)"), false)
}

func TestConfigsOfTermsThatAreNotValid(t *testing.T) {
	d := definitionIn(t, ruleSignature(), nil, "r: a => a")
	for _, bad := range slices.Concat(invalidTerms(), []impl.Term{
		{}, word(4), word(-1), {Kind: impl.TmWord, N: 1, Name: "a"}, {Kind: impl.TmWord, Args: []impl.Term{word(1)}}, {Kind: impl.TmApp, Name: "a", N: 1}, {Kind: 0, Name: "a"}, {Kind: 4, Name: "a"}, {Kind: impl.TmApp}, operator("F"),
		{Kind: impl.TmVar, Name: "a"}, {Kind: impl.TmVar, Name: "X", N: 1}, {Kind: impl.TmWord, N: 1, Args: []impl.Term{variable("X")}},
	}) {
		for _, whole := range []impl.Term{bad, operator("num", bad), operator("add", operator("a"), bad), operator("f", operator("add", bad, operator("a"))), operator("plus", bad, word(1))} {
			checkConfig(t, d, whole, false)
		}
	}
	for _, args := range [][]impl.Term{nil, {}, []impl.Term{variable("X")}[:0]} {
		checkConfig(t, d, impl.Term{Kind: impl.TmApp, Name: "a", Args: args}, true)
		checkConfig(t, d, operator("num", impl.Term{Kind: impl.TmWord, N: 2, Args: args}), true)
		checkConfig(t, d, impl.Term{Kind: impl.TmApp, Name: "num", Args: args}, false)
	}
	// The arguments in unused capacity, a variable among them, are none.
	checkConfig(t, d, operator("num", []impl.Term{word(1), variable("X")}[:1]...), true)
	s := signature("e", "k e e e : e", "f e : e", "a : e")
	checkConfig(t, impl.Definition{Signature: s}, broadTerm(60), true)
	checkConfig(t, impl.Definition{Signature: s}, broadTerm(61), false)
	checkConfig(t, impl.Definition{Signature: s}, chain(16, operator("a")), true)
	checkConfig(t, impl.Definition{Signature: s}, chain(17, operator("a")), false)
}

func TestConfigsOfDefinitionsThatAreNotValid(t *testing.T) {
	term := must(t, "wrap(loop(1, 2))")
	checkConfig(t, loopLanguage(t), term, true)
	for _, change := range []func(*impl.Definition){
		func(d *impl.Definition) { d.Signature.Sorts = append(d.Signature.Sorts, "word") },
		func(d *impl.Definition) { d.Signature.Ops = append(d.Signature.Ops, d.Signature.Ops[0]) },
		func(d *impl.Definition) { d.Rules = append(d.Rules, d.Rules[0]) },
		func(d *impl.Definition) { d.Rules = manyRules(t, 17) },
		func(d *impl.Definition) { d.Rules = append(d.Rules, impl.Rule{}) },
		func(d *impl.Definition) { d.Rules[2].Right = variable("X") },
		func(d *impl.Definition) { d.Strict = append(d.Strict, d.Strict[0]) },
		func(d *impl.Definition) { d.Strict[0].Arg = 1 },
		func(d *impl.Definition) { d.Strict[0].Op = "plus" },
		func(d *impl.Definition) { d.Strict[0].Arg = -1 },
	} {
		d := loopLanguage(t)
		change(&d)
		checkDefinition(t, d, false)
		checkConfig(t, d, term, false)
		checkConfig(t, d, word(1), false)
	}
}

func checkEqualDefinitions(t *testing.T, a, b impl.Definition, want bool) {
	t.Helper()
	if impl.EqualDefinition(a, b) != want || impl.EqualDefinition(b, a) != want {
		t.Errorf("EqualDefinition(%v, %v) is not %v", a, b, want)
	}
}

// equalityBase has at least two elements in each list.
func equalityBase(t *testing.T) impl.Definition {
	return definitionIn(t, signature("e d", "f e d : e", "g d : d", "a : e"), []string{"f 0", "f 1"},
		"r: f(X, Y) => f(X, g(Y)) if X != f(X, Y) & X == X", "q: a => f(a, B) if 0 < 1", "p: f(X, g(Y)) => X")
}

func TestEqualDefinitionByFields(t *testing.T) {
	base := equalityBase(t)
	checkEqualDefinitions(t, base, base, true)
	checkEqualDefinitions(t, base, equalityBase(t), true)
	checkEqualDefinitions(t, base, impl.Definition{}, false)
	for i, change := range []func(*impl.Definition){
		func(d *impl.Definition) { d.Signature = impl.Signature{} },
		func(d *impl.Definition) { d.Rules = nil },
		func(d *impl.Definition) { d.Strict = nil },
		func(d *impl.Definition) { d.Signature.Sorts = nil },
		func(d *impl.Definition) { d.Signature.Sorts[0] = "x" },
		func(d *impl.Definition) { d.Signature.Sorts[1] = "" },
		func(d *impl.Definition) { d.Signature.Sorts = d.Signature.Sorts[:1] },
		func(d *impl.Definition) { d.Signature.Sorts = append(d.Signature.Sorts, "") },
		func(d *impl.Definition) { slices.Reverse(d.Signature.Sorts) },
		func(d *impl.Definition) { d.Signature.Ops = nil },
		func(d *impl.Definition) { d.Signature.Ops = d.Signature.Ops[:2] },
		func(d *impl.Definition) { d.Signature.Ops = append(d.Signature.Ops, impl.Op{}) },
		func(d *impl.Definition) { slices.Reverse(d.Signature.Ops) },
		func(d *impl.Definition) { d.Signature.Ops[0].Name = "h" },
		func(d *impl.Definition) { d.Signature.Ops[2].Name = "b" },
		func(d *impl.Definition) { d.Signature.Ops[1].Result = "e" },
		func(d *impl.Definition) { d.Signature.Ops[1].Args[0] = "e" },
		func(d *impl.Definition) { d.Signature.Ops[0].Args[1] = "e" },
		func(d *impl.Definition) { d.Signature.Ops[0].Args = nil },
		func(d *impl.Definition) { slices.Reverse(d.Signature.Ops[0].Args) },
		func(d *impl.Definition) { d.Signature.Ops[2].Args = []string{""} },
		func(d *impl.Definition) { d.Signature.Ops[1].Args = append(d.Signature.Ops[1].Args, "d") },
		func(d *impl.Definition) { d.Strict[0].Op = "g" },
		func(d *impl.Definition) { d.Strict[1].Arg = 2 },
		func(d *impl.Definition) { d.Strict[1].Arg = 1<<32 + 1 },
		func(d *impl.Definition) { d.Strict = d.Strict[:1] },
		func(d *impl.Definition) { d.Strict = append(d.Strict, impl.Strict{}) },
		func(d *impl.Definition) { slices.Reverse(d.Strict) },
		func(d *impl.Definition) { d.Rules = d.Rules[:2] },
		func(d *impl.Definition) { d.Rules = d.Rules[1:] },
		func(d *impl.Definition) { d.Rules = append(d.Rules, impl.Rule{}) },
		func(d *impl.Definition) { slices.Reverse(d.Rules) },
		func(d *impl.Definition) { d.Rules[0].Name = "s" },
		func(d *impl.Definition) { d.Rules[2].Name = "" },
		func(d *impl.Definition) { d.Rules[0].Left, d.Rules[0].Right = d.Rules[0].Right, d.Rules[0].Left },
		func(d *impl.Definition) { d.Rules[0].Guards = nil },
		func(d *impl.Definition) { d.Rules[0].Guards = d.Rules[0].Guards[:1] },
		func(d *impl.Definition) { d.Rules[0].Guards = append(d.Rules[0].Guards, impl.Guard{}) },
		func(d *impl.Definition) { slices.Reverse(d.Rules[0].Guards) },
		func(d *impl.Definition) { d.Rules[2].Guards = []impl.Guard{{}} },
		func(d *impl.Definition) { d.Rules[0].Guards[0].Kind = impl.GuEqual },
		func(d *impl.Definition) { d.Rules[1].Guards[0].Kind = 9 },
		func(d *impl.Definition) { d.Rules[1].Guards[0].Left.N = 1 },
		func(d *impl.Definition) { d.Rules[1].Guards[0].Right = impl.Term{} },
	} {
		changed := equalityBase(t)
		change(&changed)
		if sameDefinitions(base, changed) {
			t.Fatalf("change %d changes nothing", i)
		}
		checkEqualDefinitions(t, base, changed, false)
		again := equalityBase(t)
		change(&again)
		checkEqualDefinitions(t, changed, again, true)
	}
}

// ruleTerms returns the addresses of all terms of the rules of a definition.
func ruleTerms(d *impl.Definition) []*impl.Term {
	var all []*impl.Term
	for i := range d.Rules {
		r := &d.Rules[i]
		all = append(all, &r.Left, &r.Right)
		for j := range r.Guards {
			all = append(all, &r.Guards[j].Left, &r.Guards[j].Right)
		}
	}
	return all
}

// TestEqualDefinitionByTerms changes each term of each rule at each of its places.
func TestEqualDefinitionByTerms(t *testing.T) {
	base := equalityBase(t)
	places := len(ruleTerms(&base))
	if places != 12 {
		t.Fatalf("%d terms", places)
	}
	changes := 0
	for i := range places {
		for _, p := range positionsBelow(*ruleTerms(&base)[i]) {
			for _, u := range append(invalidNodes(), operator("a"), variable("X"), variable("Y"), word(0), operator("g", variable("Y"))) {
				changed := equalityBase(t)
				place := ruleTerms(&changed)[i]
				*place = withPart(*place, p, u)
				checkEqualDefinitions(t, base, changed, sameDefinitions(base, changed))
				changes++
			}
		}
	}
	if changes < 1000 {
		t.Errorf("only %d changes", changes)
	}
}

func TestEqualDefinitionWithNilAndEmptyLists(t *testing.T) {
	withLists := func(isEmpty bool) impl.Definition {
		d := impl.Definition{Signature: impl.Signature{Ops: []impl.Op{{Name: "a", Result: "e"}}}, Rules: []impl.Rule{{Name: "r", Left: operator("a")}}}
		if isEmpty {
			d.Signature.Sorts, d.Signature.Ops[0].Args = []string{}, []string{"e"}[:0]
			d.Rules[0].Left.Args, d.Rules[0].Right.Args = []impl.Term{}, []impl.Term{word(1)}[:0]
			d.Rules[0].Guards, d.Strict = []impl.Guard{{}}[:0], []impl.Strict{}
		}
		return d
	}
	checkEqualDefinitions(t, withLists(true), withLists(false), true)
	checkEqualDefinitions(t, impl.Definition{Signature: impl.Signature{Sorts: []string{}, Ops: []impl.Op{}}, Rules: []impl.Rule{}, Strict: []impl.Strict{}}, impl.Definition{}, true)
	// A list with the zero value is not empty.
	for _, d := range []impl.Definition{
		{Signature: impl.Signature{Sorts: []string{""}}}, {Signature: impl.Signature{Ops: []impl.Op{{}}}}, {Rules: []impl.Rule{{}}}, {Strict: []impl.Strict{{}}},
		{Rules: []impl.Rule{{Guards: []impl.Guard{{}}}}}, {Signature: impl.Signature{Ops: []impl.Op{{Args: []string{""}}}}}, {Rules: []impl.Rule{{Left: impl.Term{Args: []impl.Term{{}}}}}},
	} {
		checkEqualDefinitions(t, d, impl.Definition{}, false)
		checkEqualDefinitions(t, d, d, true)
	}
	// Unused capacity is not compared.
	checkEqualDefinitions(t, definitionWithSpare(equalityBase(t)), equalityBase(t), true)
}

// definitionWithSpare copies a definition so that each of its lists has unused capacity. What stands there would make it another one.
func definitionWithSpare(d impl.Definition) impl.Definition {
	spare := operator("spare", variable("Spare"))
	var rules []impl.Rule
	for _, r := range d.Rules {
		var guards []impl.Guard
		for _, g := range r.Guards {
			guards = append(guards, guardWithSpare(g))
		}
		guards = append(guards, impl.Guard{Left: spare}, impl.Guard{}, impl.Guard{})[:len(r.Guards)]
		rules = append(rules, impl.Rule{Name: r.Name, Left: termWithSpare(r.Left, spare), Right: termWithSpare(r.Right, spare), Guards: guards})
	}
	rules = append(rules, impl.Rule{Name: "spare", Left: operator("add")}, impl.Rule{Left: operator("loop")})
	strict := append(slices.Clone(d.Strict), impl.Strict{Op: "add", Arg: 7}, impl.Strict{Op: "loop", Arg: 7})
	return impl.Definition{Signature: signatureWithSpare(d.Signature), Rules: rules[:len(d.Rules)], Strict: strict[:len(d.Strict)]}
}

// cloneDefinition copies a definition with all of the memory of its lists, their unused capacity included.
func cloneDefinition(d impl.Definition) impl.Definition {
	rules := slices.Clone(d.Rules[:cap(d.Rules)])
	for i := range rules {
		r := &rules[i]
		r.Left, r.Right = deepClone(r.Left), deepClone(r.Right)
		guards := slices.Clone(r.Guards[:cap(r.Guards)])
		for j := range guards {
			guards[j].Left, guards[j].Right = deepClone(guards[j].Left), deepClone(guards[j].Right)
		}
		r.Guards = guards[:len(r.Guards)]
	}
	strict := slices.Clone(d.Strict[:cap(d.Strict)])
	return impl.Definition{Signature: cloneSignature(d.Signature), Rules: rules[:len(d.Rules)], Strict: strict[:len(d.Strict)]}
}

// sameDefinitionMemory compares with a copy, which may have more unused capacity.
func sameDefinitionMemory(kept, d impl.Definition) bool {
	sameGuards := func(a, b impl.Guard) bool {
		return a.Kind == b.Kind && sameMemory(a.Left, b.Left) && sameMemory(a.Right, b.Right)
	}
	sameRule := func(a, b impl.Rule) bool {
		return a.Name == b.Name && sameMemory(a.Left, b.Left) && sameMemory(a.Right, b.Right) && len(a.Guards) == len(b.Guards) &&
			slices.EqualFunc(a.Guards[:cap(b.Guards)], b.Guards[:cap(b.Guards)], sameGuards)
	}
	return sameSignatureMemory(d.Signature, kept.Signature) && len(kept.Rules) == len(d.Rules) && len(kept.Strict) == len(d.Strict) &&
		slices.EqualFunc(kept.Rules[:cap(d.Rules)], d.Rules[:cap(d.Rules)], sameRule) &&
		slices.Equal(kept.Strict[:cap(d.Strict)], d.Strict[:cap(d.Strict)])
}

// looseDefinitions returns definitions that are not valid beside those that are.
func looseDefinitions(t *testing.T) []impl.Definition {
	all := append(exampleDefinitions(t), equalityBase(t), definitionIn(t, signature("e e", "a : e"), []string{"a 0", "a 0", "nope -1"}, "r: a => X", "r: X => a if X < a"))
	pool, _ := rulePool(t)
	all = append(all, impl.Definition{Signature: loopLanguage(t).Signature, Rules: pool})
	for i, term := range append(invalidTerms(), sharedInside()...) {
		g := impl.Guard{Kind: i % 5, Left: term, Right: term}
		all = append(all, impl.Definition{Signature: ruleSignature(), Rules: []impl.Rule{{Name: "r", Left: operator("add", term, term), Right: term, Guards: []impl.Guard{g, g}}}})
	}
	return all
}

func TestDefinitionsAreNotChanged(t *testing.T) {
	for _, plain := range looseDefinitions(t) {
		d := definitionWithSpare(plain)
		kept := cloneDefinition(d)
		if impl.IsValidDefinition(d) != plainIsDefinition(plain) {
			t.Errorf("IsValidDefinition(%v) depends on unused capacity", plain)
		}
		for i, r := range d.Rules {
			if impl.IsValidRule(d.Signature, r) != plainIsRule(plain.Signature, plain.Rules[i]) {
				t.Errorf("IsValidRule(%v) depends on unused capacity", plain.Rules[i])
			}
		}
		for _, op := range []string{"add", "loop", "spare", "a", "comp"} {
			checkIndices(t, "RulesFor "+op, impl.RulesFor(d, op), impl.RulesFor(plain, op))
			checkIndices(t, "StrictArgs "+op, impl.StrictArgs(d, op), impl.StrictArgs(plain, op))
		}
		for _, s := range []string{"wrap(loop(1, 2))", "add(num(1), num(2))", "a", "X", "plus(1, 1)", "run(halt, nil)"} {
			whole := termWithSpare(must(t, s), variable("Spare"))
			keptTerm := deepClone(whole)
			if impl.IsConfig(d, whole) != plainIsConfig(plain, must(t, s)) {
				t.Errorf("IsConfig(%v, %s) depends on unused capacity", plain, s)
			}
			if !sameMemory(whole, keptTerm) {
				t.Errorf("%s was changed to %v", s, whole)
			}
		}
		checkEqualDefinitions(t, d, plain, true)
		if !sameDefinitionMemory(kept, d) {
			t.Errorf("%v was changed to %v", kept, d)
		}
	}
}

func TestResultsOfDefinitionsShareNoMemory(t *testing.T) {
	for _, plain := range append(looseDefinitions(t), definitionIn(t, strictSignature(), []string{"w 2", "v 1", "w 0", "v 0", "w 1"}, "r: w(N, X, M) => N", "q: w(0, X, 0) => 0", "p: v(X, Y) => X")) {
		d := definitionWithSpare(plain)
		kept := cloneDefinition(d)
		for _, op := range []string{"add", "loop", "w", "v", "comp", "ifz", "mul", "run", "nope"} {
			for name, list := range map[string]func(impl.Definition, string) []int{"RulesFor": impl.RulesFor, "StrictArgs": impl.StrictArgs} {
				want := slices.Clone(list(plain, op))
				first, second := list(d, op), list(d, op)
				_ = append(first, 99)
				for i := range first {
					first[i] = 99
				}
				checkIndices(t, name+" "+op, second, want)
				for i := range second {
					second[i] = 98
				}
				checkIndices(t, name+" "+op, list(d, op), want)
			}
		}
		if !sameDefinitionMemory(kept, d) {
			t.Errorf("writing to results changes %v to %v", kept, d)
		}
	}
}

// largeTerms returns terms beyond all limits. They are not printed: the stack of their test has no room for that.
func largeTerms() map[string]impl.Term {
	const size = 30000
	x := variable("X")
	// A term of 2^100 nodes, in which all parts of the same size lie in the same memory.
	shared := x
	for range 100 {
		shared = operator("k", shared, shared)
	}
	return map[string]impl.Term{
		"a chain": chain(size, x), "a chain without variables": chain(size, operator("a")), "a chain that ends with no kind": chain(size, impl.Term{}),
		"a wide term": operator("k", slices.Repeat([]impl.Term{x}, size)...), "a shared term": shared,
	}
}

func TestRulesOfLargeTerms(t *testing.T) {
	// A stack in which there is no room for a call for each level of a deep term.
	defer debug.SetMaxStack(debug.SetMaxStack(1 << 20))
	s := signature("e", "f e : e", "k e e : e", "a : e")
	x, a := variable("X"), operator("a")
	for what, large := range largeTerms() {
		for i, r := range []impl.Rule{
			{Name: "r", Left: large, Right: a},
			{Name: "r", Left: operator("f", x), Right: large},
			{Name: "r", Left: large, Right: large},
			{Name: "r", Left: operator("f", x), Right: x, Guards: []impl.Guard{{Kind: impl.GuEqual, Left: large, Right: x}}},
			{Name: "r", Left: operator("f", x), Right: x, Guards: []impl.Guard{{Kind: impl.GuEqual, Left: x, Right: x}, {Kind: impl.GuDifferent, Left: x, Right: large}}},
		} {
			d := impl.Definition{Signature: s, Rules: []impl.Rule{{Name: "q", Left: a, Right: a}, r}}
			if impl.IsValidRule(s, r) || impl.IsValidDefinition(d) || impl.IsConfig(d, a) {
				t.Errorf("%s is accepted in rule %d", what, i)
			}
		}
		d := impl.Definition{Signature: s, Rules: []impl.Rule{{Left: large}}}
		if got := impl.RulesFor(d, large.Name); !slices.Equal(got, []int{0}) {
			t.Errorf("RulesFor with %s = %v", what, got)
		}
		if impl.IsConfig(impl.Definition{Signature: s}, large) {
			t.Errorf("%s is a configuration", what)
		}
		if what == "a shared term" {
			continue
		}
		// Rules that differ only in the last term, or by a single node at the top of the first one.
		other := impl.Definition{Signature: s, Rules: []impl.Rule{{Left: large, Guards: []impl.Guard{{Right: x}}}}}
		guarded := impl.Definition{Signature: s, Rules: []impl.Rule{{Left: large, Guards: []impl.Guard{{Right: a}}}}}
		if !impl.EqualDefinition(d, d) || impl.EqualDefinition(d, other) || impl.EqualDefinition(other, guarded) || !impl.EqualDefinition(guarded, guarded) {
			t.Errorf("EqualDefinition with %s", what)
		}
		if impl.EqualDefinition(d, impl.Definition{Signature: s, Rules: []impl.Rule{{Left: operator("f", large)}}}) {
			t.Errorf("%s is equal to a larger term", what)
		}
	}
}

func TestDefinitionsBeyondAllLimits(t *testing.T) {
	const size = 100000
	valid := loopLanguage(t)
	rules, strict := manyRules(t, 1), []impl.Strict{{Op: "wrap"}}
	guarded := ruleIn(t, "r: done(N) => done(N) if 0 < N")
	guarded.Guards = slices.Repeat(guarded.Guards, size)
	var signatureOps impl.Signature
	for i := range size {
		signatureOps.Sorts = append(signatureOps.Sorts, "s"+impl.FormatInt(i))
		signatureOps.Ops = append(signatureOps.Ops, impl.Op{Name: "f" + impl.FormatInt(i), Args: signatureOps.Sorts[:1], Result: "s0"})
	}
	last := signatureOps.Ops[size-1].Name
	if impl.IsValidRule(valid.Signature, guarded) {
		t.Error("a rule of many guards is valid")
	}
	if !impl.IsValidRule(signatureOps, impl.Rule{Name: "r", Left: operator(last, variable("X")), Right: variable("X")}) {
		t.Error("a rule in a large signature is not valid")
	}
	wideOp := impl.Signature{Ops: []impl.Op{{Name: "f", Args: slices.Repeat([]string{"word"}, size), Result: "word"}}}
	if impl.IsValidRule(wideOp, impl.Rule{Name: "r", Left: operator("f", word(1)), Right: word(1)}) {
		t.Error("a rule with an argument of many is valid")
	}
	for what, d := range map[string]impl.Definition{
		"many rules":   {Signature: valid.Signature, Rules: slices.Repeat(rules, size)},
		"many strict":  {Signature: valid.Signature, Strict: slices.Repeat(strict, size)},
		"many sorts":   {Signature: signatureOps},
		"a long name":  {Signature: valid.Signature, Rules: []impl.Rule{{Name: strings.Repeat("r", size), Left: rules[0].Left, Right: rules[0].Right}}},
		"many guards":  {Signature: valid.Signature, Rules: []impl.Rule{guarded}},
		"a wide op":    {Signature: wideOp},
		"a long op":    {Signature: valid.Signature, Strict: []impl.Strict{{Op: strings.Repeat("wrap", size)}}},
		"many of both": {Signature: valid.Signature, Rules: slices.Repeat(rules, size), Strict: slices.Repeat(strict, size)},
	} {
		if impl.IsValidDefinition(d) || impl.IsConfig(d, word(1)) {
			t.Errorf("a definition with %s is valid", what)
		}
		if !impl.EqualDefinition(d, d) || impl.EqualDefinition(d, valid) {
			t.Errorf("a definition with %s is not equal to itself, or to another one", what)
		}
		if got := impl.RulesFor(d, "done"); len(d.Rules) == size && (len(got) != size || got[size-1] != size-1) {
			t.Errorf("%d rules in a definition with %s", len(got), what)
		}
		if got := impl.StrictArgs(d, "wrap"); len(d.Strict) == size && len(got) != size {
			t.Errorf("%d strict arguments in a definition with %s", len(got), what)
		}
	}
}
