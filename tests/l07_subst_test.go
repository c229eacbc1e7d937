package tests

import (
	"math"
	"runtime/debug"
	"slices"
	"strings"
	"testing"

	"loop.example/g00517/impl"
)

// binds writes a substitution as "X := f(Y, 1); Y := 2". The empty text is the empty substitution.
func binds(t *testing.T, text string) []impl.Bind {
	t.Helper()
	var list []impl.Bind
	for part := range strings.SplitSeq(text, "; ") {
		if name, term, ok := strings.Cut(part, " := "); ok {
			list = append(list, impl.Bind{Name: name, Term: must(t, term)})
		}
	}
	return list
}

func sameBinds(a, b []impl.Bind) bool {
	return slices.EqualFunc(a, b, func(a, b impl.Bind) bool { return a.Name == b.Name && equalTerms(a.Term, b.Term) })
}

// plainFind, plainImage, plainApply, plainCompose, plainRestrict, plainSame and plainRename do what the document says, without the program.
func plainFind(list []impl.Bind, name string) (impl.Term, bool) {
	for _, bind := range list {
		if bind.Name == name {
			return bind.Term, true
		}
	}
	return impl.Term{}, false
}

func plainImage(list []impl.Bind, name string) impl.Term {
	if u, ok := plainFind(list, name); ok {
		return u
	}
	return variable(name)
}

func plainApply(list []impl.Bind, t impl.Term) impl.Term {
	if u, ok := plainFind(list, t.Name); ok && t.Kind == impl.TmVar {
		return u
	}
	var args []impl.Term
	for _, arg := range t.Args {
		args = append(args, plainApply(list, arg))
	}
	t.Args = args
	return t
}

func plainCompose(a, b []impl.Bind) []impl.Bind {
	var list []impl.Bind
	for _, bind := range a {
		list = append(list, impl.Bind{Name: bind.Name, Term: plainApply(b, bind.Term)})
	}
	for _, bind := range b {
		if _, ok := plainFind(a, bind.Name); !ok {
			list = append(list, bind)
		}
	}
	return list
}

func plainRestrict(list []impl.Bind, names []string) []impl.Bind {
	sorted := slices.Clone(names)
	slices.Sort(sorted)
	var restricted []impl.Bind
	for _, name := range slices.Compact(sorted) {
		if u, ok := plainFind(list, name); ok {
			restricted = append(restricted, impl.Bind{Name: name, Term: u})
		}
	}
	return restricted
}

func plainSame(a, b []impl.Bind) bool {
	for _, bind := range slices.Concat(a, b) {
		if !equalTerms(plainImage(a, bind.Name), plainImage(b, bind.Name)) {
			return false
		}
	}
	return true
}

func plainRename(t impl.Term, suffix string) impl.Term {
	if t.Kind == impl.TmVar {
		t.Name += suffix
	}
	var args []impl.Term
	for _, arg := range t.Args {
		args = append(args, plainRename(arg, suffix))
	}
	t.Args = args
	return t
}

func checkApplied(t *testing.T, list []impl.Bind, term, want impl.Term) {
	t.Helper()
	if got := impl.ApplySubst(list, term); !equalTerms(got, want) {
		t.Errorf("ApplySubst(%v, %v) = %v, want %v", list, term, got, want)
	}
}

func TestApplySubst(t *testing.T) {
	for _, c := range []struct{ list, term, want string }{
		{"", "X", "X"},
		{"", "a", "a"},
		{"", "2", "2"},
		{"", "f(X, g(Y, 1), a)", "f(X, g(Y, 1), a)"},
		{"X := a", "X", "a"},
		{"X := 3", "X", "3"},
		{"X := Y", "X", "Y"},
		{"X := X", "X", "X"},
		{"X := f(Y, g(1, a))", "X", "f(Y, g(1, a))"},
		{"X := a", "Y", "Y"},
		{"X := a", "a", "a"},
		{"X := a", "0", "0"},
		{"X := a", "f(X, 1)", "f(a, 1)"},
		{"X := 1", "f(g(h(X)))", "f(g(h(1)))"},
		{"X := f(Y)", "f(f(X))", "f(f(f(Y)))"},
		{"X := 1", "f(X, X, g(X))", "f(1, 1, g(1))"},
		{"X := g(Z, 2)", "k(X, h(X), X)", "k(g(Z, 2), h(g(Z, 2)), g(Z, 2))"},
		{"X := 1; Y := 2; Z := a", "f(Z, Y, X)", "f(a, 2, 1)"},
		{"X := 1; Y := 2", "f(g(X, Z), h(Y), W)", "f(g(1, Z), h(2), W)"},
		{"X1 := 1; X := 2; X10 := 3", "f(X, X1, X10, X100)", "f(2, 1, 3, X100)"},
		// All variables at the same time: what a Bind puts there is not replaced again.
		{"X := Y; Y := X", "f(X, Y)", "f(Y, X)"},
		{"X := Y; Y := 1", "X", "Y"},
		{"Y := 1; X := Y", "X", "Y"},
		{"X := Y; Y := 1", "f(X, Y)", "f(Y, 1)"},
		{"Y := 1; X := Y", "f(X, Y)", "f(Y, 1)"},
		{"X := f(X)", "X", "f(X)"},
		{"X := f(X)", "g(X, f(X))", "g(f(X), f(f(X)))"},
		{"X := f(X, Y); Y := g(X)", "h(Y, X)", "h(g(X), f(X, Y))"},
		{"X := Y; Y := Z; Z := X", "f(X, Y, Z)", "f(Y, Z, X)"},
		// The first of two Binds with the same name.
		{"X := 1; X := 2", "X", "1"},
		{"X := 2; X := 1", "f(X)", "f(2)"},
		{"X := Y; X := 1; Y := 2; Y := 3", "f(X, Y)", "f(Y, 2)"},
		{"X := X; X := 1", "f(X)", "f(X)"},
		{"Y := 0; X := 1; Y := 2; X := 3", "f(X, Y)", "f(1, 0)"},
		// Only variables are replaced.
		{"a := 1", "a", "a"},
		{"f := g(X)", "f(X, f(a))", "f(X, f(a))"},
		{"f := 1; X := 2", "f(X)", "f(2)"},
		{"x := 1; X := 2", "f(x, X)", "f(x, 2)"},
		{"1 := 2; plus := 3", "plus(1, 2)", "plus(1, 2)"},
		{"X := 1", "plus(X, minus(X, 2))", "plus(1, minus(1, 2))"},
		{"Xa := 1; x := 2; XX := 3", "f(X, a)", "f(X, a)"},
	} {
		checkApplied(t, binds(t, c.list), must(t, c.term), must(t, c.want))
	}
}

func TestSubstitutionsOfTermsThatAreNotValid(t *testing.T) {
	x, y, one := variable("X"), variable("Y"), word(1)
	list := []impl.Bind{{Name: "X", Term: one}, {Name: "a", Term: word(2)}, {Name: "", Term: word(3)}, {Name: "\xff\x00", Term: word(0)}}
	for _, c := range []struct{ term, want impl.Term }{
		// Any name may be that of a variable, and any fields that a kind does not use may be filled.
		{variable("a"), word(2)},
		{variable(""), word(3)},
		{variable("\xff\x00"), word(0)},
		{variable("\xff"), variable("\xff")},
		{impl.Term{Kind: impl.TmVar, N: 7, Name: "X"}, one},
		{impl.Term{Kind: impl.TmVar, N: -1, Name: "X", Args: []impl.Term{x, y}}, one},
		{impl.Term{Kind: impl.TmVar, N: 7, Name: "Y"}, impl.Term{Kind: impl.TmVar, N: 7, Name: "Y"}},
		{operator("X"), operator("X")},
		{operator("", x), operator("", one)},
		{operator("X", variable("a"), y), operator("X", word(2), y)},
		{impl.Term{Kind: impl.TmApp, N: 5, Name: "f", Args: []impl.Term{x}}, impl.Term{Kind: impl.TmApp, N: 5, Name: "f", Args: []impl.Term{one}}},
		{word(9), word(9)},
		{word(math.MinInt), word(math.MinInt)},
		{impl.Term{Kind: impl.TmWord, N: 2, Name: "X"}, impl.Term{Kind: impl.TmWord, N: 2, Name: "X"}},
		// All variables of a term are replaced, at any place below any node that is not replaced itself.
		{impl.Term{Kind: impl.TmWord, N: 2, Args: []impl.Term{x, y}}, impl.Term{Kind: impl.TmWord, N: 2, Args: []impl.Term{one, y}}},
		{impl.Term{Kind: impl.TmVar, Name: "Y", Args: []impl.Term{x, operator("f", x)}}, impl.Term{Kind: impl.TmVar, Name: "Y", Args: []impl.Term{one, operator("f", one)}}},
		{impl.Term{}, impl.Term{}},
		{impl.Term{Name: "X"}, impl.Term{Name: "X"}},
		{impl.Term{Kind: 4, N: 3, Name: "X", Args: []impl.Term{x, y}}, impl.Term{Kind: 4, N: 3, Name: "X", Args: []impl.Term{one, y}}},
		{impl.Term{Kind: math.MinInt, Name: "a", Args: []impl.Term{{Name: "X", Args: []impl.Term{x}}}}, impl.Term{Kind: math.MinInt, Name: "a", Args: []impl.Term{{Name: "X", Args: []impl.Term{one}}}}},
	} {
		checkApplied(t, list, c.term, c.want)
		checkApplied(t, list, operator("f", y, c.term, x), operator("f", y, c.want, one))
	}
	// Terms that are not valid may also be put in the place of a variable, as they are.
	for _, u := range invalidTerms() {
		checkApplied(t, []impl.Bind{{Name: "X", Term: u}, {Name: "Q", Term: one}}, operator("f", x, y, operator("g", x)), operator("f", u, y, operator("g", u)))
	}
}

// substitutions returns lists of Binds of every form: names that occur once, twice or not at all, and that no variable of a valid term has.
func substitutions(t *testing.T) [][]impl.Bind {
	t.Helper()
	var lists [][]impl.Bind
	for _, text := range []string{
		"",
		"X := 1", "X := X", "X := Y", "Y := X", "X := f(X, Y)", "Z := a", "a := 1", "f := X",
		"X := Y; Y := X", "Y := X; X := Y", "X := 1; Y := 2", "Y := 2; X := 1", "X := X; Y := Y",
		"X := 1; X := 2", "X := X; X := 2", "X := Y; Y := 1", "Y := f(Z); Z := g(X, 1)", "Z := a; Q := X",
		"X := 1; Y := Z; X := 2; Y := X", "Y := a; X := f(Y, X); Y := 1; Z := h(Z)", "Q := X; X := Q; a := Y",
		"X := Y; Y := Z; Z := X", "Z := X; Y := Z; X := Y", "X := g(f(X, Y), 2); Z := Y; Z := 3; X := 1",
	} {
		lists = append(lists, binds(t, text))
	}
	return append(lists,
		[]impl.Bind{{}},
		[]impl.Bind{{Name: "X"}, {Name: "Y", Term: impl.Term{Kind: 4, Name: "X", Args: []impl.Term{variable("X")}}}},
		[]impl.Bind{{Name: "", Term: variable("X")}, {Name: "X", Term: variable("")}, {Name: "\xff", Term: word(-1)}},
		[]impl.Bind{{Name: "X", Term: impl.Term{Kind: impl.TmVar, N: 1, Name: "X"}}, {Name: "Y", Term: impl.Term{Kind: impl.TmVar, Name: "Y", Args: []impl.Term{variable("X"), variable("Z")}}}})
}

// shortSubstitutions returns all lists of up to the given number of Binds of X and Y to a few terms.
func shortSubstitutions(t *testing.T, length int) [][]impl.Bind {
	t.Helper()
	all := [][]impl.Bind{nil}
	for start := 0; length > 0; length-- {
		end := len(all)
		for _, list := range all[start:end] {
			for _, name := range []string{"X", "Y"} {
				for _, term := range []string{"X", "Y", "2", "f(Y, X)"} {
					all = append(all, slices.Concat(list, []impl.Bind{{Name: name, Term: must(t, term)}}))
				}
			}
		}
		start = end
	}
	return all
}

func substitutedTerms() []impl.Term {
	x, y, z := variable("X"), variable("Y"), variable("Z")
	return append(invalidTerms(), x, y, z, variable("Q"), operator("a"), word(2), nestedTerm(),
		operator("f", x, y, z), operator("g", operator("f", x, x), operator("h", y, word(0)), operator("a", x)), chain(16, x), chain(17, y))
}

func TestSubstitutionsReplaceVariablesOnly(t *testing.T) {
	for _, list := range append(substitutions(t), shortSubstitutions(t, 2)...) {
		for _, term := range substitutedTerms() {
			checkApplied(t, list, term, plainApply(list, term))
		}
		// A variable is what its Bind says.
		for _, name := range []string{"X", "Y", "Z", "Q", "a", "f", "", "\xff"} {
			checkApplied(t, list, variable(name), plainImage(list, name))
		}
	}
}

func TestFindBind(t *testing.T) {
	for _, c := range []struct{ list, name, want string }{
		{"X := 1", "X", "1"},
		{"X := a", "X", "a"},
		{"X := X", "X", "X"},
		{"X := f(Y, g(1, X))", "X", "f(Y, g(1, X))"},
		{"X := 1; Y := 2; Z := 3", "X", "1"},
		{"X := 1; Y := 2; Z := 3", "Y", "2"},
		{"X := 1; Y := 2; Z := 3", "Z", "3"},
		{"X := Y; Y := 2", "X", "Y"},
		{"X := 1; X := 2", "X", "1"},
		{"Y := 0; X := 2; X := 1; Y := 3", "X", "2"},
		{"Y := 0; X := 2; X := 1; Y := 3", "Y", "0"},
		{"X := 1; X1 := 2", "X1", "2"},
		// A name is any string.
		{"a := 1", "a", "1"},
		{"f := g(X)", "f", "g(X)"},
		{"x := 1; X := 2", "x", "1"},
		{" := 1; X := 2", "", "1"},
		{"X := 2;  := 1", "", "1"},
		{"X Y := 1", "X Y", "1"},
		{"\xff := 1", "\xff", "1"},
		{"X\x00 := 1; X := 2", "X\x00", "1"},
	} {
		if got, ok := impl.FindBind(binds(t, c.list), c.name); !ok || !equalTerms(got, must(t, c.want)) {
			t.Errorf("FindBind(%q, %q) = %v, %v, want %s", c.list, c.name, got, ok, c.want)
		}
	}
	for _, u := range invalidTerms() {
		if got, ok := impl.FindBind([]impl.Bind{{Name: "Y"}, {Name: "X", Term: u}}, "X"); !ok || !equalTerms(got, u) {
			t.Errorf("FindBind finds %v, %v, want %v", got, ok, u)
		}
	}
}

func TestBindsThatThereAreNot(t *testing.T) {
	for _, text := range []string{"", "X := 1", "X := Y; Z := f(X, Y)", "a := 1; b := 2", "X1 := 1; Xx := 2", "Q := nope", "X := 1; X := 2"} {
		for _, name := range []string{"", "Y", "f", "nope", "x", "X ", " X", "X12", "XX", "\xff", "X\x00", strings.Repeat("X", 1000)} {
			if got, ok := impl.FindBind(binds(t, text), name); ok || !isZeroTerm(got) {
				t.Errorf("FindBind(%q, %q) = %v, %v", text, name, got, ok)
			}
		}
	}
	// A Bind to the zero Term is a Bind all the same.
	if got, ok := impl.FindBind([]impl.Bind{{}}, ""); !ok || !isZeroTerm(got) {
		t.Errorf("FindBind finds %v, %v", got, ok)
	}
}

func checkComposed(t *testing.T, a, b, want []impl.Bind) {
	t.Helper()
	if got := impl.ComposeSubst(a, b); !sameBinds(got, want) {
		t.Errorf("ComposeSubst(%v, %v) = %v, want %v", a, b, got, want)
	}
}

func TestComposeSubst(t *testing.T) {
	for _, c := range []struct{ a, b, want string }{
		{"", "", ""},
		{"X := Y", "", "X := Y"},
		{"", "X := Y", "X := Y"},
		{"X := 1; Y := a", "", "X := 1; Y := a"},
		{"", "Y := 2; X := f(Y)", "Y := 2; X := f(Y)"},
		{"X := f(Y, 1)", "Y := 2; X := a", "X := f(2, 1); Y := 2"},
		{"X := Y", "Y := X", "X := X; Y := X"},
		{"X := Y", "X := 1", "X := Y"},
		{"X := X", "X := 1", "X := 1"},
		{"X := f(X)", "X := f(X)", "X := f(f(X))"},
		{"X := Y; Y := X", "X := Y; Y := X", "X := X; Y := Y"},
		{"X := Y", "Y := f(Y)", "X := f(Y); Y := f(Y)"},
		{"X := g(Y, Z, Y)", "Y := Z; Z := Y", "X := g(Z, Y, Z); Y := Z; Z := Y"},
		{"X := 1", "Y := X", "X := 1; Y := X"},
		// The order of a, then that of b.
		{"Z := 1; X := 2", "Y := 3; A := 0", "Z := 1; X := 2; Y := 3; A := 0"},
		{"Z := Y; X := Y", "Z := 0; Y := 3; X := 1; A := X", "Z := 3; X := 3; Y := 3; A := X"},
		// Names that occur twice in a, in b and in both.
		{"X := Y; X := Z", "Y := 1; Z := 2", "X := 1; X := 2; Y := 1; Z := 2"},
		{"X := Y; X := Z", "X := 3", "X := Y; X := Z"},
		{"X := Y", "Y := 1; Y := 2", "X := 1; Y := 1; Y := 2"},
		{"X := f(Y)", "Z := 0; Y := 1; Z := 2; Y := 3", "X := f(1); Z := 0; Y := 1; Z := 2; Y := 3"},
		{"X := X; X := Y", "X := 1; Y := Z; X := 2; Y := 3", "X := 1; X := Z; Y := Z; Y := 3"},
		{"X := X; Y := X; X := Y", "X := Y; X := 1", "X := Y; Y := Y; X := Y"},
		// Names that are no variables, and a variable that only has the name of an operator of a.
		{"a := X; X := a", "X := 1; a := 2", "a := 1; X := a"},
		{"X := f(X)", "f := 1; X := Y", "X := f(Y); f := 1"},
	} {
		checkComposed(t, binds(t, c.a), binds(t, c.b), binds(t, c.want))
	}
	checkComposed(t, []impl.Bind{}, []impl.Bind{}, nil)
}

// checkEffect checks the document's promise: the composition has the effect of a followed by b.
func checkEffect(t *testing.T, a, b []impl.Bind, terms []impl.Term) {
	t.Helper()
	composed := impl.ComposeSubst(a, b)
	if want := plainCompose(a, b); !sameBinds(composed, want) {
		t.Fatalf("ComposeSubst(%v, %v) = %v, want %v", a, b, composed, want)
	}
	for _, term := range terms {
		got, want := impl.ApplySubst(composed, term), impl.ApplySubst(b, impl.ApplySubst(a, term))
		if !equalTerms(got, want) || !equalTerms(want, plainApply(b, plainApply(a, term))) {
			t.Fatalf("%v after the composition of %v and %v is %v, but one after the other gives %v", term, a, b, got, want)
		}
	}
}

func TestCompositionsHaveTheEffectOfBoth(t *testing.T) {
	lists, terms := substitutions(t), substitutedTerms()
	for _, a := range lists {
		for _, b := range lists {
			checkEffect(t, a, b, terms)
		}
	}
	short := shortSubstitutions(t, 2)
	few := []impl.Term{variable("X"), variable("Y"), operator("k", variable("Y"), operator("f", variable("X"), variable("Z")), variable("X")), {Kind: impl.TmVar, Name: "Z", Args: []impl.Term{variable("X"), variable("Y")}}}
	for _, a := range short {
		for _, b := range short {
			checkEffect(t, a, b, few)
		}
	}
	for _, a := range shortSubstitutions(t, 3) {
		for _, b := range lists {
			checkEffect(t, a, b, few)
			checkEffect(t, b, a, few)
		}
	}
}

func TestCompositionsInAnyGrouping(t *testing.T) {
	lists := substitutions(t)
	for _, a := range lists {
		if left, right := impl.ComposeSubst(nil, a), impl.ComposeSubst(a, nil); !sameBinds(left, a) || !sameBinds(right, a) {
			t.Errorf("compositions of %v with the empty substitution are %v and %v", a, left, right)
		}
		for _, b := range lists {
			for _, c := range lists {
				left := impl.ComposeSubst(impl.ComposeSubst(a, b), c)
				right := impl.ComposeSubst(a, impl.ComposeSubst(b, c))
				if !impl.SameSubst(left, right) || !plainSame(left, right) {
					t.Fatalf("%v, %v and %v give %v and %v", a, b, c, left, right)
				}
			}
		}
	}
}

func checkRestricted(t *testing.T, list []impl.Bind, names []string, want []impl.Bind) {
	t.Helper()
	if got := impl.RestrictSubst(list, names); !sameBinds(got, want) {
		t.Errorf("RestrictSubst(%v, %q) = %v, want %v", list, names, got, want)
	}
}

func TestRestrictSubst(t *testing.T) {
	for _, c := range []struct {
		list  string
		names []string
		want  string
	}{
		{"", nil, ""},
		{"", []string{"X"}, ""},
		{"X := 1", nil, ""},
		{"X := 1", []string{}, ""},
		{"X := 1", []string{"X"}, "X := 1"},
		{"X := 1", []string{"Y"}, ""},
		{"X := 1; Y := f(X, 2)", []string{"Y"}, "Y := f(X, 2)"},
		{"X := 1; Y := 2", []string{"X", "Y"}, "X := 1; Y := 2"},
		// Ascending, whatever the order of both lists.
		{"X := 1; Y := 2", []string{"Y", "X"}, "X := 1; Y := 2"},
		{"Y := 2; X := 1", []string{"X", "Y"}, "X := 1; Y := 2"},
		{"Z := 3; X := 1; Y := 2", []string{"Y", "Z", "X"}, "X := 1; Y := 2; Z := 3"},
		{"X2 := 2; X10 := 3; X := 1; a := 0; A := 0", []string{"a", "X2", "X", "A", "X10"}, "A := 0; X := 1; X10 := 3; X2 := 2; a := 0"},
		// Names that occur twice, and names without a Bind.
		{"X := 1; Y := 2", []string{"X", "X"}, "X := 1"},
		{"X := 1; Y := 2", []string{"Y", "X", "Y", "X", "Y"}, "X := 1; Y := 2"},
		{"X := 1; Y := 2", []string{"Q", "Y", "", "y", "Yy", "Q"}, "Y := 2"},
		{"X := Q; Q := 1", []string{"X"}, "X := Q"},
		// The first of two Binds.
		{"X := 1; X := 2", []string{"X"}, "X := 1"},
		{"X := X; X := 2", []string{"X"}, "X := X"},
		{"Y := 3; X := 2; Y := 0; X := 1", []string{"Y", "X", "Y"}, "X := 2; Y := 3"},
		// A name is any string.
		{" := 1; X := 2", []string{"", "X"}, " := 1; X := 2"},
		{"\xff := 1; a := 2; \x00 := 3; B := 0", []string{"\xff", "a", "B", "\x00"}, "\x00 := 3; B := 0; a := 2; \xff := 1"},
	} {
		checkRestricted(t, binds(t, c.list), c.names, binds(t, c.want))
	}
	checkRestricted(t, []impl.Bind{}, []string{}, nil)
}

func TestRestrictedSubstitutionsReplaceTheSameVariables(t *testing.T) {
	terms := substitutedTerms()
	for _, list := range substitutions(t) {
		for length := range 4 {
			for _, names := range listsOf([]string{"Y", "X", "a", "Q", ""}, length) {
				checkRestricted(t, list, names, plainRestrict(list, names))
			}
		}
		for _, term := range terms {
			restricted := impl.RestrictSubst(list, impl.VarsOfTerm(term))
			checkApplied(t, restricted, term, impl.ApplySubst(list, term))
		}
		var all []string
		for _, bind := range list {
			all = append(all, bind.Name)
		}
		if restricted := impl.RestrictSubst(list, all); !impl.SameSubst(list, restricted) {
			t.Errorf("%v, restricted to all of its names, is %v", list, restricted)
		}
	}
}

func checkSame(t *testing.T, a, b []impl.Bind, want bool) {
	t.Helper()
	if impl.SameSubst(a, b) != want || impl.SameSubst(b, a) != want {
		t.Errorf("SameSubst(%v, %v) = %v, the other way round %v, want %v", a, b, impl.SameSubst(a, b), impl.SameSubst(b, a), want)
	}
}

func TestSameSubst(t *testing.T) {
	for _, c := range []struct {
		a, b string
		want bool
	}{
		{"", "", true},
		{"X := 1", "X := 1", true},
		{"X := f(Y, g(1))", "X := f(Y, g(1))", true},
		{"X := 1; Y := 2", "Y := 2; X := 1", true},
		{"X := 1; Y := 2; Z := 3", "Z := 3; X := 1; Y := 2", true},
		// A missing Bind stands for the variable itself.
		{"X := X", "", true},
		{"X := X; Y := Y", "", true},
		{"X := X; Y := 1", "Y := 1", true},
		{"X := X; Y := 1", "Y := 1; Z := Z", true},
		{"X := X; X := 1", "", true},
		{"X := Y", "", false},
		{"X := 1", "", false},
		{"X := f(X)", "", false},
		{"X := X; Y := 1", "", false},
		{"X := 1; Y := 2", "X := 1", false},
		{"Y := 2; X := 1", "X := 1", false},
		{"X := 1", "Y := 1", false},
		{"X := Y; Y := X", "", false},
		{"X := x", "", false},
		// The name of a Bind is that of a variable, whatever it is, and not that of an operator.
		{"a := a", "", false},
		{"a := 1", "", false},
		{"a := 1", "a := 1", true},
		{"a := 1", "a := 2", false},
		// A second Bind with the same name is not used.
		{"X := 1; X := 2", "X := 1", true},
		{"X := 1; X := 2", "X := 1; X := 3", true},
		{"X := 1; X := 2", "X := 2", false},
		{"X := 1; X := 2", "X := 2; X := 1", false},
		{"X := 1; Y := 2; X := 3", "Y := 2; Y := 0; X := 1", true},
		{"X := 1; X := X", "", false},
		// Different terms.
		{"X := 1", "X := 2", false},
		{"X := 1", "X := a", false},
		{"X := a", "X := b", false},
		{"X := Y", "X := Z", false},
		{"X := f(a)", "X := f(a, a)", false},
		{"X := f(a, 1)", "X := f(a, 2)", false},
		{"X := 1; Y := 2", "X := 2; Y := 1", false},
		{"X := 1; Y := 2; Z := 3", "X := 1; Y := 2; Z := 0", false},
		{"X := 1; Y := 2; Z := 3", "X := 0; Y := 2; Z := 3", false},
		// What is replaced again would be equal, but it is not.
		{"X := Y; Y := 1", "X := 1; Y := 1", false},
	} {
		checkSame(t, binds(t, c.a), binds(t, c.b), c.want)
	}
	checkSame(t, nil, []impl.Bind{}, true)
}

func TestSameSubstitutionsWithTermsThatAreNotValid(t *testing.T) {
	self := func(name string) []impl.Bind { return []impl.Bind{{Name: name, Term: variable(name)}} }
	for _, name := range []string{"X", "a", "", "\xff", strings.Repeat("X", 100)} {
		checkSame(t, self(name), nil, true)
		checkSame(t, []impl.Bind{{Name: name}}, nil, false)
		checkSame(t, []impl.Bind{{Name: name, Term: operator(name)}}, nil, false)
		checkSame(t, []impl.Bind{{Name: name, Term: impl.Term{Kind: impl.TmVar, Name: name, Args: []impl.Term{}}}}, nil, true)
		checkSame(t, []impl.Bind{{Name: name, Term: impl.Term{Kind: impl.TmVar, N: 1, Name: name}}}, nil, false)
		checkSame(t, []impl.Bind{{Name: name, Term: impl.Term{Kind: impl.TmVar, Name: name, Args: []impl.Term{word(1)}}}}, self(name), false)
		checkSame(t, []impl.Bind{{Name: name, Term: impl.Term{Kind: 4, Name: name}}}, self(name), false)
	}
	for i, u := range invalidTerms() {
		for j, v := range invalidTerms() {
			want := equalTerms(u, v)
			checkSame(t, []impl.Bind{{Name: "X", Term: u}}, []impl.Bind{{Name: "Y", Term: variable("Y")}, {Name: "X", Term: v}}, want)
			if i == j && !want {
				t.Fatalf("%v is not equal to itself", u)
			}
		}
	}
}

// TestSameSubstitutionsHaveTheSameEffect compares SameSubst with what two substitutions do to each variable.
func TestSameSubstitutionsHaveTheSameEffect(t *testing.T) {
	lists := append(shortSubstitutions(t, 2), substitutions(t)...)
	same := 0
	for _, a := range lists {
		for _, b := range lists {
			want := true
			for _, name := range []string{"X", "Y", "Z", "Q", "a", "f", "", "\xff"} {
				want = want && equalTerms(impl.ApplySubst(a, variable(name)), impl.ApplySubst(b, variable(name)))
			}
			if got := impl.SameSubst(a, b); got != want || got != plainSame(a, b) {
				t.Fatalf("SameSubst(%v, %v) = %v, but that they have the same effect is %v", a, b, got, want)
			}
			if want {
				same++
			}
		}
	}
	if same < 2*len(lists) {
		t.Errorf("only %d pairs are the same", same)
	}
}

func checkRenamed(t *testing.T, term impl.Term, suffix string, want impl.Term) {
	t.Helper()
	if got := impl.RenameVars(term, suffix); !equalTerms(got, want) {
		t.Errorf("RenameVars(%v, %q) = %v, want %v", term, suffix, got, want)
	}
}

func TestRenameVars(t *testing.T) {
	for _, c := range []struct{ term, suffix, want string }{
		{"X", "2", "X2"},
		{"X", "", "X"},
		{"X2", "2", "X22"},
		{"Xa", "b1", "Xab1"},
		{"a", "2", "a"},
		{"3", "2", "3"},
		{"f(X, a)", "2", "f(X2, a)"},
		{"f(X, a)", "", "f(X, a)"},
		{"f(X, X, Y)", "2", "f(X2, X2, Y2)"},
		{"f(X, g(X, h(Y, 1)), X)", "ab", "f(Xab, g(Xab, h(Yab, 1)), Xab)"},
		{"f(X, X2)", "2", "f(X2, X22)"},
		{"f(g(h(X)))", "2", "f(g(h(X2)))"},
		{"x(X, x)", "2", "x(X2, x)"},
		{"plus(N, times(2, M))", "2", "plus(N2, times(2, M2))"},
		{"f(a, b(1), 2)", "2", "f(a, b(1), 2)"},
	} {
		checkRenamed(t, must(t, c.term), c.suffix, must(t, c.want))
	}
	// The suffix may be any string, also one that makes no name.
	for _, suffix := range []string{"12345678", " ", "X", "\x00", "\xff", "\xc3\xa9", strings.Repeat("2", 5000)} {
		checkRenamed(t, variable("X"), suffix, variable("X"+suffix))
		checkRenamed(t, operator("f", variable("X"), operator("a"), word(1), variable("Y")), suffix, operator("f", variable("X"+suffix), operator("a"), word(1), variable("Y"+suffix)))
	}
}

func TestRenamedTermsThatAreNotValid(t *testing.T) {
	x, x2 := variable("X"), variable("X2")
	for _, c := range []struct{ term, want impl.Term }{
		{variable(""), variable("2")},
		{variable("a"), variable("a2")},
		{impl.Term{Kind: impl.TmVar, N: 7, Name: "X"}, impl.Term{Kind: impl.TmVar, N: 7, Name: "X2"}},
		{impl.Term{Kind: impl.TmVar, Name: "X", Args: []impl.Term{x, operator("f", x)}}, impl.Term{Kind: impl.TmVar, Name: "X2", Args: []impl.Term{x2, operator("f", x2)}}},
		{operator("X"), operator("X")},
		{impl.Term{Kind: impl.TmApp, N: 7, Name: "X", Args: []impl.Term{x}}, impl.Term{Kind: impl.TmApp, N: 7, Name: "X", Args: []impl.Term{x2}}},
		{word(9), word(9)},
		{impl.Term{Kind: impl.TmWord, N: 1, Name: "X", Args: []impl.Term{x}}, impl.Term{Kind: impl.TmWord, N: 1, Name: "X", Args: []impl.Term{x2}}},
		{impl.Term{}, impl.Term{}},
		{impl.Term{Name: "X"}, impl.Term{Name: "X"}},
		{impl.Term{Kind: 4, N: 2, Name: "X", Args: []impl.Term{x, {Name: "X"}}}, impl.Term{Kind: 4, N: 2, Name: "X", Args: []impl.Term{x2, {Name: "X"}}}},
	} {
		checkRenamed(t, c.term, "2", c.want)
		checkRenamed(t, operator("f", x, c.term), "2", operator("f", x2, c.want))
	}
	for _, term := range append(positionedTerms(), substitutedTerms()...) {
		for _, suffix := range []string{"", "2", "ab", "\xff"} {
			checkRenamed(t, term, suffix, plainRename(term, suffix))
			checkRenamed(t, impl.RenameVars(term, suffix), "z", plainRename(term, suffix+"z"))
		}
	}
}

// TestRenamingIsASubstitution compares RenameVars with the substitution that does the same to the variables of valid terms.
func TestRenamingIsASubstitution(t *testing.T) {
	for _, term := range validTerms() {
		var list []impl.Bind
		for _, name := range impl.VarsOfTerm(term) {
			list = append(list, impl.Bind{Name: name, Term: variable(name + "2")})
		}
		checkRenamed(t, term, "2", impl.ApplySubst(list, term))
	}
}

// cloneBinds copies a substitution with all of its memory, unused capacity included.
func cloneBinds(list []impl.Bind) []impl.Bind {
	copied := slices.Clone(list[:cap(list)])
	for i := range copied {
		copied[i].Term = deepClone(copied[i].Term)
	}
	return copied[:len(list)]
}

// bindsWithSpare copies a substitution so that all of its lists have unused capacity. What stands there would replace more variables.
func bindsWithSpare(list []impl.Bind) []impl.Bind {
	var copied []impl.Bind
	for _, bind := range list {
		copied = append(copied, impl.Bind{Name: bind.Name, Term: termWithSpare(bind.Term, variable("X"))})
	}
	for _, name := range []string{"X", "Y", "Z", "Q", "", "W"} {
		copied = append(copied, impl.Bind{Name: name, Term: operator("spare")})
	}
	return copied[:len(list)]
}

func sameBindMemory(kept, list []impl.Bind) bool {
	return len(kept) == len(list) && slices.EqualFunc(kept[:cap(list)], list[:cap(list)], func(a, b impl.Bind) bool {
		return a.Name == b.Name && sameMemory(a.Term, b.Term)
	})
}

// asTerm puts the terms of a substitution below one operator, in the memory in which they are.
func asTerm(list []impl.Bind) impl.Term {
	var args []impl.Term
	for _, bind := range list[:cap(list)] {
		args = append(args, bind.Term)
	}
	return operator("binds", args...)
}

func TestSubstitutionsAreNotChanged(t *testing.T) {
	lists, terms := substitutions(t), substitutedTerms()
	for i, plain := range lists {
		list, other := bindsWithSpare(plain), bindsWithSpare(lists[len(lists)-1-i])
		names := []string{"Y", "X", "Y", "nope", "W"}
		keptList, keptOther := cloneBinds(list), cloneBinds(other)
		if got := impl.ComposeSubst(list, other); !sameBinds(got, plainCompose(plain, lists[len(lists)-1-i])) {
			t.Errorf("ComposeSubst(%v, %v) = %v", list, other, got)
		}
		if got := impl.RestrictSubst(list, names[:4]); !sameBinds(got, plainRestrict(plain, names[:4])) {
			t.Errorf("RestrictSubst(%v, %q) = %v", list, names[:4], got)
		}
		for _, name := range names {
			want, isThere := plainFind(plain, name)
			if got, ok := impl.FindBind(list, name); ok != isThere || !equalTerms(got, want) {
				t.Errorf("FindBind(%v, %q) = %v, %v", list, name, got, ok)
			}
		}
		checkSame(t, list, plain, true)
		checkSame(t, list, other, plainSame(plain, lists[len(lists)-1-i]))
		for _, term := range terms {
			whole := termWithSpare(term, variable("X"))
			kept := deepClone(whole)
			checkApplied(t, list, whole, plainApply(plain, term))
			checkRenamed(t, whole, "2", plainRename(term, "2"))
			if !sameMemory(whole, kept) {
				t.Fatalf("%v was changed to %v", kept, whole)
			}
		}
		if !sameBindMemory(keptList, list) || !sameBindMemory(keptOther, other) {
			t.Fatalf("%v or %v was changed", keptList, keptOther)
		}
		if !slices.Equal(names, []string{"Y", "X", "Y", "nope", "W"}) {
			t.Fatalf("the names were changed to %q", names)
		}
	}
}

func TestTermsOfSubstitutionsShareNoMemory(t *testing.T) {
	for _, plain := range substitutions(t) {
		list := bindsWithSpare(plain)
		keptList := cloneBinds(list)
		for _, term := range substitutedTerms() {
			whole := termWithSpare(term, variable("X"))
			kept := deepClone(whole)
			var results []impl.Term
			for range 2 {
				results = append(results, impl.ApplySubst(list, whole), impl.RenameVars(whole, "2"), impl.RenameVars(whole, ""))
				for _, name := range []string{"X", "Y", "Z", "a", "nope"} {
					found, _ := impl.FindBind(list, name)
					results = append(results, found)
				}
			}
			if sharesMemory(results, []impl.Term{whole, asTerm(list)}) {
				t.Fatalf("results for %v and %v share memory", plain, term)
			}
			for _, result := range results {
				overwriteTerm(result)
			}
			if !sameMemory(whole, kept) || !sameBindMemory(keptList, list) {
				t.Fatalf("writing to the results for %v and %v changes the arguments", plain, term)
			}
		}
	}
}

// overwriteBinds writes to all of a substitution that its receiver may write to, also by append.
func overwriteBinds(list []impl.Bind) {
	_ = append(list, impl.Bind{Name: "Appended", Term: operator("appended")})
	for i := range list {
		overwriteTerm(list[i].Term)
		list[i] = impl.Bind{Name: "Written", Term: operator("written")}
	}
}

func TestListsOfSubstitutionsShareNoMemory(t *testing.T) {
	lists := substitutions(t)
	names := []string{"Y", "X", "Z", "a", "X"}
	for _, plainA := range lists {
		for _, plainB := range lists {
			a, b := bindsWithSpare(plainA), bindsWithSpare(plainB)
			keptA, keptB := cloneBinds(a), cloneBinds(b)
			results := [][]impl.Bind{
				impl.ComposeSubst(a, b), impl.ComposeSubst(a, b), impl.ComposeSubst(a, nil), impl.ComposeSubst(nil, b),
				impl.RestrictSubst(a, names), impl.RestrictSubst(a, names),
			}
			want := [][]impl.Bind{
				plainCompose(plainA, plainB), plainCompose(plainA, plainB), plainA, plainB,
				plainRestrict(plainA, names), plainRestrict(plainA, names),
			}
			var terms []impl.Term
			for _, result := range results {
				for _, bind := range result {
					terms = append(terms, bind.Term)
				}
			}
			if sharesMemory(terms, []impl.Term{asTerm(a), asTerm(b)}) {
				t.Fatalf("terms of the results for %v and %v share memory", plainA, plainB)
			}
			for i, result := range results {
				if !sameBinds(result, want[i]) {
					t.Fatalf("writing to results for %v and %v changes result %d to %v, want %v", plainA, plainB, i, result, want[i])
				}
				overwriteBinds(result)
			}
			if !sameBindMemory(keptA, a) || !sameBindMemory(keptB, b) {
				t.Fatalf("writing to the results for %v and %v changes them to %v and %v", keptA, keptB, a, b)
			}
		}
	}
}

// TestPartsOfSubstitutedTermsShareNoMemory uses terms and Binds in which the same memory occurs at several places.
func TestPartsOfSubstitutedTermsShareNoMemory(t *testing.T) {
	for _, shared := range sharedInside() {
		list := []impl.Bind{{Name: "X", Term: shared}, {Name: "Y", Term: shared}, {Name: "Z", Term: shared.Args[0]}}
		other := []impl.Bind{{Name: "Q", Term: operator("f", variable("X"), shared, variable("X"))}, {Name: "W", Term: shared}, {Name: "Q", Term: shared}}
		for _, term := range []impl.Term{variable("X"), operator("f", variable("X"), variable("Y"), variable("X")), shared, {Kind: impl.TmVar, Name: "Q", Args: []impl.Term{shared, variable("Z")}}} {
			checkApart(t, func() impl.Term { return impl.ApplySubst(list, term) })
			checkApart(t, func() impl.Term { return impl.RenameVars(term, "2") })
			checkApart(t, func() impl.Term { return impl.RenameVars(term, "") })
		}
		checkApart(t, func() impl.Term {
			found, _ := impl.FindBind(list, "X")
			return found
		})
		checkApart(t, func() impl.Term { return asTerm(impl.ComposeSubst(other, list)) })
		checkApart(t, func() impl.Term { return asTerm(impl.ComposeSubst(list, other)) })
		checkApart(t, func() impl.Term { return asTerm(impl.RestrictSubst(list, []string{"Z", "Y", "X"})) })
	}
}

func TestSubstitutionsOfDeepTerms(t *testing.T) {
	const size = 100000
	x, y := variable("X"), variable("Y")
	deepX, deepY, deepWord := chain(size, x), chain(size, y), chain(size, word(1))
	list := []impl.Bind{{Name: "X", Term: deepY}}
	last := []impl.Bind{{Name: "Y", Term: word(1)}}
	// A stack in which there is no room for a call for each level of a deep term.
	defer debug.SetMaxStack(debug.SetMaxStack(1 << 20))
	if got := impl.ApplySubst(list, deepX); !impl.EqualTerm(got, chain(2*size-1, y)) {
		t.Error("ApplySubst of a deep term")
	}
	if got, ok := impl.FindBind(list, "X"); !ok || !impl.EqualTerm(got, deepY) {
		t.Error("FindBind of a deep term")
	}
	composed := impl.ComposeSubst(list, last)
	if len(composed) != 2 || !impl.EqualTerm(composed[0].Term, deepWord) || !impl.EqualTerm(composed[1].Term, word(1)) {
		t.Error("ComposeSubst with a deep term")
	}
	composed = impl.ComposeSubst(last, list)
	if len(composed) != 2 || !impl.EqualTerm(composed[1].Term, deepY) {
		t.Error("ComposeSubst with a deep term in the second list")
	}
	if got := impl.RestrictSubst(list, []string{"X"}); len(got) != 1 || !impl.EqualTerm(got[0].Term, deepY) {
		t.Error("RestrictSubst with a deep term")
	}
	if impl.SameSubst(list, []impl.Bind{{Name: "X", Term: deepX}}) || !impl.SameSubst(list, []impl.Bind{{Name: "X", Term: chain(size, y)}}) {
		t.Error("SameSubst with deep terms")
	}
	if got := impl.RenameVars(deepX, "2"); !impl.EqualTerm(got, chain(size, variable("X2"))) {
		t.Error("RenameVars of a deep term")
	}
}

func TestSubstitutionsOfManyVariables(t *testing.T) {
	const size = 100000
	var list, backward []impl.Bind
	var names []string
	var vars, words, renamed []impl.Term
	for i := range size {
		name := "X" + impl.FormatInt(i)
		names = append(names, name)
		list = append(list, impl.Bind{Name: name, Term: variable("Y" + impl.FormatInt(i))})
		vars = append(vars, variable(name))
		words = append(words, list[i].Term)
		renamed = append(renamed, variable(name+"2"))
	}
	backward = slices.Clone(list)
	slices.Reverse(backward)
	wide := operator("f", vars...)
	checkLast := func(what string, got, want impl.Term) {
		t.Helper()
		if !impl.EqualTerm(got, want) {
			t.Errorf("%s of %d variables is wrong", what, size)
		}
	}
	checkLast("ApplySubst", impl.ApplySubst(list, wide), operator("f", words...))
	checkLast("ApplySubst", impl.ApplySubst(backward, wide), operator("f", words...))
	checkLast("RenameVars", impl.RenameVars(wide, "2"), operator("f", renamed...))
	found, _ := impl.FindBind(list, names[size-1])
	checkLast("FindBind", found, words[size-1])
	if composed := impl.ComposeSubst(list, backward); !sameBinds(composed, list) {
		t.Error("ComposeSubst of two long lists of the same names")
	}
	if composed := impl.ComposeSubst(list[:size/2], list); !sameBinds(composed, list) {
		t.Error("ComposeSubst of a long list and a longer one")
	}
	if got := impl.RestrictSubst(backward, append(slices.Clone(names), names...)); len(got) != size || got[0].Name != "X0" {
		t.Error("RestrictSubst of a long list")
	}
	checkSameLong := func(a, b []impl.Bind, want bool) {
		t.Helper()
		if impl.SameSubst(a, b) != want || impl.SameSubst(b, a) != want {
			t.Errorf("SameSubst of two long lists is not %v", want)
		}
	}
	checkSameLong(list, backward, true)
	checkSameLong(slices.Concat(list, backward), list, true)
	checkSameLong(list, list[1:], false)
	checkSameLong(list, list[:size-1], false)
}

// TestSubstitutionsWithManySharedArguments uses a term that stands for a million nodes in the memory of a few: what is not in a result need not be copied.
func TestSubstitutionsWithManySharedArguments(t *testing.T) {
	shared, x := word(1), variable("X")
	for range 20 {
		shared = operator("f", shared, shared)
	}
	list := []impl.Bind{{Name: "X", Term: word(2)}, {Name: "Y", Term: shared}, {Name: "X", Term: shared}}
	allocated := testing.AllocsPerRun(1, func() {
		checkApplied(t, list, operator("f", x, variable("Z")), operator("f", word(2), variable("Z")))
		checkApplied(t, list, impl.Term{Kind: impl.TmVar, Name: "X", Args: []impl.Term{shared}}, word(2))
		if got, ok := impl.FindBind(list, "X"); !ok || !equalTerms(got, word(2)) {
			t.Error("FindBind does not find a small term beside a large one")
		}
		if got, ok := impl.FindBind(list, "Z"); ok || !isZeroTerm(got) {
			t.Error("FindBind finds a term that there is not")
		}
		checkRestricted(t, list, []string{"X", "Z"}, list[:1])
		checkComposed(t, []impl.Bind{{Name: "Y", Term: x}}, list[:2], []impl.Bind{{Name: "Y", Term: word(2)}, list[0]})
	})
	if allocated > 10000 {
		t.Errorf("%v allocations", allocated)
	}
}
