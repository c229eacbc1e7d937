package tests

import (
	"math"
	"runtime/debug"
	"slices"
	"strings"
	"testing"

	"loop.example/g00517/impl"
)

// plainMatch, plainUnify and plainVariant do what the document says, without the program.
func plainMatch(pattern, term impl.Term) ([]impl.Bind, bool) {
	var list []impl.Bind
	if !plainMatchInto(&list, pattern, term) {
		return nil, false
	}
	return plainRestrict(list, plainNames(list)), true
}

func plainMatchInto(list *[]impl.Bind, pattern, term impl.Term) bool {
	if pattern.Kind == impl.TmVar {
		if u, ok := plainFind(*list, pattern.Name); ok {
			return equalTerms(u, term)
		}
		*list = append(*list, impl.Bind{Name: pattern.Name, Term: term})
		return true
	}
	if pattern.Kind != term.Kind || pattern.N != term.N || pattern.Name != term.Name || len(pattern.Args) != len(term.Args) {
		return false
	}
	for i, arg := range pattern.Args {
		if !plainMatchInto(list, arg, term.Args[i]) {
			return false
		}
	}
	return true
}

func plainNames(list []impl.Bind) []string {
	var names []string
	for _, bind := range list {
		names = append(names, bind.Name)
	}
	return names
}

func variablesOf(t impl.Term) []string {
	var names []string
	if t.Kind == impl.TmVar {
		names = append(names, t.Name)
	}
	for _, arg := range t.Args {
		names = append(names, variablesOf(arg)...)
	}
	return names
}

func plainCount(t impl.Term) int {
	count := 1
	for _, arg := range t.Args {
		count += plainCount(arg)
	}
	return count
}

// plainUnify follows the document word by word: the substitution is applied to both sides of every equation.
func plainUnify(a, b impl.Term) ([]impl.Bind, bool) {
	list := [][2]impl.Term{{a, b}}
	var s []impl.Bind
	for len(list) > 0 {
		x, y := plainApply(s, list[0][0]), plainApply(s, list[0][1])
		list = list[1:]
		if equalTerms(x, y) {
			continue
		}
		if x.Kind != impl.TmVar && y.Kind == impl.TmVar {
			x, y = y, x
		}
		if x.Kind == impl.TmVar {
			if slices.Contains(variablesOf(y), x.Name) {
				return nil, false
			}
			s = plainCompose(s, []impl.Bind{{Name: x.Name, Term: y}})
		} else {
			if x.Kind != impl.TmApp || y.Kind != impl.TmApp || x.Name != y.Name || len(x.Args) != len(y.Args) {
				return nil, false
			}
			var args [][2]impl.Term
			for i := range x.Args {
				args = append(args, [2]impl.Term{x.Args[i], y.Args[i]})
			}
			list = append(args, list...)
		}
		if slices.ContainsFunc(s, func(bind impl.Bind) bool { return plainCount(bind.Term) > 400 }) {
			return nil, false
		}
	}
	return plainRestrict(s, append(variablesOf(a), variablesOf(b)...)), true
}

// plainVariant reports whether two valid terms become each other by a renaming that is the same one in both directions.
func plainVariant(there, back map[string]string, a, b impl.Term) bool {
	if a.Kind != b.Kind || a.N != b.N || len(a.Args) != len(b.Args) {
		return false
	}
	if a.Kind == impl.TmVar {
		to, isThere := there[a.Name]
		from, isBack := back[b.Name]
		there[a.Name], back[b.Name] = b.Name, a.Name
		return isThere == isBack && (!isThere || to == b.Name && from == a.Name)
	}
	for i := range a.Args {
		if !plainVariant(there, back, a.Args[i], b.Args[i]) {
			return false
		}
	}
	return a.Name == b.Name
}

func checkMatched(t *testing.T, pattern, term impl.Term, want []impl.Bind) {
	t.Helper()
	got, ok := impl.MatchTerm(pattern, term)
	if !ok || !sameBinds(got, want) {
		t.Errorf("MatchTerm(%v, %v) = %v, %v, want %v", pattern, term, got, ok, want)
	}
	if made := impl.ApplySubst(got, pattern); !impl.EqualTerm(made, term) {
		t.Errorf("%v makes %v equal to %v, not to %v", got, pattern, made, term)
	}
	checkInstance(t, term, pattern, true)
}

func checkNotMatched(t *testing.T, pattern, term impl.Term) {
	t.Helper()
	if got, ok := impl.MatchTerm(pattern, term); ok || got != nil {
		t.Errorf("MatchTerm(%v, %v) = %v, %v", pattern, term, got, ok)
	}
	checkInstance(t, term, pattern, false)
}

func checkInstance(t *testing.T, term, pattern impl.Term, want bool) {
	t.Helper()
	if impl.IsInstance(term, pattern) != want {
		t.Errorf("IsInstance(%v, %v) is not %v", term, pattern, want)
	}
}

func checkVariant(t *testing.T, a, b impl.Term, want bool) {
	t.Helper()
	if impl.IsVariant(a, b) != want || impl.IsVariant(b, a) != want {
		t.Errorf("IsVariant(%v, %v) = %v, the other way round %v, want %v", a, b, impl.IsVariant(a, b), impl.IsVariant(b, a), want)
	}
}

func checkUnified(t *testing.T, a, b impl.Term, want []impl.Bind) {
	t.Helper()
	got, ok := impl.UnifyTerms(a, b)
	if !ok || !sameBinds(got, want) {
		t.Errorf("UnifyTerms(%v, %v) = %v, %v, want %v", a, b, got, ok, want)
	}
	if left, right := impl.ApplySubst(got, a), impl.ApplySubst(got, b); !impl.EqualTerm(left, right) {
		t.Errorf("%v makes %v and %v into %v and %v", got, a, b, left, right)
	}
}

func checkNotUnified(t *testing.T, a, b impl.Term) {
	t.Helper()
	if got, ok := impl.UnifyTerms(a, b); ok || got != nil {
		t.Errorf("UnifyTerms(%v, %v) = %v, %v", a, b, got, ok)
	}
}

func TestMatchTerm(t *testing.T) {
	for _, c := range []struct{ pattern, term, want string }{
		{"X", "a", "X := a"},
		{"X", "3", "X := 3"},
		{"X", "Y", "X := Y"},
		{"X", "f(g(1), Y)", "X := f(g(1), Y)"},
		{"f(X)", "f(1)", "X := 1"},
		{"f(X, g(Y))", "f(1, g(a))", "X := 1; Y := a"},
		{"f(X, a, g(2, Y))", "f(h(Z), a, g(2, f(a)))", "X := h(Z); Y := f(a)"},
		{"add(num(N), num(M))", "add(num(3), num(0))", "M := 0; N := 3"},
		{"plus(N, times(2, M))", "plus(plus(1, 2), times(2, 3))", "M := 3; N := plus(1, 2)"},
		{"f(f(f(X)))", "f(f(f(f(1))))", "X := f(1)"},
		// Patterns without variables, and terms that are equal.
		{"a", "a", ""},
		{"0", "0", ""},
		{"f(a, g(3))", "f(a, g(3))", ""},
		{"X", "X", "X := X"},
		{"f(X, g(Y, X))", "f(X, g(Y, X))", "X := X; Y := Y"},
		// A variable that occurs several times.
		{"f(X, X)", "f(1, 1)", "X := 1"},
		{"f(X, X)", "f(Y, Y)", "X := Y"},
		{"f(X, g(X, Y), X)", "f(h(1), g(h(1), h(1)), h(1))", "X := h(1); Y := h(1)"},
		{"f(g(h(X)), X)", "f(g(h(k(a, 2))), k(a, 2))", "X := k(a, 2)"},
		// The variables of the term are like constants, also those with the name of a variable of the pattern.
		{"f(X, Y)", "f(Y, X)", "X := Y; Y := X"},
		{"f(X, Y)", "f(Y, 1)", "X := Y; Y := 1"},
		{"f(X, Y)", "f(g(X), X)", "X := g(X); Y := X"},
		{"X", "f(X)", "X := f(X)"},
		{"f(X, X)", "f(g(X), g(X))", "X := g(X)"},
		{"f(X, Y, Z)", "f(Y, Z, X)", "X := Y; Y := Z; Z := X"},
		{"f(X, g(X))", "f(Y, g(Y))", "X := Y"},
		// The order is that of the names, whatever the order in the pattern.
		{"f(Z, Y, X)", "f(1, 2, 3)", "X := 3; Y := 2; Z := 1"},
		{"f(g(h(X)), W)", "f(g(h(1)), 2)", "W := 2; X := 1"},
		{"f(W, g(h(X)))", "f(2, g(h(1)))", "W := 2; X := 1"},
		{"f(X2, X10, X, Xa, A, X1)", "f(2, 1, 0, a, 3, b)", "A := 3; X := 0; X1 := b; X10 := 1; X2 := 2; Xa := a"},
		{"f(B, g(D, E), C, A, F)", "f(1, g(3, 0), 2, 0, 1)", "A := 0; B := 1; C := 2; D := 3; E := 0; F := 1"},
	} {
		checkMatched(t, must(t, c.pattern), must(t, c.term), binds(t, c.want))
	}
}

func TestTermsThatDoNotMatch(t *testing.T) {
	for _, c := range []struct{ pattern, term string }{
		// Kinds, words, names, numbers of arguments.
		{"a", "X"},
		{"a", "1"},
		{"1", "a"},
		{"1", "X"},
		{"1", "2"},
		{"0", "3"},
		{"a", "b"},
		{"a", "a(1)"},
		{"a(1)", "a"},
		{"f(X)", "X"},
		{"f(X)", "a"},
		{"f(X)", "g(X)"},
		{"f(X)", "f(X, Y)"},
		{"f(X)", "f(1, 1)"},
		{"f(X, Y)", "f(X)"},
		{"f(X, X)", "f(1)"},
		{"f(X, Y)", "f"},
		{"f", "f(X)"},
		{"f(X)", "1"},
		{"f(X)", "ff(X)"},
		// Only a later argument differs, or one further down.
		{"f(X, a)", "f(1, b)"},
		{"f(X, Y, 1)", "f(a, b, 2)"},
		{"f(a, X)", "f(b, 1)"},
		{"f(X, g(Y, h(2)))", "f(X, g(Y, h(3)))"},
		{"f(g(X), g(X, Y))", "f(g(X), g(X))"},
		{"f(f(f(X)))", "f(f(X))"},
		{"f(X, g(a), Y)", "f(1, g(g(a)), 2)"},
		// A variable with two terms.
		{"f(X, X)", "f(1, 2)"},
		{"f(X, X)", "f(1, a)"},
		{"f(X, X)", "f(Y, Z)"},
		{"f(X, X)", "f(X, Y)"},
		{"f(X, X)", "f(Y, X)"},
		{"f(X, X)", "f(X, 1)"},
		{"f(X, Y, X)", "f(1, 1, 0)"},
		{"f(X, X, X)", "f(1, 1, 0)"},
		{"f(X, X, X)", "f(0, 1, 1)"},
		{"f(X, X, X)", "f(0, 1, 0)"},
		{"f(X, g(X))", "f(g(1), g(1))"},
		{"f(X, g(X))", "f(X, g(g(X)))"},
		{"f(X, X)", "f(g(a, b), g(a, c))"},
		{"f(X, Y, g(Y, X))", "f(1, 2, g(1, 2))"},
		// The variables of the term are not replaced.
		{"f(a, X)", "f(Y, 1)"},
		{"f(1)", "f(X)"},
		{"f(X, a)", "f(a, X)"},
		{"f(X, g(1))", "f(g(1), X)"},
		{"f(X, f(X, X))", "f(Y, f(X, Y))"},
		{"f(X, a)", "f(X, Y)"},
	} {
		checkNotMatched(t, must(t, c.pattern), must(t, c.term))
	}
}

// matchedTerms returns the terms of up to three levels of X, Y, a word and two operators; the first ones are the smallest.
func matchedTerms() []impl.Term {
	level := []impl.Term{variable("X"), variable("Y"), word(1)}
	for _, p := range level[:3] {
		level = append(level, operator("f", p))
		for _, q := range level[:3] {
			level = append(level, operator("g", p, q))
		}
	}
	all := slices.Clone(level)
	for _, p := range level[3:] {
		all = append(all, operator("f", p))
		for _, q := range level {
			all = append(all, operator("g", p, q))
		}
		for _, q := range level[:3] {
			all = append(all, operator("g", q, p))
		}
	}
	return all
}

func checkAsMatched(t *testing.T, pattern, term impl.Term) bool {
	t.Helper()
	want, isMatched := plainMatch(pattern, term)
	if got, ok := impl.MatchTerm(pattern, term); ok != isMatched || !sameBinds(got, want) {
		t.Fatalf("MatchTerm(%v, %v) = %v, %v, want %v, %v", pattern, term, got, ok, want, isMatched)
	}
	if impl.IsInstance(term, pattern) != isMatched {
		t.Fatalf("IsInstance(%v, %v) is not %v", term, pattern, isMatched)
	}
	return isMatched
}

func TestMatchesMakeTermsEqual(t *testing.T) {
	all := matchedTerms()
	matched := 0
	for _, pattern := range all {
		for _, term := range all {
			if !checkAsMatched(t, pattern, term) {
				continue
			}
			matched++
			got, _ := impl.MatchTerm(pattern, term)
			if made := impl.ApplySubst(got, pattern); !equalTerms(made, term) {
				t.Fatalf("%v makes %v into %v, not into %v", got, pattern, made, term)
			}
			if !slices.Equal(plainNames(got), impl.VarsOfTerm(pattern)) {
				t.Fatalf("MatchTerm(%v, %v) = %v", pattern, term, got)
			}
		}
	}
	if matched < 1000 {
		t.Errorf("only %d terms match", matched)
	}
}

// TestMatchesThatThereAreNot tries all substitutions of X and Y by subterms, instead of comparing a pattern with a term.
func TestMatchesThatThereAreNot(t *testing.T) {
	for i, pattern := range matchedTerms() {
		for j, term := range matchedTerms() {
			if (i+j)%7 != 0 {
				continue
			}
			isMatched := false
			for _, p := range positionsBelow(term) {
				for _, q := range positionsBelow(term) {
					list := []impl.Bind{{Name: "X", Term: *placeIn(&term, p)}, {Name: "Y", Term: *placeIn(&term, q)}}
					isMatched = isMatched || equalTerms(plainApply(list, pattern), term)
				}
			}
			if _, ok := impl.MatchTerm(pattern, term); ok != isMatched {
				t.Fatalf("MatchTerm(%v, %v) gives %v", pattern, term, ok)
			}
		}
	}
}

func TestMatchesAreFoundAgain(t *testing.T) {
	lists := substitutions(t)
	for _, pattern := range substitutedTerms() {
		for _, list := range lists {
			term := plainApply(list, pattern)
			got, ok := impl.MatchTerm(pattern, term)
			if !ok || !equalTerms(impl.ApplySubst(got, pattern), term) {
				t.Fatalf("MatchTerm(%v, %v) = %v, %v", pattern, term, got, ok)
			}
			for _, bind := range got {
				if made, isReplaced := plainFind(list, bind.Name); isReplaced && !equalTerms(bind.Term, made) {
					t.Fatalf("MatchTerm(%v, %v) = %v, but the term was made by %v", pattern, term, got, list)
				}
			}
		}
	}
}

func TestUnifyTerms(t *testing.T) {
	for _, c := range []struct{ a, b, want string }{
		{"a", "a", ""},
		{"2", "2", ""},
		{"X", "X", ""},
		{"f(X, g(1, a))", "f(X, g(1, a))", ""},
		{"X", "a", "X := a"},
		{"a", "X", "X := a"},
		{"X", "3", "X := 3"},
		{"3", "X", "X := 3"},
		{"X", "f(Y, 1)", "X := f(Y, 1)"},
		{"f(Y, 1)", "X", "X := f(Y, 1)"},
		{"f(X)", "f(1)", "X := 1"},
		{"f(1)", "f(X)", "X := 1"},
		{"f(X, b)", "f(a, Y)", "X := a; Y := b"},
		{"f(a, g(X, 2))", "f(Y, g(h(Z), W))", "W := 2; X := h(Z); Y := a"},
		{"f(g(X, a), h(Y))", "f(g(1, a), h(h(2)))", "X := 1; Y := h(2)"},
		// Of two variables that meet, the one of the left side is replaced.
		{"X", "Y", "X := Y"},
		{"Y", "X", "Y := X"},
		{"f(X, Y)", "f(Y, X)", "X := Y"},
		{"f(Y, X)", "f(X, Y)", "Y := X"},
		{"f(X, Y)", "f(Z, Z)", "X := Z; Y := Z"},
		{"f(Z, Z)", "f(X, Y)", "X := Y; Z := Y"},
		{"f(X, X)", "f(Y, Z)", "X := Z; Y := Z"},
		{"f(X, Y)", "f(Y, Z)", "X := Z; Y := Z"},
		{"f(X, Y, Z)", "f(Y, Z, X)", "X := Z; Y := Z"},
		{"f(X, Y, Z)", "f(Z, X, Y)", "X := Z; Y := Z"},
		{"f(X, X, X)", "f(A, B, C)", "A := C; B := C; X := C"},
		// A variable and itself, alone and beside others.
		{"f(X, X)", "f(X, X)", ""},
		{"f(X, X)", "f(X, Y)", "X := Y"},
		{"f(X, X)", "f(Y, X)", "X := Y"},
		{"f(X, Y)", "f(X, X)", "Y := X"},
		{"f(X, 1)", "f(X, Y)", "Y := 1"},
		{"f(X, g(X))", "f(X, g(1))", "X := 1"},
		// Equations that the substitution changes: both sides of them, and its own terms.
		{"f(X, X)", "f(1, Y)", "X := 1; Y := 1"},
		{"f(X, X)", "f(Y, 1)", "X := 1; Y := 1"},
		{"f(X, Y)", "f(g(Y), a)", "X := g(a); Y := a"},
		{"f(Y, X)", "f(a, g(Y))", "X := g(a); Y := a"},
		{"f(X, g(X))", "f(g(Y), Z)", "X := g(Y); Z := g(g(Y))"},
		{"f(X, Y, Z)", "f(g(Y), g(Z), 1)", "X := g(g(1)); Y := g(1); Z := 1"},
		{"f(Z, Y, X)", "f(1, g(Z), g(Y))", "X := g(g(1)); Y := g(1); Z := 1"},
		{"f(X, X)", "f(g(Y, 1), g(2, Z))", "X := g(2, 1); Y := 2; Z := 1"},
		{"f(X, Y, X)", "f(g(A, B), g(B, A), Y)", "A := B; X := g(B, B); Y := g(B, B)"},
		{"f(X, Y, g(X, Y))", "f(g(A), g(B), g(Y, g(1)))", "A := 1; B := 1; X := g(1); Y := g(1)"},
		{"f(X, h(X, Y), Y)", "f(Y, h(Z, 3), W)", "W := 3; X := 3; Y := 3; Z := 3"},
		// The first argument with all below it comes before the second one.
		{"f(g(X), X)", "f(g(Y), Z)", "X := Z; Y := Z"},
		{"f(X, g(X))", "f(Z, g(Y))", "X := Y; Z := Y"},
		{"f(g(h(X), X), X)", "f(g(h(A), B), C)", "A := C; B := C; X := C"},
		{"f(X, g(X, h(X)))", "f(A, g(B, h(C)))", "A := C; B := C; X := C"},
		{"f(g(A, B), g(B, C))", "f(g(B, C), g(C, D))", "A := D; B := D; C := D"},
		{"f(g(1, X), Y)", "f(g(X, Y), Z)", "X := 1; Y := 1; Z := 1"},
		{"f(X, g(Y))", "f(h(Y, Z), g(Z))", "X := h(Z, Z); Y := Z"},
		{"f(X, g(Z))", "f(h(Y, Z), g(Y))", "X := h(Y, Y); Z := Y"},
		// All variables of both terms that are replaced, in the order of their names.
		{"f(Z, Y, X)", "f(1, 2, 3)", "X := 3; Y := 2; Z := 1"},
		{"f(1, B, 3, D)", "f(A, 2, C, 0)", "A := 1; B := 2; C := 3; D := 0"},
		{"f(X2, X10, X1, X)", "f(1, 1, 1, 1)", "X := 1; X1 := 1; X10 := 1; X2 := 1"},
		// The value of a variable may use another one twice.
		{"f(X, Y)", "f(g(Y, Y), g(Z, Z))", "X := g(g(Z, Z), g(Z, Z)); Y := g(Z, Z)"},
		{"add(X, num(plus(N, 1)))", "add(num(M), X)", "M := plus(N, 1); X := num(plus(N, 1))"},
	} {
		checkUnified(t, must(t, c.a), must(t, c.b), binds(t, c.want))
	}
}

func TestTermsWithoutUnifier(t *testing.T) {
	for _, c := range []struct{ a, b string }{
		{"a", "b"},
		{"a", "1"},
		{"1", "2"},
		{"a", "a(1)"},
		{"a", "a(X)"},
		{"f(X)", "g(X)"},
		{"f(X)", "g(Y)"},
		{"f(X)", "f(X, X)"},
		{"f(X, Y)", "f(Z)"},
		{"f(X)", "2"},
		{"f(X, a)", "f(Y, b)"},
		{"f(X, Y, 1)", "f(1, 1, 2)"},
		{"f(g(X), a)", "f(g(1), h(X))"},
		{"f(a, X)", "f(b, X)"},
		{"f(X, g(1))", "f(X, g(2))"},
		// Equations that only the substitution makes wrong.
		{"f(X, X)", "f(1, 2)"},
		{"f(X, X)", "f(a, g(Y))"},
		{"f(X, Y, X)", "f(1, 2, Y)"},
		{"f(X, Y, g(X))", "f(Y, 1, g(2))"},
		{"f(X, Y, Z, 1)", "f(Y, Z, 2, X)"},
		{"f(1, 2)", "f(X, X)"},
		{"f(g(X), X)", "f(g(1), a)"},
		// Variables that occur in their own value, at once and after other equations.
		{"X", "f(X)"},
		{"X", "g(1, f(X))"},
		{"f(X)", "f(f(X))"},
		{"f(X, X)", "f(Y, g(Y))"},
		{"f(Y, g(Y))", "f(X, X)"},
		{"f(X, Y)", "f(g(Y), g(X))"},
		{"f(X, Y)", "f(Y, g(X))"},
		{"f(X, Y, Z)", "f(g(Y), g(Z), g(X))"},
		{"f(X, Y, Z)", "f(Y, Z, g(X))"},
		{"f(g(X), Y)", "f(Y, X)"},
		{"f(X, g(X))", "f(g(Y), Y)"},
		{"f(X, h(X))", "f(Y, h(k(1, Y)))"},
		{"h(X, X)", "h(g(Y, a), g(g(1, Y), Z))"},
		{"f(X, Y, X)", "f(g(A), g(X), A)"},
	} {
		checkNotUnified(t, must(t, c.a), must(t, c.b))
		checkNotUnified(t, must(t, c.b), must(t, c.a))
	}
}

func checkAsUnified(t *testing.T, a, b impl.Term) bool {
	t.Helper()
	want, isUnified := plainUnify(a, b)
	if got, ok := impl.UnifyTerms(a, b); ok != isUnified || !sameBinds(got, want) {
		t.Fatalf("UnifyTerms(%v, %v) = %v, %v, want %v, %v", a, b, got, ok, want, isUnified)
	}
	return isUnified
}

func TestUnifiersMakeTermsEqual(t *testing.T) {
	all := matchedTerms()
	unified := 0
	for _, a := range all {
		for _, b := range all {
			if !checkAsUnified(t, a, b) {
				continue
			}
			unified++
			got, _ := impl.UnifyTerms(a, b)
			left, right := impl.ApplySubst(got, a), impl.ApplySubst(got, b)
			if !equalTerms(left, right) {
				t.Fatalf("%v makes %v and %v into %v and %v", got, a, b, left, right)
			}
			// Nothing is left to replace in its terms.
			if again := impl.ApplySubst(got, left); !equalTerms(again, left) {
				t.Fatalf("%v changes %v to %v", got, left, again)
			}
		}
	}
	if unified < 1000 {
		t.Errorf("only %d pairs have a unifier", unified)
	}
}

// TestUnifiersAreMostGeneral tries many substitutions of X and Y: each one that makes two terms equal must be an instance of the unifier.
func TestUnifiersAreMostGeneral(t *testing.T) {
	var tried [][]impl.Bind
	values := []string{"X", "Y", "1", "f(X)", "f(Y)", "f(1)", "f(f(1))", "g(1, 1)", "g(X, Y)", "g(1, f(1))", "g(f(1), 1)", "f(g(1, 1))", "g(f(1), f(1))", "f(f(f(1)))"}
	for _, x := range values {
		for _, y := range values {
			tried = append(tried, binds(t, "X := "+x+"; Y := "+y))
		}
	}
	all := matchedTerms()
	found := 0
	for i, a := range all {
		for j, b := range all {
			if (i+j)%19 != 0 {
				continue
			}
			unifier, ok := impl.UnifyTerms(a, b)
			for _, list := range tried {
				if !equalTerms(plainApply(list, a), plainApply(list, b)) {
					continue
				}
				found++
				if !ok {
					t.Fatalf("UnifyTerms(%v, %v) finds none, but there is %v", a, b, list)
				}
				for _, name := range []string{"X", "Y"} {
					if !equalTerms(plainApply(list, plainImage(unifier, name)), plainImage(list, name)) {
						t.Fatalf("UnifyTerms(%v, %v) = %v, but %v is no instance of it", a, b, unifier, list)
					}
				}
			}
		}
	}
	if found < 1000 {
		t.Errorf("only %d substitutions make terms equal", found)
	}
}

// TestUnifiersOfManyEquations compares terms of several variables that meet in all orders.
func TestUnifiersOfManyEquations(t *testing.T) {
	var sides []impl.Term
	for _, text := range []string{"X", "Y", "Z", "1", "f(Y)", "g(Z, Y)", "g(f(X), Z)"} {
		sides = append(sides, must(t, text))
	}
	x, y, z := sides[0], sides[1], sides[2]
	unified := 0
	for _, p := range sides {
		for _, q := range sides {
			for _, r := range sides {
				for _, left := range [][]impl.Term{{x, y, z}, {z, x, x}, {y, sides[5], x}, {sides[6], y, z}} {
					a, b := operator("k", left...), operator("k", p, q, r)
					for _, isUnified := range []bool{checkAsUnified(t, a, b), checkAsUnified(t, b, a)} {
						if isUnified {
							unified++
						}
					}
					checkAsUnified(t, operator("k", left[0], operator("h", left[1:]...)), operator("k", p, operator("h", q, r)))
				}
			}
		}
	}
	if unified < 300 {
		t.Errorf("only %d pairs have a unifier", unified)
	}
}

// growing returns terms whose unifier gives the variable X1 3 nodes, X2 7, X3 15 and so on, with more equations before or after these.
func growing(count int, isBackward bool, more ...[2]impl.Term) (impl.Term, impl.Term) {
	var left, right []impl.Term
	for i := range count {
		x := variable("X" + impl.FormatInt(i))
		left = append(left, variable("X"+impl.FormatInt(i+1)))
		right = append(right, operator("g", x, x))
	}
	for _, equation := range more {
		left, right = append(left, equation[0]), append(right, equation[1])
	}
	if isBackward {
		slices.Reverse(left)
		slices.Reverse(right)
	}
	return operator("f", left...), operator("f", right...)
}

func TestUnifiersThatGrow(t *testing.T) {
	for _, isBackward := range []bool{false, true} {
		for count := range 9 {
			a, b := growing(count, isBackward)
			for _, isUnified := range []bool{checkAsUnified(t, a, b), checkAsUnified(t, b, a)} {
				if isUnified != (count <= 7) {
					t.Errorf("UnifyTerms with %d equations gives %v", count, isUnified)
				}
			}
		}
		// Far too many, in valid terms and in others.
		for _, count := range []int{9, 19, 29, 100, 5000} {
			a, b := growing(count, isBackward)
			checkNotUnified(t, a, b)
			checkNotUnified(t, b, a)
		}
	}
}

// TestLargestTermsOfUnifiers uses valid terms: X7 has 255 nodes, X6 127 and X3 15, so that a further operator around them reaches the limit.
func TestLargestTermsOfUnifiers(t *testing.T) {
	h := must(t, "h(X7, X6, X3, a, a)")
	larger := must(t, "h(X7, X6, X3, a, a, a)")
	y := variable("Y")
	for _, isBackward := range []bool{false, true} {
		a, b := growing(7, isBackward, [2]impl.Term{y, h})
		if !impl.IsValidTerm(a) || !impl.IsValidTerm(b) {
			t.Fatal("the terms are not valid")
		}
		for _, pair := range [][2]impl.Term{{a, b}, {b, a}} {
			got, ok := impl.UnifyTerms(pair[0], pair[1])
			if !ok || len(got) != 8 || got[7].Name != "Y" || plainCount(got[7].Term) != 400 {
				t.Errorf("UnifyTerms gives %v, %v", len(got), ok)
			}
			checkAsUnified(t, pair[0], pair[1])
		}
		a, b = growing(7, isBackward, [2]impl.Term{y, larger})
		checkNotUnified(t, a, b)
		checkNotUnified(t, b, a)
		checkAsUnified(t, a, b)
		// The limit is one for the terms of the substitution, not for the sides of equations.
		a, b = growing(7, isBackward, [2]impl.Term{y, h}, [2]impl.Term{operator("k", y, y, y), operator("k", y, h, h)})
		checkAsUnified(t, a, b)
		if got, ok := impl.UnifyTerms(a, b); !ok || len(got) != 8 {
			t.Errorf("UnifyTerms gives %v, %v", len(got), ok)
		}
	}
	// A further variable may have one node more than the limit only in a term that is not one of the substitution.
	a, b := growing(7, false, [2]impl.Term{y, h}, [2]impl.Term{operator("k", y), operator("k", variable("Z"))})
	checkAsUnified(t, a, b)
	a, b = growing(7, false, [2]impl.Term{y, h}, [2]impl.Term{variable("Z"), operator("k", y)})
	checkNotUnified(t, a, b)
}

func TestLargeTermsWithoutMuchToUnify(t *testing.T) {
	for _, c := range []struct {
		count     int
		isUnified bool
	}{{1, true}, {398, true}, {399, true}, {400, false}, {401, false}, {5000, false}} {
		wide := operator("f", constants(c.count)...)
		for _, pair := range [][2]impl.Term{{variable("X"), wide}, {wide, variable("X")}} {
			if c.isUnified {
				checkUnified(t, pair[0], pair[1], []impl.Bind{{Name: "X", Term: wide}})
			} else {
				checkNotUnified(t, pair[0], pair[1])
			}
			// Whatever stands beside it, and whether it is reached first or last.
			for _, other := range []impl.Term{word(1), variable("Z")} {
				a, b := operator("g", pair[0], variable("Y"), pair[0]), operator("g", pair[1], other, pair[1])
				if isUnified := checkAsUnified(t, a, b); isUnified != c.isUnified {
					t.Errorf("UnifyTerms with a term of %d nodes gives %v", c.count+1, isUnified)
				}
				checkAsUnified(t, operator("g", variable("Y"), pair[0]), operator("g", other, pair[1]))
			}
		}
		// Without a variable to replace, no term is too large.
		checkUnified(t, wide, wide, nil)
		checkUnified(t, operator("g", wide, variable("X")), operator("g", wide, word(1)), binds(t, "X := 1"))
		checkMatched(t, variable("X"), wide, []impl.Bind{{Name: "X", Term: wide}})
		checkMatched(t, operator("g", variable("X"), variable("X")), operator("g", wide, wide), []impl.Bind{{Name: "X", Term: wide}})
	}
}

// TestUnifiersThatShrink uses a variable that is not valid, since it has Args: where it is replaced, these go.
func TestUnifiersThatShrink(t *testing.T) {
	x, z, one := variable("X"), variable("Z"), word(1)
	for _, c := range []struct {
		count     int
		isUnified bool
	}{{398, true}, {399, false}} {
		h := operator("h", impl.Term{Kind: impl.TmVar, Name: "X", Args: constants(c.count)})
		first, then := operator("f", z, x), operator("f", h, one)
		if isUnified := checkAsUnified(t, first, then); isUnified != c.isUnified {
			t.Errorf("UnifyTerms with a term of %d nodes that loses them gives %v", c.count+2, isUnified)
		}
		checkAsUnified(t, then, first)
		// The other way round they are lost before they become a part of the substitution.
		checkUnified(t, operator("f", x, z), operator("f", one, h), binds(t, "X := 1; Z := h(1)"))
		checkAsUnified(t, operator("f", one, h), operator("f", x, z))
	}
}

func TestInstancesAndVariants(t *testing.T) {
	for _, c := range []struct {
		a, b                       string
		isInstance, isInstanceBack bool
	}{
		{"a", "a", true, true},
		{"1", "1", true, true},
		{"X", "X", true, true},
		{"f(X, g(Y, X))", "f(X, g(Y, X))", true, true},
		// Renamings, also ones that exchange two names.
		{"X", "Y", true, true},
		{"f(X)", "f(Y)", true, true},
		{"f(X, Y)", "f(Y, X)", true, true},
		{"f(X, Y, Z)", "f(Y, Z, X)", true, true},
		{"f(X, g(Y, X), 1)", "f(B, g(A, B), 1)", true, true},
		{"f(X, g(Y, X))", "f(Y, g(X, Y))", true, true},
		{"f(X, X)", "f(Y, Y)", true, true},
		// Instances that are no variants.
		{"a", "X", true, false},
		{"2", "X", true, false},
		{"f(X)", "X", true, false},
		{"f(Y)", "X", true, false},
		{"f(X, Y)", "X", true, false},
		{"f(1)", "f(X)", true, false},
		{"f(g(X))", "f(X)", true, false},
		{"f(X, 1)", "f(X, Y)", true, false},
		{"f(1, 1)", "f(X, X)", true, false},
		// Two variables that become one.
		{"f(X, X)", "f(X, Y)", true, false},
		{"f(Z, Z)", "f(X, Y)", true, false},
		{"f(X, g(X, Y))", "f(X, g(Y, Z))", true, false},
		{"f(X, g(Y, Y))", "f(X, g(Y, Z))", true, false},
		// Neither of them, although each has a part that is an instance.
		{"f(1, 2)", "f(X, X)", false, false},
		{"f(X, X, Y)", "f(X, Y, Y)", false, false},
		{"f(X, 1)", "f(1, X)", false, false},
		{"f(X, Y, X)", "f(X, X, Y)", false, false},
		{"a", "b", false, false},
		{"a", "1", false, false},
		{"1", "2", false, false},
		{"f(X)", "g(X)", false, false},
		{"f(X)", "f(X, Y)", false, false},
		{"f(X, a)", "f(Y, b)", false, false},
	} {
		a, b := must(t, c.a), must(t, c.b)
		checkInstance(t, a, b, c.isInstance)
		checkInstance(t, b, a, c.isInstanceBack)
		checkVariant(t, a, b, c.isInstance && c.isInstanceBack)
		checkVariant(t, a, a, true)
		checkInstance(t, b, b, true)
	}
}

func TestVariantsAreRenamings(t *testing.T) {
	all := matchedTerms()
	variants := 0
	for _, a := range all {
		for _, b := range all {
			want := plainVariant(map[string]string{}, map[string]string{}, a, b)
			if impl.IsVariant(a, b) != want {
				t.Fatalf("IsVariant(%v, %v) is not %v", a, b, want)
			}
			if want && !equalTerms(a, b) {
				variants++
			}
		}
		checkVariant(t, a, impl.RenameVars(a, "2"), true)
		checkVariant(t, a, plainApply(binds(t, "X := Y; Y := X"), a), true)
		checkVariant(t, a, plainApply(binds(t, "X := Z; Y := X"), a), true)
		if vars := impl.VarsOfTerm(a); len(vars) > 0 {
			isRenamed := len(vars) == 1
			checkVariant(t, a, plainApply(binds(t, "X := Z; Y := Z"), a), isRenamed)
			checkVariant(t, a, plainApply(binds(t, "X := f(X); Y := 1"), a), false)
		}
	}
	if variants < 100 {
		t.Errorf("only %d pairs are variants", variants)
	}
}

// strangeNodes returns nodes of all kinds that fill all fields in all ways.
func strangeNodes() []impl.Term {
	x, y := variable("X"), variable("Y")
	var all []impl.Term
	for _, kind := range []int{impl.TmVar, impl.TmApp, impl.TmWord, 0, 4} {
		for _, n := range []int{0, 1} {
			for _, name := range []string{"X", "f"} {
				for _, args := range [][]impl.Term{nil, {x}, {word(1)}, {y}, {operator("f", y)}} {
					all = append(all, impl.Term{Kind: kind, N: n, Name: name, Args: args})
				}
			}
		}
	}
	return all
}

func TestMatchesOfTermsThatAreNotValid(t *testing.T) {
	all := slices.Concat(strangeNodes(), invalidTerms(), manyTerms())
	for _, pattern := range all {
		for _, term := range all {
			checkAsMatched(t, pattern, term)
			if _, ok := plainMatch(term, pattern); impl.IsVariant(pattern, term) != (ok && impl.IsInstance(term, pattern)) {
				t.Fatalf("IsVariant(%v, %v) is not what the instances say", pattern, term)
			}
		}
	}
	for _, pattern := range strangeNodes() {
		for _, term := range strangeNodes() {
			checkAsMatched(t, operator("g", pattern, variable("X")), operator("g", term, word(1)))
			checkAsMatched(t, operator("g", variable("Y"), pattern), operator("g", word(1), term))
		}
	}
}

func TestUnifiersOfTermsThatAreNotValid(t *testing.T) {
	x, y, z := variable("X"), variable("Y"), variable("Z")
	all := slices.Concat(invalidTerms(), strangeNodes())
	for _, a := range all {
		for _, b := range all {
			checkAsUnified(t, a, b)
		}
	}
	for _, a := range strangeNodes() {
		for _, b := range strangeNodes() {
			checkAsUnified(t, operator("g", a, x), operator("g", b, word(2)))
			checkAsUnified(t, operator("g", x, a), operator("g", word(1), b))
			checkAsUnified(t, operator("g", y, a), operator("g", word(1), b))
			checkAsUnified(t, operator("g", x, a), operator("g", operator("f", y), b))
			checkAsUnified(t, operator("g", y, x, a), operator("g", x, z, b))
			checkAsUnified(t, operator("g", a, b), operator("g", z, z))
			checkAsUnified(t, operator("g", z, b, y), operator("g", a, z, word(1)))
		}
	}
}

func TestMatchesThatTheKindsDecide(t *testing.T) {
	x, one := variable("X"), word(1)
	argued := impl.Term{Kind: impl.TmVar, N: 7, Name: "X", Args: []impl.Term{variable("Y"), one}}
	for _, name := range []string{"", "a", "\xff\x00", "Xx_", strings.Repeat("X", 1000)} {
		v := variable(name)
		checkMatched(t, v, one, []impl.Bind{{Name: name, Term: one}})
		checkMatched(t, operator(name, v), operator(name, v), []impl.Bind{{Name: name, Term: v}})
		checkNotMatched(t, operator("f", v, v), operator("f", one, operator("a")))
		checkNotMatched(t, operator(name), v)
		checkUnified(t, v, one, []impl.Bind{{Name: name, Term: one}})
		checkUnified(t, operator(name, one), operator(name, v), []impl.Bind{{Name: name, Term: one}})
		checkUnified(t, operator(name, v), operator(name, v), nil)
		checkNotUnified(t, operator("f", v), operator("f", operator("f", v)))
		checkNotUnified(t, operator("f"), operator("f"+name+" "))
	}
	// Names come in the order of their bytes, whatever they are.
	checkMatched(t, operator("f", variable("\xff"), variable("a"), variable(""), variable("B")), operator("f", word(0), word(1), word(2), word(3)),
		[]impl.Bind{{Name: "", Term: word(2)}, {Name: "B", Term: word(3)}, {Name: "a", Term: word(1)}, {Name: "\xff", Term: word(0)}})
	// A variable stands for a term with all that is below it, and what is below the variable itself is not looked at.
	checkMatched(t, argued, operator("f", x), []impl.Bind{{Name: "X", Term: operator("f", x)}})
	checkMatched(t, x, argued, []impl.Bind{{Name: "X", Term: argued}})
	checkMatched(t, operator("f", argued, x), operator("f", one, one), []impl.Bind{{Name: "X", Term: one}})
	checkMatched(t, operator("f", x, x), operator("f", argued, argued), []impl.Bind{{Name: "X", Term: argued}})
	checkNotMatched(t, operator("f", x, x), operator("f", argued, x))
	checkNotMatched(t, operator("f", argued, x), operator("f", one, word(2)))
	// Below other nodes, variables are replaced as everywhere.
	for _, kind := range []int{impl.TmWord, 0, 4, -1, math.MinInt, math.MaxInt} {
		whole := impl.Term{Kind: kind, N: 3, Name: "Q", Args: []impl.Term{x, operator("f", variable("Y"))}}
		made := plainApply(binds(t, "X := 1; Y := Z"), whole)
		checkMatched(t, whole, made, binds(t, "X := 1; Y := Z"))
		for _, other := range []impl.Term{{Kind: kind, N: 2, Name: "Q", Args: made.Args}, {Kind: kind, N: 3, Name: "R", Args: made.Args}, {Kind: kind, N: 3, Name: "Q", Args: made.Args[:1]}, {Kind: kind, N: 3, Name: "Q"}, {Kind: impl.TmApp, N: 3, Name: "Q", Args: made.Args}} {
			checkNotMatched(t, whole, other)
			checkNotMatched(t, other, whole)
		}
	}
	checkMatched(t, impl.Term{}, impl.Term{}, nil)
	checkMatched(t, x, impl.Term{}, []impl.Bind{{Name: "X"}})
	checkNotMatched(t, impl.Term{}, x)
	checkNotMatched(t, impl.Term{Kind: impl.TmApp, N: 1, Name: "f"}, operator("f"))
	checkNotMatched(t, impl.Term{Kind: impl.TmWord, N: 1, Name: "X"}, one)
	checkVariant(t, argued, x, true)
	checkVariant(t, argued, one, false)
}

func TestUnifiersThatTheKindsDecide(t *testing.T) {
	x, y, one := variable("X"), variable("Y"), word(1)
	argued := impl.Term{Kind: impl.TmVar, N: 7, Name: "X", Args: []impl.Term{y, one}}
	// A variable stands for a term with all that is below it.
	checkUnified(t, argued, one, binds(t, "X := 1"))
	checkUnified(t, operator("f", argued), operator("f", operator("a")), binds(t, "X := a"))
	checkUnified(t, argued, y, binds(t, "X := Y"))
	checkUnified(t, operator("f", argued, x), operator("f", one, one), binds(t, "X := 1"))
	checkUnified(t, argued, argued, nil)
	// It occurs in what has its name, also where that stands below a variable or a word.
	checkNotUnified(t, argued, x)
	checkNotUnified(t, x, argued)
	checkNotUnified(t, y, argued)
	checkNotUnified(t, variable("X"), impl.Term{Kind: impl.TmVar, N: 1, Name: "X"})
	checkNotUnified(t, x, impl.Term{Kind: impl.TmWord, Args: []impl.Term{x}})
	checkNotUnified(t, x, impl.Term{Kind: 4, Args: []impl.Term{operator("f", x)}})
	// Terms that are no applications are not divided, but the substitution may have made them equal.
	for _, kind := range []int{impl.TmWord, 0, 4, -1, math.MinInt, math.MaxInt} {
		above, other := impl.Term{Kind: kind, N: 2, Args: []impl.Term{x}}, impl.Term{Kind: kind, N: 2, Args: []impl.Term{one}}
		checkUnified(t, above, above, nil)
		checkNotUnified(t, above, other)
		checkUnified(t, operator("f", x, above), operator("f", one, other), binds(t, "X := 1"))
		checkNotUnified(t, operator("f", above, x), operator("f", other, one))
		checkNotUnified(t, operator("f", x, above), operator("f", y, other))
		checkUnified(t, y, above, []impl.Bind{{Name: "Y", Term: above}})
		checkUnified(t, operator("f", y, x), operator("f", above, one), []impl.Bind{{Name: "X", Term: one}, {Name: "Y", Term: other}})
	}
	// Only names and numbers of arguments of applications are compared: their N is not.
	numbered := impl.Term{Kind: impl.TmApp, N: 5, Name: "f", Args: []impl.Term{one, y}}
	if got, ok := impl.UnifyTerms(operator("f", x, x), numbered); !ok || !sameBinds(got, binds(t, "X := 1; Y := 1")) {
		t.Errorf("UnifyTerms of applications with another N gives %v, %v", got, ok)
	}
	checkUnified(t, impl.Term{}, impl.Term{}, nil)
	checkUnified(t, x, impl.Term{}, []impl.Bind{{Name: "X"}})
	checkNotUnified(t, impl.Term{}, one)
	checkNotUnified(t, impl.Term{Kind: impl.TmWord, N: 1, Name: "X"}, one)
	checkUnified(t, word(9), word(9), nil)
	checkNotUnified(t, word(9), word(-9))
}

func TestMatchesWithNilAndEmptyArgs(t *testing.T) {
	for _, kind := range []int{impl.TmVar, impl.TmApp, impl.TmWord, 0} {
		var forms []impl.Term
		for _, args := range [][]impl.Term{nil, {}, []impl.Term{word(1)}[:0]} {
			forms = append(forms, impl.Term{Kind: kind, N: 1, Name: "Q", Args: args})
		}
		for _, a := range forms {
			for _, b := range forms {
				checkAsMatched(t, a, b)
				checkVariant(t, a, b, true)
				checkUnified(t, a, b, nil)
				checkUnified(t, operator("f", a), operator("f", b), nil)
				checkMatched(t, operator("f", variable("X"), variable("X")), operator("f", a, b), []impl.Bind{{Name: "X", Term: a}})
			}
		}
	}
}

// matchedPairs returns patterns and terms of every form that give binds.
func matchedPairs(t *testing.T) [][2]impl.Term {
	t.Helper()
	var pairs [][2]impl.Term
	for _, pair := range [][2]string{
		{"X", "f(1, g(Y))"}, {"f(X, Y, X)", "f(g(Z), h(1, 2), g(Z))"}, {"f(X, g(Y))", "f(h(1, g(2)), g(h(a, b)))"},
		{"f(X, Y)", "f(g(Y, Y), g(Z, Z))"}, {"f(X, Y, Z)", "f(g(Y, 1), h(Z), k(a, 2, 3))"}, {"f(X, X)", "f(g(Y, h(1)), g(h(2), Z))"},
		{"f(a, g(1))", "f(a, g(1))"}, {"f(X, 1)", "f(g(a), 2)"}, {"X", "f(X)"}, {"f(g(Y, 1), g(X, Z))", "f(X, Y)"},
	} {
		pairs = append(pairs, [2]impl.Term{must(t, pair[0]), must(t, pair[1])})
	}
	for _, term := range append(invalidTerms(), nestedTerm(), chain(17, variable("Y"))) {
		pairs = append(pairs, [2]impl.Term{variable("Z"), term}, [2]impl.Term{operator("f", variable("Z"), variable("W")), operator("f", operator("g", variable("W"), term), term)})
	}
	return pairs
}

func TestMatchedTermsAreNotChanged(t *testing.T) {
	for _, pair := range matchedPairs(t) {
		a, b := termWithSpare(pair[0], variable("X")), termWithSpare(pair[1], variable("X"))
		keptA, keptB := deepClone(a), deepClone(b)
		checkAsMatched(t, a, b)
		checkAsMatched(t, b, a)
		checkAsUnified(t, a, b)
		checkAsUnified(t, b, a)
		impl.IsVariant(a, b)
		if !sameMemory(a, keptA) || !sameMemory(b, keptB) {
			t.Fatalf("%v or %v was changed to %v or %v", keptA, keptB, a, b)
		}
	}
}

func TestMatchesAndUnifiersShareNoMemory(t *testing.T) {
	for _, pair := range matchedPairs(t) {
		a, b := termWithSpare(pair[0], variable("X")), termWithSpare(pair[1], variable("X"))
		keptA, keptB := deepClone(a), deepClone(b)
		var results, want [][]impl.Bind
		for range 2 {
			matched, _ := impl.MatchTerm(a, b)
			wantMatched, _ := plainMatch(pair[0], pair[1])
			unified, _ := impl.UnifyTerms(a, b)
			wantUnified, _ := plainUnify(pair[0], pair[1])
			back, _ := impl.UnifyTerms(b, a)
			wantBack, _ := plainUnify(pair[1], pair[0])
			results = append(results, matched, unified, back)
			want = append(want, wantMatched, wantUnified, wantBack)
		}
		var terms []impl.Term
		for _, result := range results {
			for _, bind := range result {
				terms = append(terms, bind.Term)
			}
		}
		if sharesMemory(terms, []impl.Term{a, b}) {
			t.Fatalf("results for %v and %v share memory", pair[0], pair[1])
		}
		for i, result := range results {
			if !sameBinds(result, want[i]) {
				t.Fatalf("writing to results for %v and %v changes result %d to %v, want %v", pair[0], pair[1], i, result, want[i])
			}
			overwriteBinds(result)
		}
		if !sameMemory(a, keptA) || !sameMemory(b, keptB) {
			t.Fatalf("writing to the results for %v and %v changes them", keptA, keptB)
		}
	}
}

// TestPartsOfMatchesShareNoMemory uses terms in which the same memory occurs at several places.
func TestPartsOfMatchesShareNoMemory(t *testing.T) {
	x, y, z := variable("U"), variable("V"), variable("W")
	for _, shared := range sharedInside() {
		for _, pair := range [][2]impl.Term{
			{x, shared},
			{operator("f", x, y, operator("g", z)), operator("f", shared, shared, operator("g", shared.Args[0]))},
			{operator("f", x, y, y), operator("f", operator("h", y, y), z, shared)},
			{operator("f", x, x, y), operator("f", shared, z, operator("h", x, shared, x))},
		} {
			checkApart(t, func() impl.Term {
				matched, _ := impl.MatchTerm(pair[0], pair[1])
				return asTerm(matched)
			})
			checkApart(t, func() impl.Term {
				unified, _ := impl.UnifyTerms(pair[0], pair[1])
				return asTerm(unified)
			})
		}
	}
}

func TestMatchesOfDeepTerms(t *testing.T) {
	const size = 100000
	x, y, one := variable("X"), variable("Y"), word(1)
	deepX, deepY, deepOne, deepTwo := chain(size, x), chain(size, y), chain(size, one), chain(size, word(2))
	// A stack in which there is no room for a call for each level of a deep term.
	defer debug.SetMaxStack(debug.SetMaxStack(1 << 20))
	checkBind := func(what string, got []impl.Bind, ok bool, want impl.Term) {
		t.Helper()
		if !ok || len(got) != 1 || got[0].Name != "X" || !impl.EqualTerm(got[0].Term, want) {
			t.Errorf("%s of deep terms", what)
		}
	}
	checkNone := func(what string, got []impl.Bind, ok bool) {
		t.Helper()
		if ok || got != nil {
			t.Errorf("%s of deep terms that it should not accept", what)
		}
	}
	got, ok := impl.MatchTerm(deepX, deepOne)
	checkBind("MatchTerm", got, ok, one)
	got, ok = impl.MatchTerm(deepX, chain(2*size-1, y))
	checkBind("MatchTerm", got, ok, deepY)
	got, ok = impl.MatchTerm(operator("f", x, x), operator("f", deepOne, deepOne))
	checkBind("MatchTerm", got, ok, deepOne)
	got, ok = impl.MatchTerm(operator("f", x, x), operator("f", deepOne, deepTwo))
	checkNone("MatchTerm", got, ok)
	got, ok = impl.MatchTerm(deepOne, deepTwo)
	checkNone("MatchTerm", got, ok)
	got, ok = impl.UnifyTerms(deepX, deepOne)
	checkBind("UnifyTerms", got, ok, one)
	got, ok = impl.UnifyTerms(deepX, deepY)
	checkBind("UnifyTerms", got, ok, y)
	got, ok = impl.UnifyTerms(chain(size+399, one), deepX)
	checkBind("UnifyTerms", got, ok, chain(400, one))
	got, ok = impl.UnifyTerms(chain(size+400, one), deepX)
	checkNone("UnifyTerms", got, ok)
	got, ok = impl.UnifyTerms(deepX, chain(size+1, x))
	checkNone("UnifyTerms", got, ok)
	got, ok = impl.UnifyTerms(x, deepOne)
	checkNone("UnifyTerms", got, ok)
	got, ok = impl.UnifyTerms(deepOne, deepTwo)
	checkNone("UnifyTerms", got, ok)
	if got, ok := impl.UnifyTerms(deepX, deepX); !ok || len(got) != 0 {
		t.Error("UnifyTerms of equal deep terms")
	}
	if !impl.IsInstance(deepOne, deepX) || impl.IsInstance(deepX, deepOne) || !impl.IsVariant(deepX, deepY) || impl.IsVariant(deepX, deepOne) {
		t.Error("instances of deep terms")
	}
}

func TestMatchesOfManyVariables(t *testing.T) {
	const size = 100000
	var left, right, above, words []impl.Term
	for i := range size {
		left = append(left, variable("X"+impl.FormatInt(i)))
		right = append(right, variable("Y"+impl.FormatInt(i)))
		above = append(above, operator("g", right[i], word(i%4)))
		words = append(words, word(i%4))
	}
	x := operator("f", left...)
	checkAll := func(what string, got []impl.Bind, ok bool, want []impl.Term) {
		t.Helper()
		var list []impl.Bind
		for i := range want {
			list = append(list, impl.Bind{Name: left[i].Name, Term: want[i]})
		}
		slices.SortFunc(list, func(a, b impl.Bind) int { return strings.Compare(a.Name, b.Name) })
		if !ok || !sameBinds(got, list) {
			t.Errorf("%s of %d variables is wrong", what, size)
		}
	}
	for _, want := range [][]impl.Term{right, above, words} {
		got, ok := impl.MatchTerm(x, operator("f", want...))
		checkAll("MatchTerm", got, ok, want)
		got, ok = impl.UnifyTerms(x, operator("f", want...))
		checkAll("UnifyTerms", got, ok, want)
	}
	same := operator("f", slices.Repeat([]impl.Term{variable("Z")}, size)...)
	if got, ok := impl.UnifyTerms(same, operator("f", words...)); ok || got != nil {
		t.Error("UnifyTerms of one variable and many words")
	}
	if !impl.IsVariant(x, operator("f", right...)) || !impl.IsInstance(same, x) || impl.IsInstance(x, same) {
		t.Error("instances of many variables")
	}
}

// TestMatchesWithManySharedArguments uses a term that stands for a million nodes in the memory of a few: what is not in a result need not be copied.
func TestMatchesWithManySharedArguments(t *testing.T) {
	shared, x := word(1), variable("X")
	for range 20 {
		shared = operator("f", shared, shared)
	}
	allocated := testing.AllocsPerRun(1, func() {
		if !impl.IsInstance(shared, x) || impl.IsVariant(shared, x) {
			t.Error("instances of a large term")
		}
		if got, ok := impl.MatchTerm(operator("g", x, word(1)), operator("g", shared, word(2))); ok || got != nil {
			t.Error("MatchTerm matches a large term beside another word")
		}
		if got, ok := impl.UnifyTerms(operator("g", word(1), x), operator("g", word(2), shared)); ok || got != nil {
			t.Error("UnifyTerms unifies a large term beside another word")
		}
	})
	if allocated > 1000 {
		t.Errorf("%v allocations", allocated)
	}
}
