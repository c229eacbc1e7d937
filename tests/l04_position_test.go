package tests

import (
	"math"
	"runtime/debug"
	"slices"
	"strings"
	"testing"

	"loop.example/g00517/impl"
)

func equalTerms(a, b impl.Term) bool { return orderOf(a, b) == 0 }

func isZeroTerm(t impl.Term) bool { return equalTerms(t, impl.Term{}) }

// positionsBelow lists the positions of a term as the document says, without the program.
func positionsBelow(t impl.Term) [][]int {
	all := [][]int{{}}
	for i, arg := range t.Args {
		for _, p := range positionsBelow(arg) {
			all = append(all, slices.Concat([]int{i}, p))
		}
	}
	return all
}

// placeIn finds an existing position in a term without the program.
func placeIn(t *impl.Term, p []int) *impl.Term {
	for _, i := range p {
		t = &t.Args[i]
	}
	return t
}

// withPart replaces the subterm at an existing position without the program.
func withPart(t impl.Term, p []int, u impl.Term) impl.Term {
	if len(p) == 0 {
		return u
	}
	t.Args = slices.Clone(t.Args)
	t.Args[p[0]] = withPart(t.Args[p[0]], p[1:], u)
	return t
}

// missingPositions returns lists that leave the term at each of its nodes: there, or with more indices after it.
func missingPositions(t impl.Term) [][]int {
	var all [][]int
	for _, p := range positionsBelow(t) {
		n := len(placeIn(&t, p).Args)
		for _, i := range []int{n, n + 1, n + 2, n + 100, -1, -2, -n - 1, 1 << 8, 1 << 16, 1 << 32, -1 << 32, 1<<32 + n - 1, math.MinInt, math.MaxInt, math.MinInt + n} {
			for _, rest := range [][]int{{}, {0}, {0, 0}, {-1}} {
				all = append(all, slices.Concat(p, []int{i}, rest))
			}
		}
	}
	return all
}

func nestedTerm() impl.Term {
	return operator("f",
		operator("g", variable("X"), word(2)),
		operator("a"),
		operator("h", operator("g", operator("k", variable("Y"), operator("b"), word(0)), variable("X"))))
}

// sharedInside returns terms of which some arguments lie in the same memory, in whole or in part.
func sharedInside() []impl.Term {
	whole := []impl.Term{word(1), operator("h", variable("X")), operator("b")}
	return []impl.Term{
		operator("f", operator("g", whole...), operator("g", whole...)),
		operator("f", operator("g", whole[:1]...), operator("g", whole[:2]...), operator("g", whole...), operator("g", whole[1:]...)),
		operator("g", slices.Repeat([]impl.Term{operator("h", whole[:2]...)}, 3)...),
	}
}

// invalidTerms returns terms with nodes that are not valid at the top, between and at the bottom.
func invalidTerms() []impl.Term {
	x, a := variable("X"), operator("a")
	all := invalidNodes()
	for _, kind := range []int{impl.TmVar, impl.TmWord, 0, -1, 4, math.MinInt, math.MaxInt} {
		node := impl.Term{Kind: kind, N: 7, Name: "Q", Args: []impl.Term{x, operator("f", a, word(9)), {}}}
		all = append(all, node, operator("f", a, node), operator("f", operator("g", node, x), node),
			impl.Term{Kind: kind, Args: []impl.Term{node}}, impl.Term{Kind: kind, N: -1, Args: []impl.Term{{Kind: kind, Args: []impl.Term{node, node}}}})
	}
	return all
}

// positionedTerms returns terms of every form in which positions are looked up.
func positionedTerms() []impl.Term {
	all := []impl.Term{nestedTerm(), chain(16, word(0)), chain(17, variable("X")), operator("f", constants(59)...), operator("f", constants(60)...)}
	all = append(all, sharedInside()...)
	all = append(all, invalidTerms()...)
	return append(all, manyTerms()...)
}

func TestTermAt(t *testing.T) {
	x, y, a, b := variable("X"), variable("Y"), operator("a"), operator("b")
	nested := nestedTerm()
	k := operator("k", y, b, word(0))
	for _, c := range []struct {
		term impl.Term
		at   []int
		want impl.Term
	}{
		{x, nil, x},
		{x, []int{}, x},
		{a, nil, a},
		{a, []int{}, a},
		{word(3), nil, word(3)},
		{word(3), []int{}, word(3)},
		{operator("f", x, a, word(1)), nil, operator("f", x, a, word(1))},
		{operator("f", x, a, word(1)), []int{0}, x},
		{operator("f", x, a, word(1)), []int{1}, a},
		{operator("f", x, a, word(1)), []int{2}, word(1)},
		{nested, []int{}, nested},
		{nested, []int{0}, operator("g", x, word(2))},
		{nested, []int{0, 0}, x},
		{nested, []int{0, 1}, word(2)},
		{nested, []int{1}, a},
		{nested, []int{2}, operator("h", operator("g", k, x))},
		{nested, []int{2, 0}, operator("g", k, x)},
		{nested, []int{2, 0, 0}, k},
		{nested, []int{2, 0, 0, 0}, y},
		{nested, []int{2, 0, 0, 1}, b},
		{nested, []int{2, 0, 0, 2}, word(0)},
		{nested, []int{2, 0, 1}, x},
		{operator("f", constants(59)...), []int{58}, operator("c58")},
		{operator("f", constants(60)...), []int{59}, operator("c59")},
	} {
		if got, ok := impl.TermAt(c.term, c.at); !ok || !equalTerms(got, c.want) {
			t.Errorf("TermAt(%v, %v) = %v, %v", c.term, c.at, got, ok)
		}
	}
}

func TestReplaceAt(t *testing.T) {
	x, y, a, b := variable("X"), variable("Y"), operator("a"), operator("b")
	u := operator("u", word(3))
	g, k := operator("g", x, word(2)), operator("k", y, b, word(0))
	for _, c := range []struct {
		term impl.Term
		at   []int
		want impl.Term
	}{
		{x, nil, u},
		{a, []int{}, u},
		{word(3), nil, u},
		{nestedTerm(), nil, u},
		{nestedTerm(), []int{}, u},
		{operator("f", x), []int{0}, operator("f", u)},
		{operator("f", x, a, word(1)), []int{0}, operator("f", u, a, word(1))},
		{operator("f", x, a, word(1)), []int{1}, operator("f", x, u, word(1))},
		{operator("f", x, a, word(1)), []int{2}, operator("f", x, a, u)},
		{operator("f", x, x), []int{1}, operator("f", x, u)},
		{nestedTerm(), []int{0}, operator("f", u, a, operator("h", operator("g", k, x)))},
		{nestedTerm(), []int{0, 1}, operator("f", operator("g", x, u), a, operator("h", operator("g", k, x)))},
		{nestedTerm(), []int{2}, operator("f", g, a, u)},
		{nestedTerm(), []int{2, 0}, operator("f", g, a, operator("h", u))},
		{nestedTerm(), []int{2, 0, 0}, operator("f", g, a, operator("h", operator("g", u, x)))},
		{nestedTerm(), []int{2, 0, 0, 1}, operator("f", g, a, operator("h", operator("g", operator("k", y, u, word(0)), x)))},
		{nestedTerm(), []int{2, 0, 1}, operator("f", g, a, operator("h", operator("g", k, u)))},
	} {
		if got, ok := impl.ReplaceAt(c.term, c.at, u); !ok || !equalTerms(got, c.want) {
			t.Errorf("ReplaceAt(%v, %v, %v) = %v, %v", c.term, c.at, u, got, ok)
		}
	}
}

// TestReplacedTermsMayBecomeTooLarge replaces by terms that are not valid, or that make a valid term too large.
func TestReplacedTermsMayBecomeTooLarge(t *testing.T) {
	kept := operator("f", operator("g", word(1)), variable("X"))
	for _, u := range append(invalidTerms(), chain(16, word(0)), chain(40, word(0)), operator("f", constants(59)...), operator("f", constants(200)...)) {
		for _, p := range positionsBelow(kept) {
			whole := deepClone(kept)
			if got, ok := impl.ReplaceAt(whole, p, u); !ok || !equalTerms(got, withPart(kept, p, u)) {
				t.Errorf("ReplaceAt(%v, %v, %v) = %v, %v", kept, p, u, got, ok)
			}
			if !equalTerms(whole, kept) {
				t.Fatalf("%v was changed to %v", kept, whole)
			}
		}
	}
}

func checkMissing(t *testing.T, term impl.Term, p []int, u impl.Term) {
	t.Helper()
	if got, ok := impl.TermAt(term, p); ok || !isZeroTerm(got) {
		t.Errorf("TermAt(%v, %v) = %v, %v", term, p, got, ok)
	}
	if got, ok := impl.ReplaceAt(term, p, u); ok || !equalTerms(got, term) {
		t.Errorf("ReplaceAt(%v, %v, %v) = %v, %v", term, p, u, got, ok)
	}
}

func TestPositionsThatDoNotExist(t *testing.T) {
	x, a := variable("X"), operator("a")
	f := operator("f", x, operator("g", word(1), a), a)
	u := operator("u", variable("Z"))
	for _, term := range []impl.Term{x, a, word(2), {}} {
		for _, p := range [][]int{{0}, {1}, {-1}, {0, 0}, {math.MinInt}, {math.MaxInt}} {
			checkMissing(t, term, p, u)
		}
	}
	for _, p := range [][]int{
		{3}, {4}, {100}, {-1}, {-3}, {math.MinInt}, {math.MaxInt},
		{0, 0}, {2, 0}, {2, -1}, {1, 2}, {1, 3}, {1, -1}, {1, math.MinInt}, {1, math.MaxInt},
		{1, 0, 0}, {1, 1, 0}, {1, 1, -1}, {1, 1, 0, 0},
		{3, 0}, {-1, 0}, {-1, 1}, {3, 1, 0}, {-1, 0, 0, 0},
	} {
		checkMissing(t, f, p, u)
	}
	for _, term := range positionedTerms() {
		// In unused capacity there are no arguments either.
		spare := termWithSpare(term, operator("spare", word(1)))
		for _, p := range missingPositions(term) {
			checkMissing(t, term, p, u)
			checkMissing(t, spare, p, u)
		}
	}
}

func TestPositionsOf(t *testing.T) {
	x, a := variable("X"), operator("a")
	for _, c := range []struct {
		term impl.Term
		want string
	}{
		{x, "top"},
		{a, "top"},
		{word(3), "top"},
		{impl.Term{}, "top"},
		{operator("f", x), "top 0"},
		{operator("f", x, a, word(1)), "top 0 1 2"},
		{operator("f", operator("f", operator("f", a))), "top 0 0.0 0.0.0"},
		{operator("f", operator("g", x), a), "top 0 0.0 1"},
		{operator("f", x, operator("g", a)), "top 0 1 1.0"},
		{operator("f", operator("g", x, a), operator("g", a, x)), "top 0 0.0 0.1 1 1.0 1.1"},
		{nestedTerm(), "top 0 0.0 0.1 1 2 2.0 2.0.0 2.0.0.0 2.0.0.1 2.0.0.2 2.0.1"},
		{operator("f", constants(12)...), "top 0 1 2 3 4 5 6 7 8 9 10 11"},
		{impl.Term{Kind: impl.TmVar, Name: "X", Args: []impl.Term{a, operator("f", x)}}, "top 0 1 1.0"},
		{impl.Term{Kind: impl.TmWord, Args: []impl.Term{word(1)}}, "top 0"},
		{impl.Term{Kind: 4, Args: []impl.Term{{Kind: -1, Args: []impl.Term{{}}}, {}}}, "top 0 0.0 1"},
	} {
		var texts []string
		for _, p := range impl.PositionsOf(c.term) {
			texts = append(texts, impl.FormatPosition(p))
		}
		if got := strings.Join(texts, " "); got != c.want {
			t.Errorf("PositionsOf(%v) = %s, want %s", c.term, got, c.want)
		}
	}
}

func TestPositionsOfLeadToAllSubterms(t *testing.T) {
	for _, term := range positionedTerms() {
		list := impl.PositionsOf(term)
		if !slices.EqualFunc(list, positionsBelow(term), slices.Equal[[]int]) {
			t.Errorf("PositionsOf(%v) = %v", term, list)
		}
		if len(list) != impl.CountTerm(term) {
			t.Errorf("PositionsOf(%v) has %d elements, but there are %d nodes", term, len(list), impl.CountTerm(term))
		}
		for _, p := range list {
			if got, ok := impl.TermAt(term, p); !ok || !equalTerms(got, *placeIn(&term, p)) {
				t.Errorf("TermAt(%v, %v) = %v, %v", term, p, got, ok)
			}
		}
	}
}

// checkReplaced checks what ReplaceAt gives for an existing position against the document's promise: u is there, and everything else is as it was.
func checkReplaced(t *testing.T, term impl.Term, p []int, u impl.Term) {
	t.Helper()
	got, ok := impl.ReplaceAt(term, p, u)
	if !ok || !equalTerms(got, withPart(term, p, u)) {
		t.Fatalf("ReplaceAt(%v, %v, %v) = %v, %v", term, p, u, got, ok)
	}
	if part, ok := impl.TermAt(got, p); !ok || !equalTerms(part, u) {
		t.Fatalf("TermAt(%v, %v) = %v, %v, want %v", got, p, part, ok, u)
	}
	for _, q := range impl.PositionsOf(term) {
		before, _ := impl.TermAt(term, q)
		after, ok := impl.TermAt(got, q)
		switch {
		case impl.IsPrefix(p, q):
			continue
		case impl.IsPrefix(q, p):
			ok = ok && before.Kind == after.Kind && before.N == after.N && before.Name == after.Name && len(before.Args) == len(after.Args)
		default:
			ok = ok && equalTerms(before, after)
		}
		if !ok {
			t.Fatalf("ReplaceAt(%v, %v, %v) = %v changes %v", term, p, u, got, q)
		}
	}
}

func TestReplacingASubtermByItselfChangesNothing(t *testing.T) {
	others := []impl.Term{word(1), variable("New"), operator("u", operator("v", variable("X")), word(0)), {}, {Kind: impl.TmWord, N: 9, Name: "W", Args: []impl.Term{operator("a")}}}
	for _, term := range positionedTerms() {
		kept := deepClone(term)
		for _, p := range impl.PositionsOf(term) {
			part, _ := impl.TermAt(term, p)
			if got, ok := impl.ReplaceAt(term, p, part); !ok || !equalTerms(got, term) || !impl.EqualTerm(got, term) {
				t.Fatalf("ReplaceAt(%v, %v, %v) = %v, %v", term, p, part, got, ok)
			}
			for _, u := range others {
				checkReplaced(t, term, p, u)
			}
			// A term that is changed would become a part of itself below.
			if !sameMemory(term, kept) {
				t.Fatalf("%v was changed to %v", kept, term)
			}
			for _, q := range positionsBelow(term) {
				checkReplaced(t, term, p, *placeIn(&term, q))
			}
		}
	}
}

func TestIsPrefix(t *testing.T) {
	for _, c := range []struct {
		p, q []int
		want bool
	}{
		{nil, nil, true},
		{nil, []int{}, true},
		{[]int{}, nil, true},
		{[]int{}, []int{}, true},
		{nil, []int{0}, true},
		{[]int{}, []int{3, 1}, true},
		{[]int{0}, nil, false},
		{[]int{0}, []int{}, false},
		{[]int{0}, []int{0}, true},
		{[]int{0}, []int{1}, false},
		{[]int{1}, []int{1, 0}, true},
		{[]int{1, 0}, []int{1}, false},
		{[]int{1, 0}, []int{1, 0}, true},
		{[]int{1, 0}, []int{1, 0, 2}, true},
		{[]int{1, 0, 2}, []int{1, 0, 2}, true},
		{[]int{1, 0, 2}, []int{1, 0, 3}, false},
		{[]int{1, 0, 2}, []int{1, 0}, false},
		{[]int{1, 0, 2}, []int{1, 1, 2}, false},
		{[]int{1, 0, 2}, []int{0, 0, 2}, false},
		{[]int{0, 2}, []int{1, 0, 2}, false},
		{[]int{1}, []int{0, 1}, false},
		{[]int{1}, []int{10}, false},
		{[]int{1}, []int{-1}, false},
		{[]int{-1}, []int{-1, 5}, true},
		{[]int{1}, []int{1 + 1<<32}, false},
		{[]int{math.MinInt}, []int{math.MinInt, math.MaxInt}, true},
		{[]int{math.MinInt}, []int{math.MaxInt}, false},
		// What lies in the unused capacity is no part of a position.
		{[]int{1, 0}, []int{1, 0}[:1], false},
		{[]int{1, 9}[:1], []int{1, 0}, true},
	} {
		if got := impl.IsPrefix(c.p, c.q); got != c.want {
			t.Errorf("IsPrefix(%v, %v) = %v", c.p, c.q, got)
		}
	}
}

// shortLists returns all lists of up to three of the indices -1, 0 and 1.
func shortLists() [][]int {
	all := [][]int{{}}
	for start, length := 0, 0; length < 3; length++ {
		end := len(all)
		for _, p := range all[start:end] {
			for i := -1; i <= 1; i++ {
				all = append(all, slices.Concat(p, []int{i}))
			}
		}
		start = end
	}
	return all
}

func TestPrefixesOfShortLists(t *testing.T) {
	lists := shortLists()
	if len(lists) != 1+3+9+27 {
		t.Fatal(len(lists))
	}
	for _, p := range lists {
		for _, rest := range lists {
			if !impl.IsPrefix(p, slices.Concat(p, rest)) {
				t.Errorf("IsPrefix(%v, itself and %v) = false", p, rest)
			}
		}
		for _, q := range lists {
			want := false
			for end := range len(q) + 1 {
				want = want || slices.Equal(p, q[:end])
			}
			if got := impl.IsPrefix(p, q); got != want {
				t.Errorf("IsPrefix(%v, %v) = %v", p, q, got)
			}
		}
	}
}

func TestFormatPosition(t *testing.T) {
	for _, c := range []struct {
		at   []int
		want string
	}{
		{nil, "top"},
		{[]int{}, "top"},
		{[]int{5, 6}[:0], "top"},
		{[]int{0}, "0"},
		{[]int{2}, "2"},
		{[]int{10}, "10"},
		{[]int{1234567}, "1234567"},
		{[]int{0, 0}, "0.0"},
		{[]int{1, 0}, "1.0"},
		{[]int{0, 1}, "0.1"},
		{[]int{1, 0, 2, 3}, "1.0.2.3"},
		{[]int{12, 0, 345}, "12.0.345"},
		{[]int{1, 9}[:1], "1"},
		{[]int{-1}, "-1"},
		{[]int{-12, 3}, "-12.3"},
		{[]int{3, -1}, "3.-1"},
		{[]int{-1, -2, -3}, "-1.-2.-3"},
		{[]int{math.MinInt, math.MaxInt}, "-9223372036854775808.9223372036854775807"},
	} {
		if got := impl.FormatPosition(c.at); got != c.want {
			t.Errorf("FormatPosition(%v) = %q, want %q", c.at, got, c.want)
		}
	}
}

func TestNilAndEmptyListsOfPositions(t *testing.T) {
	for _, node := range append(invalidNodes(), variable("X"), operator("a"), word(1)) {
		for _, args := range [][]impl.Term{nil, {}, {word(1)}} {
			node.Args = args[:0]
			whole := operator("f", word(0), node)
			want := operator("f", word(0), impl.Term{Kind: node.Kind, N: node.N, Name: node.Name})
			if got, ok := impl.TermAt(whole, []int{1}); !ok || !impl.EqualTerm(got, want.Args[1]) {
				t.Errorf("TermAt(%v, [1]) = %v, %v", whole, got, ok)
			}
			if got, ok := impl.ReplaceAt(operator("f", word(0), word(1)), []int{1}, node); !ok || !impl.EqualTerm(got, want) {
				t.Errorf("%v put at [1] gives %v, %v", node, got, ok)
			}
			if got, ok := impl.ReplaceAt(whole, []int{1, 0}, word(1)); ok || !impl.EqualTerm(got, want) {
				t.Errorf("ReplaceAt(%v, [1 0], 1) = %v, %v", whole, got, ok)
			}
			if got := impl.PositionsOf(node); len(got) != 1 || len(got[0]) != 0 {
				t.Errorf("PositionsOf(%v) = %v", node, got)
			}
		}
	}
}

// withSpareIndices returns a position that has unused capacity, and the whole of its memory; the next indices would exist in many terms.
func withSpareIndices(p []int) (part, whole []int) {
	whole = slices.Concat(p, []int{0, 0, 1})
	return whole[:len(p)], whole
}

func TestTermsAndPositionsAreNotChanged(t *testing.T) {
	for _, term := range positionedTerms() {
		whole := termWithSpare(term, operator("spare", word(1)))
		u := termWithSpare(nestedTerm(), variable("Spare"))
		keptWhole, keptU := deepClone(whole), deepClone(u)
		impl.PositionsOf(whole)
		for _, existing := range positionsBelow(term) {
			for _, p := range [][]int{existing, slices.Concat(existing, []int{len(placeIn(&whole, existing).Args)}), slices.Concat([]int{-1}, existing)} {
				part, memory := withSpareIndices(p)
				kept := slices.Clone(memory)
				impl.TermAt(whole, part)
				impl.ReplaceAt(whole, part, u)
				impl.IsPrefix(part, part)
				impl.IsPrefix(part, memory)
				impl.FormatPosition(part)
				if !slices.Equal(memory, kept) {
					t.Fatalf("the position %v of %v was changed to %v", kept, term, memory)
				}
				if !sameMemory(whole, keptWhole) || !sameMemory(u, keptU) {
					t.Fatalf("%v or %v was changed", keptWhole, keptU)
				}
			}
		}
	}
}

// argumentPlaces returns the addresses of all arguments in a term, those in unused capacity included.
func argumentPlaces(t impl.Term) []*impl.Term {
	var places []*impl.Term
	whole := t.Args[:cap(t.Args)]
	for i := range whole {
		places = append(places, &whole[i])
		places = append(places, argumentPlaces(whole[i])...)
	}
	return places
}

// sharesMemory reports whether two lists of arguments of results lie in the same memory, or one of them in that of a term in others.
func sharesMemory(results, others []impl.Term) bool {
	used := map[*impl.Term]bool{}
	for _, other := range others {
		for _, place := range argumentPlaces(other) {
			used[place] = true
		}
	}
	for _, result := range results {
		for _, place := range argumentPlaces(result) {
			if used[place] {
				return true
			}
			used[place] = true
		}
	}
	return false
}

// overwriteTerm writes to all of a term that its receiver may write to, also by append.
func overwriteTerm(t impl.Term) {
	for _, place := range argumentPlaces(t) {
		args := place.Args
		*place = operator("written")
		_ = append(args, operator("appended"))
	}
	_ = append(t.Args, operator("appended"))
}

func TestResultsShareNoMemoryWithArguments(t *testing.T) {
	for _, term := range positionedTerms() {
		for _, whole := range []impl.Term{term, termWithSpare(term, operator("spare", word(1)))} {
			u := termWithSpare(nestedTerm(), variable("Spare"))
			for _, existing := range positionsBelow(term) {
				for _, p := range [][]int{existing, slices.Concat(existing, []int{99})} {
					kept, keptU := deepClone(whole), deepClone(u)
					var results []impl.Term
					for range 2 {
						found, _ := impl.TermAt(whole, p)
						replaced, _ := impl.ReplaceAt(whole, p, u)
						results = append(results, found, replaced)
					}
					if sharesMemory(results, []impl.Term{whole, u}) {
						t.Fatalf("results for %v at %v share memory", term, p)
					}
					for _, result := range results {
						overwriteTerm(result)
					}
					if !sameMemory(whole, kept) || !sameMemory(u, keptU) {
						t.Fatalf("writing to the results for %v at %v changes %v or %v", term, p, whole, u)
					}
				}
			}
		}
	}
}

// checkApart writes to each argument of what result returns, and appends to each list of arguments: nothing else in it may change.
func checkApart(t *testing.T, result func() impl.Term) {
	t.Helper()
	plain := deepClone(result())
	written := operator("written")
	for _, p := range positionsBelow(plain) {
		got := result()
		_ = append(placeIn(&got, p).Args, written)
		if !equalTerms(got, plain) {
			t.Fatalf("appending to %v at %v gives %v", plain, p, got)
		}
		if len(p) > 0 {
			*placeIn(&got, p) = written
			if want := withPart(plain, p, written); !equalTerms(got, want) {
				t.Fatalf("writing to %v at %v gives %v", plain, p, got)
			}
		}
		if again := result(); !equalTerms(again, plain) {
			t.Fatalf("writing to %v at %v changes the next result to %v", plain, p, again)
		}
	}
}

func TestPartsOfAResultShareNoMemory(t *testing.T) {
	shared := sharedInside()
	for _, term := range append(shared, nestedTerm()) {
		for _, p := range append(positionsBelow(term), []int{-1}, []int{0, 99}, []int{99}) {
			checkApart(t, func() impl.Term {
				got, _ := impl.TermAt(term, p)
				return got
			})
			// A term that is changed would become a part of itself below.
			kept := deepClone(term)
			if impl.ReplaceAt(term, p, operator("new")); !equalTerms(term, kept) {
				t.Fatalf("%v was changed to %v", kept, term)
			}
			for _, u := range []impl.Term{term, term.Args[0], shared[0], word(1)} {
				checkApart(t, func() impl.Term {
					got, _ := impl.ReplaceAt(term, p, u)
					return got
				})
			}
		}
	}
}

func TestPositionsShareNoMemory(t *testing.T) {
	for _, term := range positionedTerms() {
		want := positionsBelow(term)
		list, other := impl.PositionsOf(term), impl.PositionsOf(term)
		used := map[*int]bool{}
		for _, p := range append(slices.Clone(list), other...) {
			for i := range p[:cap(p)] {
				place := &p[:cap(p)][i]
				if used[place] {
					t.Fatalf("positions of %v share memory", term)
				}
				used[place] = true
			}
		}
		for i := range list {
			_ = append(list[i], -5)
			for j := range list[i] {
				list[i][j] = -9
			}
			if !slices.EqualFunc(list[i+1:], want[i+1:], slices.Equal[[]int]) {
				t.Fatalf("writing to position %d of %v changes others", i, term)
			}
		}
		if !slices.EqualFunc(other, want, slices.Equal[[]int]) {
			t.Fatalf("two lists of the positions of %v share memory", term)
		}
	}
}

func TestPositionsBeyondAllLimits(t *testing.T) {
	const size = 100000
	zeros := make([]int, size)
	deep, other := chain(size, variable("X")), chain(size, word(2))
	wide := operator("f", slices.Repeat([]impl.Term{variable("X"), word(1)}, size)...)
	wanted := slices.Clone(wide.Args)
	wanted[size] = operator("a")
	// A stack in which there is no room for a call for each level of a deep term.
	defer debug.SetMaxStack(debug.SetMaxStack(1 << 20))
	if got, ok := impl.TermAt(deep, zeros[:size-1]); !ok || got.Name != "X" {
		t.Error("TermAt does not find the last subterm of a deep term")
	}
	if got, ok := impl.TermAt(deep, nil); !ok || !impl.EqualTerm(got, deep) {
		t.Error("TermAt does not find a deep term in itself")
	}
	if _, ok := impl.TermAt(deep, zeros); ok {
		t.Error("TermAt finds a subterm below a deep term")
	}
	if got, ok := impl.ReplaceAt(deep, zeros[:size-1], word(2)); !ok || !impl.EqualTerm(got, other) {
		t.Error("ReplaceAt does not replace the last subterm of a deep term")
	}
	if got, ok := impl.ReplaceAt(deep, zeros, word(2)); ok || !impl.EqualTerm(got, deep) {
		t.Error("ReplaceAt does not keep a deep term")
	}
	if got, ok := impl.ReplaceAt(wide, []int{size}, operator("a")); !ok || !impl.EqualTerm(got, operator("f", wanted...)) {
		t.Error("ReplaceAt does not replace an argument of a wide term")
	}
	if list := impl.PositionsOf(wide); len(list) != 2*size+1 || !slices.Equal(list[2*size], []int{2*size - 1}) {
		t.Error("PositionsOf a wide term")
	}
	if !impl.IsPrefix(zeros[:size-1], zeros) || impl.IsPrefix(zeros, zeros[:size-1]) {
		t.Error("IsPrefix of long lists")
	}
	if got := impl.FormatPosition(zeros); got != "0"+strings.Repeat(".0", size-1) {
		t.Error("FormatPosition of a long list")
	}
}

func TestPositionsOfADeepTerm(t *testing.T) {
	list := impl.PositionsOf(chain(500, variable("X")))
	if len(list) != 500 {
		t.Fatal(len(list))
	}
	for i, p := range list {
		if !slices.Equal(p, make([]int, i)) {
			t.Errorf("position %d has the length %d", i, len(p))
		}
	}
}

// TestPositionsInManySharedArguments uses a term that stands for a million nodes in the memory of a few: what is not in a result need not be copied.
func TestPositionsInManySharedArguments(t *testing.T) {
	const depth = 20
	shared, a := word(1), operator("a")
	for range depth {
		shared = operator("f", shared, shared)
	}
	whole := operator("g", word(0), shared)
	zeros := make([]int, depth+1)
	allocated := testing.AllocsPerRun(1, func() {
		if got, ok := impl.TermAt(shared, zeros[:depth]); !ok || !equalTerms(got, word(1)) {
			t.Error("TermAt does not find the last subterm")
		}
		if got, ok := impl.TermAt(shared, zeros); ok || !isZeroTerm(got) {
			t.Error("TermAt finds a subterm of a word")
		}
		if got, ok := impl.ReplaceAt(shared, nil, a); !ok || !equalTerms(got, a) {
			t.Error("ReplaceAt does not replace a large term")
		}
		if got, ok := impl.ReplaceAt(whole, []int{1}, a); !ok || !equalTerms(got, operator("g", word(0), a)) {
			t.Error("ReplaceAt does not replace a large argument")
		}
	})
	if allocated > 10000 {
		t.Errorf("%v allocations", allocated)
	}
}
