package tests

import (
	"math"
	"runtime/debug"
	"slices"
	"strings"
	"testing"

	"loop.example/g00517/impl"
)

// signature declares sorts, separated by spaces, and operators such as "add e e : e". A sort "_" is "".
func signature(sorts string, ops ...string) impl.Signature {
	s := impl.Signature{Sorts: sortList(sorts)}
	for _, text := range ops {
		left, result, _ := strings.Cut(text, ":")
		parts := sortList(left)
		s.Ops = append(s.Ops, impl.Op{Name: parts[0], Args: parts[1:], Result: sortList(result)[0]})
	}
	return s
}

func sortList(text string) []string {
	list := strings.Fields(text)
	for i, name := range list {
		if name == "_" {
			list[i] = ""
		}
	}
	return list
}

// varSorts writes sorts of variables as "X:e Y:word".
func varSorts(text string) []impl.VarSort {
	var list []impl.VarSort
	for _, field := range strings.Fields(text) {
		name, sort, _ := strings.Cut(field, ":")
		list = append(list, impl.VarSort{Name: name, Sort: sort})
	}
	return list
}

func expressions() impl.Signature {
	return signature("e", "num word : e", "add e e : e", "mul e e : e", "ifz e e e : e")
}

func stackMachine() impl.Signature {
	return signature("e i s c",
		"num word : e", "add e e : e", "mul e e : e",
		"halt : i", "push word i : i", "sum i : i", "prod i : i",
		"nil : s", "cons word s : s", "run i s : c", "comp e i : i")
}

// looseSignatures returns signatures that are not valid, but in which sorts are found all the same.
func looseSignatures() []impl.Signature {
	return []impl.Signature{
		{},
		signature("e", "f _ : e", "g e : _", "h : _", "a : e", "k e _ : e"),
		signature("e", "f e : e", "f word : word", "a : e", "a : word", "g word : e", "k e e : e"),
		signature("", "f nosort : other", "a : nosort", "g other : word", "k other other : nosort"),
		signature("word e", "plus e : e", "minus : e", "times e e e : e", "f word : e", "a : word", "k word e : e"),
		signature("e e", "f e e e e e : e", "F e : e", "a : e", "_ : e", "g e : e"),
	}
}

func sameOp(a, b impl.Op) bool {
	return a.Name == b.Name && slices.Equal(a.Args, b.Args) && a.Result == b.Result
}

// declared finds an operator as the document says, without the program; nil if there is none.
func declared(s impl.Signature, name string) *impl.Op {
	for _, builtin := range []string{"plus", "minus", "times"} {
		if name == builtin {
			return &impl.Op{Name: name, Args: []string{"word", "word"}, Result: "word"}
		}
	}
	for i, op := range s.Ops {
		if op.Name == name {
			return &s.Ops[i]
		}
	}
	return nil
}

// plainSort finds the sort of a term as the document says, without the program.
func plainSort(s impl.Signature, t impl.Term, vars []impl.VarSort) string {
	switch t.Kind {
	case impl.TmWord:
		return "word"
	case impl.TmVar:
		for _, v := range vars {
			if v.Name == t.Name {
				return v.Sort
			}
		}
	case impl.TmApp:
		op := declared(s, t.Name)
		if op == nil || len(op.Args) != len(t.Args) {
			return ""
		}
		for i, arg := range t.Args {
			if op.Args[i] == "" || plainSort(s, arg, vars) != op.Args[i] {
				return ""
			}
		}
		return op.Result
	}
	return ""
}

// plainDemands lists the variables of a term at all of their places with the sorts that are demanded there, without the program.
func plainDemands(s impl.Signature, t impl.Term, sort string) []impl.VarSort {
	if t.Kind == impl.TmVar {
		return []impl.VarSort{{Name: t.Name, Sort: sort}}
	}
	var all []impl.VarSort
	for i, arg := range t.Args {
		demanded := ""
		if op := declared(s, t.Name); t.Kind == impl.TmApp && op != nil && i < len(op.Args) {
			demanded = op.Args[i]
		}
		all = append(all, plainDemands(s, arg, demanded)...)
	}
	return all
}

// plainVars infers the sorts of variables as the document says, without the program.
func plainVars(s impl.Signature, t impl.Term, sort string) ([]impl.VarSort, bool) {
	var vars []impl.VarSort
	for _, v := range plainDemands(s, t, sort) {
		i := slices.IndexFunc(vars, func(known impl.VarSort) bool { return known.Name == v.Name })
		if i < 0 {
			vars = append(vars, v)
		} else if vars[i].Sort != v.Sort {
			return nil, false
		}
	}
	if sort == "" || plainSort(s, t, vars) != sort {
		return nil, false
	}
	return vars, true
}

func checkSort(t *testing.T, s impl.Signature, term impl.Term, vars []impl.VarSort, want string) {
	t.Helper()
	if got := impl.SortOf(s, term, vars); got != want {
		t.Errorf("SortOf(%v, %v, %v) = %q, want %q", s, term, vars, got, want)
	}
}

// checkInferred checks the result of InferVars, and that SortOf with it is the stated sort.
func checkInferred(t *testing.T, s impl.Signature, term impl.Term, sort string, want []impl.VarSort) {
	t.Helper()
	got, ok := impl.InferVars(s, term, sort)
	if !ok || !slices.Equal(got, want) {
		t.Errorf("InferVars(%v, %v, %q) = %v, %v, want %v", s, term, sort, got, ok, want)
	}
	if found := impl.SortOf(s, term, got); ok && (found != sort || sort == "") {
		t.Errorf("SortOf(%v, %v, %v) = %q, but the sorts are inferred for %q", s, term, got, found, sort)
	}
}

func checkNotInferred(t *testing.T, s impl.Signature, term impl.Term, sort string) {
	t.Helper()
	if got, ok := impl.InferVars(s, term, sort); ok || len(got) > 0 {
		t.Errorf("InferVars(%v, %v, %q) = %v, %v, want nil, false", s, term, sort, got, ok)
	}
}

// checkAsDeclared checks SortOf and InferVars against the plain reading of the document.
func checkAsDeclared(t *testing.T, s impl.Signature, term impl.Term, sort string, vars []impl.VarSort) {
	t.Helper()
	checkSort(t, s, term, vars, plainSort(s, term, vars))
	if want, ok := plainVars(s, term, sort); ok {
		checkInferred(t, s, term, sort, want)
	} else {
		checkNotInferred(t, s, term, sort)
	}
}

func TestSignatureConstants(t *testing.T) {
	if impl.MaxSorts != 4 || impl.MaxOps != 16 || impl.MaxArity != 3 {
		t.Error("limits")
	}
}

func TestIsBuiltin(t *testing.T) {
	for _, name := range []string{"plus", "minus", "times"} {
		if !impl.IsBuiltin(name) {
			t.Errorf("IsBuiltin(%q) = false", name)
		}
		for _, other := range []string{name[1:], name[:len(name)-1], name + "s", name + " ", " " + name, name + "\x00", name + "\xff", name + name, strings.ToUpper(name), strings.ToUpper(name[:1]) + name[1:]} {
			if impl.IsBuiltin(other) {
				t.Errorf("IsBuiltin(%q) = true", other)
			}
		}
	}
	for _, name := range []string{"", "word", "a", "x1", "add", "mul", "sub", "div", "mod", "plus minus", "+", "-", "*", "3", "\xff", strings.Repeat("plus", 1000)} {
		if impl.IsBuiltin(name) {
			t.Errorf("IsBuiltin(%q) = true", name)
		}
	}
}

func checkSignature(t *testing.T, s impl.Signature, want bool) {
	t.Helper()
	if got := impl.IsValidSignature(s); got != want {
		t.Errorf("IsValidSignature(%v) = %v", s, got)
	}
}

func TestValidSignatures(t *testing.T) {
	for _, s := range []impl.Signature{
		{},
		{Sorts: []string{}, Ops: []impl.Op{}},
		{Sorts: []string{"e"}, Ops: []impl.Op{{Name: "a", Args: []string{}, Result: "e"}}},
		expressions(),
		stackMachine(),
		signature("c", "loop word word : c", "done word : c"),
		signature("e"),
		signature("a b c d"),
		signature("", "f word : word"),
		signature("", "f word word word : word", "zero : word"),
		signature("e", "f word e : word", "g e word : e", "h word : e"),
		// An operator may have the name of a sort, of the sort of words, or of what is declared elsewhere.
		signature("e", "e : e"),
		signature("e", "e e e : e"),
		signature("a b", "a b : a", "b a : b"),
		signature("", "word : word"),
		signature("e", "word word e : word"),
		signature("plus minus times", "add plus minus : times"),
		signature("plus", "plus1 plus : plus", "pluss : plus"),
		signature("word1 words wor", "f word1 words wor : word"),
		signature("abcdefgh a1234567", "abcdefgh a1234567 : abcdefgh", "z1234567 : word"),
		signature("e", "f e e e : e", "g word word word : e"),
		// Two operators of different names with the same sorts, and a sort that nothing uses.
		signature("e d", "f e : e", "g e : e", "a : e", "b : e"),
	} {
		checkSignature(t, s, true)
	}
}

func TestSignaturesThatAreNotValid(t *testing.T) {
	for _, s := range []impl.Signature{
		signature("word"),
		signature("e word", "f e : e"),
		signature("word", "f word : word"),
		signature("e e"),
		signature("e d e"),
		signature("a b c c"),
		signature("_"),
		signature("e _"),
		signature("E"),
		signature("e 1"),
		signature("abcdefghi"),
		signature("e", "plus e e : e"),
		signature("e", "minus e e : e"),
		signature("e", "times e e : e"),
		signature("", "plus word word : word"),
		signature("", "minus word : word"),
		signature("", "times : word"),
		signature("e", "a : e", "plus word word : word"),
		signature("e", "a : e", "a : e"),
		signature("e", "a : e", "a e : e"),
		signature("e", "f word : e", "g e : e", "f e : word"),
		signature("e", "F e : e"),
		signature("e", "X : e"),
		signature("e", "1 : e"),
		signature("e", "_ : e"),
		signature("e", "_ e : e"),
		signature("e", "a : e", "abcdefghi : e"),
		signature("e", "f-g e : e"),
		// Sorts of arguments and results that are not declared.
		signature("e", "f d : e"),
		signature("e", "f e d : e"),
		signature("e", "f e e d : e"),
		signature("e", "f d e e : e"),
		signature("e", "f e : d"),
		signature("e", "a : d"),
		signature("", "a : e"),
		signature("", "f e : word"),
		signature("e", "a : e", "f : e", "g d : e"),
		signature("e", "a : d", "f : e"),
		signature("e", "a : E"),
		signature("e", "a : ee"),
		signature("ee", "a : e"),
		signature("e", "a : word1"),
		signature("e", "f wor : e"),
		signature("e", "f Word : e"),
		signature("e", "a : a"),
		signature("e", "a : e", "f a : e"),
		signature("e", "f plus : e"),
		// "" is no sort, even if it is listed as one.
		signature("e", "a : _"),
		signature("e", "f _ : e"),
		signature("e", "f e _ : e"),
		signature("_", "a : _"),
		signature("e _", "f _ : e"),
		// A sort that is declared, but not with a name.
		signature("E", "a : E"),
		signature("e \xff", "a : \xff"),
	} {
		checkSignature(t, s, false)
	}
	for _, s := range looseSignatures()[1:] {
		checkSignature(t, s, false)
	}
}

func TestSignaturesAtTheirLimits(t *testing.T) {
	for n := range 40 {
		var sorts, args, words []string
		many := impl.Signature{Sorts: []string{"e"}}
		for i := range n {
			sorts = append(sorts, "s"+impl.FormatInt(i))
			args = append(args, "e")
			words = append(words, "word")
			many.Ops = append(many.Ops, impl.Op{Name: "c" + impl.FormatInt(i), Result: "e"})
		}
		checkSignature(t, impl.Signature{Sorts: sorts}, n <= 4)
		checkSignature(t, impl.Signature{Sorts: sorts, Ops: []impl.Op{{Name: "a", Result: "word"}}}, n <= 4)
		if n > 0 {
			checkSignature(t, impl.Signature{Sorts: sorts, Ops: []impl.Op{{Name: "f", Args: sorts[n-1:], Result: sorts[n-1]}}}, n <= 4)
		}
		checkSignature(t, many, n <= 16)
		for i := range many.Ops {
			many.Ops[i].Args = []string{"e", "word", "e"}
		}
		checkSignature(t, many, n <= 16)
		checkSignature(t, impl.Signature{Sorts: []string{"e"}, Ops: []impl.Op{{Name: "f", Args: args, Result: "e"}}}, n <= 3)
		checkSignature(t, impl.Signature{Ops: []impl.Op{{Name: "f", Args: words, Result: "word"}}}, n <= 3)
		checkSignature(t, impl.Signature{Ops: []impl.Op{{Name: "a", Result: "word"}, {Name: "f", Args: words, Result: "word"}}}, n <= 3)
	}
	// All limits at once.
	full := impl.Signature{Sorts: []string{"a", "b", "c", "d"}}
	for i := range 16 {
		full.Ops = append(full.Ops, impl.Op{Name: "f" + impl.FormatInt(i), Args: []string{"a", "word", "d"}, Result: "c"})
	}
	checkSignature(t, full, true)
	for _, beyond := range []impl.Signature{
		{Sorts: append(slices.Clone(full.Sorts), "e"), Ops: full.Ops},
		{Sorts: full.Sorts, Ops: append(slices.Clone(full.Ops), impl.Op{Name: "g", Result: "a"})},
		{Sorts: full.Sorts, Ops: append(slices.Clone(full.Ops[1:]), impl.Op{Name: "g", Args: []string{"a", "b", "c", "d"}, Result: "a"})},
	} {
		checkSignature(t, beyond, false)
	}
}

func TestNamesInSignatures(t *testing.T) {
	names := []string{"", "a", "z", "a1", "word", "plus", "minus", "times", "words", "pluss", "abcdefgh", "abcdefghi", "a1234567", "a12345678", "X", "Xy", "aB", "1", "1a", "a_", "a b", "a:", " a", "a ", "a\n", "a\x00", "a\xff", "\u00e9", "abcdefg\u00e9", strings.Repeat("a", 500)}
	for b := range 256 {
		names = append(names, string([]byte{byte(b)}), "a"+string([]byte{byte(b)}))
	}
	for _, name := range names {
		isBuiltin := name == "plus" || name == "minus" || name == "times"
		checkSignature(t, impl.Signature{Sorts: []string{name}}, impl.IsName(name) && name != "word")
		checkSignature(t, impl.Signature{Sorts: []string{"q", name}}, impl.IsName(name) && name != "word" && name != "q")
		checkSignature(t, impl.Signature{Ops: []impl.Op{{Name: name, Result: "word"}}}, impl.IsName(name) && !isBuiltin)
		checkSignature(t, impl.Signature{Ops: []impl.Op{{Name: "q", Result: "word"}, {Name: name, Args: []string{"word"}, Result: "word"}}}, impl.IsName(name) && !isBuiltin && name != "q")
		checkSignature(t, impl.Signature{Ops: []impl.Op{{Name: "q", Result: name}}}, name == "word")
		checkSignature(t, impl.Signature{Sorts: []string{"q"}, Ops: []impl.Op{{Name: "q", Args: []string{"q", name}, Result: "q"}}}, name == "word" || name == "q")
	}
}

func TestFindOp(t *testing.T) {
	words := []string{"word", "word"}
	reserved := signature("e", "plus e : e", "minus e e e : e", "times : e", "add e : e")
	double := signature("e d", "a : e", "f e : d", "f d d : e", "a word : d", "f : word")
	unnamed := signature("e", "a : e", "_ e : e", "F word : e", "f-g : e")
	for _, c := range []struct {
		s    impl.Signature
		name string
		want impl.Op
	}{
		{expressions(), "num", impl.Op{Name: "num", Args: []string{"word"}, Result: "e"}},
		{expressions(), "add", impl.Op{Name: "add", Args: []string{"e", "e"}, Result: "e"}},
		{expressions(), "mul", impl.Op{Name: "mul", Args: []string{"e", "e"}, Result: "e"}},
		{expressions(), "ifz", impl.Op{Name: "ifz", Args: []string{"e", "e", "e"}, Result: "e"}},
		{stackMachine(), "halt", impl.Op{Name: "halt", Result: "i"}},
		{stackMachine(), "nil", impl.Op{Name: "nil", Result: "s"}},
		{stackMachine(), "push", impl.Op{Name: "push", Args: []string{"word", "i"}, Result: "i"}},
		{stackMachine(), "comp", impl.Op{Name: "comp", Args: []string{"e", "i"}, Result: "i"}},
		{impl.Signature{}, "plus", impl.Op{Name: "plus", Args: words, Result: "word"}},
		{impl.Signature{}, "minus", impl.Op{Name: "minus", Args: words, Result: "word"}},
		{impl.Signature{}, "times", impl.Op{Name: "times", Args: words, Result: "word"}},
		{expressions(), "plus", impl.Op{Name: "plus", Args: words, Result: "word"}},
		{reserved, "plus", impl.Op{Name: "plus", Args: words, Result: "word"}},
		{reserved, "minus", impl.Op{Name: "minus", Args: words, Result: "word"}},
		{reserved, "times", impl.Op{Name: "times", Args: words, Result: "word"}},
		{reserved, "add", impl.Op{Name: "add", Args: []string{"e"}, Result: "e"}},
		{double, "f", impl.Op{Name: "f", Args: []string{"e"}, Result: "d"}},
		{double, "a", impl.Op{Name: "a", Result: "e"}},
		// Names that are none, in signatures that are not valid.
		{unnamed, "", impl.Op{Args: []string{"e"}, Result: "e"}},
		{unnamed, "F", impl.Op{Name: "F", Args: []string{"word"}, Result: "e"}},
		{unnamed, "f-g", impl.Op{Name: "f-g", Result: "e"}},
		{signature("", "f x _ y : _"), "f", impl.Op{Name: "f", Args: []string{"x", "", "y"}}},
		{impl.Signature{Ops: []impl.Op{{}}}, "", impl.Op{}},
	} {
		if got, ok := impl.FindOp(c.s, c.name); !ok || !sameOp(got, c.want) {
			t.Errorf("FindOp(%v, %q) = %v, %v, want %v", c.s, c.name, got, ok, c.want)
		}
	}
}

func TestOperatorsThatThereAreNot(t *testing.T) {
	for _, s := range append(looseSignatures()[:5], expressions(), stackMachine(), signature("e word d nope")) {
		for _, name := range []string{"", "e", "d", "word", "nope", "ad", "addd", "Add", "add ", "add e", "X", "pluss", "plu", "Plus", "\xff", strings.Repeat("f", 1000)} {
			if got, ok := impl.FindOp(s, name); ok || !sameOp(got, impl.Op{}) {
				t.Errorf("FindOp(%v, %q) = %v, %v", s, name, got, ok)
			}
		}
	}
}

func TestSortsOfTerms(t *testing.T) {
	for _, c := range []struct {
		s    impl.Signature
		term string
		vars string
		want string
	}{
		{expressions(), "0", "", "word"},
		{expressions(), "3", "X:e", "word"},
		{expressions(), "num(2)", "", "e"},
		{expressions(), "add(num(1), num(2))", "", "e"},
		{expressions(), "ifz(num(0), add(num(1), num(2)), mul(num(3), num(0)))", "", "e"},
		{expressions(), "num(plus(1, times(2, minus(3, 1))))", "", "e"},
		{expressions(), "plus(1, 2)", "", "word"},
		{expressions(), "minus(plus(1, 2), times(0, 3))", "", "word"},
		{expressions(), "X", "X:e", "e"},
		{expressions(), "X", "X:word", "word"},
		{expressions(), "X", "X:other", "other"},
		{expressions(), "X", "Y:e X:word", "word"},
		{expressions(), "num(N)", "N:word", "e"},
		{expressions(), "add(X, Y)", "X:e Y:e", "e"},
		{expressions(), "add(X, X)", "X:e", "e"},
		{expressions(), "add(X, num(plus(N, 1)))", "X:e N:word", "e"},
		{expressions(), "times(N, M)", "M:word N:word", "word"},
		{stackMachine(), "halt", "", "i"},
		{stackMachine(), "nil", "", "s"},
		{stackMachine(), "cons(1, cons(N, nil))", "N:word", "s"},
		{stackMachine(), "run(push(1, sum(halt)), cons(3, nil))", "", "c"},
		{stackMachine(), "run(comp(add(num(N), num(M)), halt), S)", "N:word M:word S:s", "c"},
		{stackMachine(), "comp(X, comp(Y, sum(I)))", "X:e Y:e I:i", "i"},
		{signature("c", "loop word word : c"), "loop(minus(N, 1), plus(M, 1))", "N:word M:word", "c"},
		{signature("e", "e e : e", "word : e"), "e(word)", "", "e"},
		{signature("e", "f word : word"), "f(f(f(plus(f(1), 2))))", "", "word"},
		// The first of two elements with the same name.
		{expressions(), "X", "X:e X:word", "e"},
		{expressions(), "X", "X:word X:e", "word"},
		{expressions(), "X", "X: X:e", ""},
		{expressions(), "add(X, X)", "X:e X:word", "e"},
		{expressions(), "add(X, X)", "X:word X:e", ""},
		{expressions(), "num(X)", "X:e X:word", ""},
		{expressions(), "num(X)", "Y:e X:word Y:word X:e", "e"},
		// Variables that there are not, or have no sort.
		{expressions(), "X", "", ""},
		{expressions(), "X", "Y:e", ""},
		{expressions(), "X", "x:e", ""},
		{expressions(), "X", "X1:e Xx:e", ""},
		{expressions(), "X", "X:", ""},
		{expressions(), "num(X)", "", ""},
		{expressions(), "num(X)", "X:", ""},
		{expressions(), "add(X, Y)", "X:e", ""},
		{expressions(), "add(X, Y)", "Y:e", ""},
		{expressions(), "plus(N, M)", "N:word", ""},
		// Too few and too many arguments.
		{expressions(), "num", "", ""},
		{expressions(), "num(1, 2)", "", ""},
		{expressions(), "add", "", ""},
		{expressions(), "add(num(1))", "", ""},
		{expressions(), "add(num(1), num(1), num(1))", "", ""},
		{expressions(), "ifz(num(1), num(1))", "", ""},
		{expressions(), "ifz(num(1), num(1), num(1), num(1))", "", ""},
		{expressions(), "plus", "", ""},
		{expressions(), "plus(1)", "", ""},
		{expressions(), "times(1, 2, 3)", "", ""},
		{stackMachine(), "halt(1)", "", ""},
		{stackMachine(), "nil(nil)", "", ""},
		{expressions(), "add(num(1), num)", "", ""},
		{expressions(), "num(plus(1))", "", ""},
		// Arguments of another sort.
		{expressions(), "num(num(1))", "", ""},
		{expressions(), "add(1, num(1))", "", ""},
		{expressions(), "add(num(1), 1)", "", ""},
		{expressions(), "ifz(num(1), num(1), 1)", "", ""},
		{expressions(), "plus(num(1), 1)", "", ""},
		{expressions(), "minus(1, num(1))", "", ""},
		{expressions(), "num(X)", "X:e", ""},
		{expressions(), "add(X, Y)", "X:e Y:word", ""},
		{expressions(), "add(num(1), add(num(1), add(num(1), 2)))", "", ""},
		{stackMachine(), "run(nil, halt)", "", ""},
		{stackMachine(), "push(1, nil)", "", ""},
		{stackMachine(), "cons(nil, nil)", "", ""},
		// Operators that there are not.
		{expressions(), "a", "", ""},
		{expressions(), "sub(num(1), num(2))", "", ""},
		{expressions(), "add(num(1), a)", "", ""},
		{expressions(), "add(a, num(1))", "", ""},
		{expressions(), "a(num(1))", "", ""},
		{expressions(), "e", "", ""},
		{expressions(), "word", "", ""},
		{expressions(), "num(word)", "", ""},
		{impl.Signature{}, "a", "", ""},
		{impl.Signature{}, "plus(1, 1)", "", "word"},
		{impl.Signature{}, "plus(X, 1)", "X:word", "word"},
	} {
		checkSort(t, c.s, must(t, c.term), varSorts(c.vars), c.want)
	}
}

func TestSortsInLooseSignatures(t *testing.T) {
	empty, double, undeclared, reserved := looseSignatures()[1], looseSignatures()[2], looseSignatures()[3], looseSignatures()[4]
	for _, c := range []struct {
		s    impl.Signature
		term string
		vars string
		want string
	}{
		// No sort fits "", also where it is demanded.
		{empty, "f(1)", "", ""},
		{empty, "f(a)", "", ""},
		{empty, "f(X)", "", ""},
		{empty, "f(X)", "X:", ""},
		{empty, "f(h)", "", ""},
		{empty, "f(g(a))", "", ""},
		{empty, "f(nope)", "", ""},
		{empty, "f(f(a))", "", ""},
		{empty, "f", "", ""},
		{empty, "k(a, h)", "", ""},
		{empty, "k(a, X)", "X:", ""},
		{empty, "k(a, nope)", "", ""},
		{empty, "g(a)", "", ""},
		{empty, "g(h)", "", ""},
		{empty, "h", "", ""},
		{empty, "a", "", "e"},
		// The first of two operators.
		{double, "a", "", "e"},
		{double, "f(a)", "", "e"},
		{double, "f(f(f(a)))", "", "e"},
		{double, "f(1)", "", ""},
		{double, "g(f(1))", "", ""},
		{double, "g(a)", "", ""},
		{double, "k(f(a), g(2))", "", "e"},
		// Sorts that are not declared.
		{undeclared, "a", "", "nosort"},
		{undeclared, "f(a)", "", "other"},
		{undeclared, "g(f(a))", "", "word"},
		{undeclared, "k(f(a), f(X))", "X:nosort", "nosort"},
		{undeclared, "g(a)", "", ""},
		{undeclared, "f(1)", "", ""},
		// The built-in operators stay what they are.
		{reserved, "plus(1, 2)", "", "word"},
		{reserved, "plus(f(1))", "", ""},
		{reserved, "minus", "", ""},
		{reserved, "minus(a, 2)", "", "word"},
		{reserved, "times(f(1), f(1), f(1))", "", ""},
		{reserved, "f(times(a, minus(3, 2)))", "", "e"},
		{reserved, "k(plus(1, 2), f(1))", "", "e"},
	} {
		checkSort(t, c.s, must(t, c.term), varSorts(c.vars), c.want)
		checkSort(t, c.s, must(t, c.term), varSorts(c.vars), plainSort(c.s, must(t, c.term), varSorts(c.vars)))
	}
}

func TestSortsOfTermsThatAreNotValid(t *testing.T) {
	s, vars := expressions(), varSorts("X:e N:word")
	x, one := variable("X"), word(1)
	wordWith := func(args ...impl.Term) impl.Term { return impl.Term{Kind: impl.TmWord, N: 1, Args: args} }
	varWith := func(name string, args ...impl.Term) impl.Term {
		return impl.Term{Kind: impl.TmVar, N: 1, Name: name, Args: args}
	}
	for _, c := range []struct {
		term impl.Term
		want string
	}{
		// The kind alone decides what a node is.
		{word(4), "word"},
		{word(-1), "word"},
		{word(math.MaxInt), "word"},
		{impl.Term{Kind: impl.TmWord, Name: "X"}, "word"},
		{impl.Term{Kind: impl.TmWord, Name: "num"}, "word"},
		{impl.Term{Kind: impl.TmVar, N: 3, Name: "X"}, "e"},
		{impl.Term{Kind: impl.TmApp, N: 3, Name: "num", Args: []impl.Term{one}}, "e"},
		{operator("num", word(9)), "e"},
		{operator("X"), ""},
		{variable("num"), ""},
		{variable(""), ""},
		{operator(""), ""},
		{operator("add", varWith("X"), x), "e"},
		// What stands below a word or a variable has no part in its sort.
		{wordWith(one), "word"},
		{wordWith(operator("nope", variable("Y"))), "word"},
		{varWith("X", operator("nope")), "e"},
		{varWith("N", x, impl.Term{}), "word"},
		{varWith("Y", x), ""},
		{operator("num", wordWith(x, impl.Term{})), "e"},
		{operator("num", varWith("N", operator("nope"))), "e"},
		{operator("add", varWith("X", operator("num", x)), operator("num", wordWith(operator("num", x)))), "e"},
		{operator("add", varWith("X", x), operator("num", x)), ""},
	} {
		checkSort(t, s, c.term, vars, c.want)
	}
	for _, kind := range []int{0, -1, -2, 4, 5, 257, 258, 259, 1<<32 + 1, 1<<32 + 2, 1<<32 + 3, math.MinInt, math.MaxInt} {
		for _, node := range []impl.Term{{Kind: kind}, {Kind: kind, N: 1}, {Kind: kind, Name: "X"}, {Kind: kind, Name: "num", Args: []impl.Term{one}}, {Kind: kind, Name: "plus", Args: []impl.Term{one, one}}, {Kind: kind, Name: "word"}} {
			checkSort(t, s, node, vars, "")
			checkSort(t, s, operator("num", node), vars, "")
			checkSort(t, s, operator("add", x, node), vars, "")
			checkSort(t, signature("e", "f _ : e"), operator("f", node), vars, "")
			checkSort(t, s, wordWith(node), vars, "word")
			for _, sort := range []string{"e", "word", "", "X"} {
				checkNotInferred(t, s, node, sort)
				checkNotInferred(t, s, operator("num", node), sort)
			}
		}
	}
	for _, term := range append(invalidTerms(), manyTerms()...) {
		for _, loose := range append(looseSignatures(), s) {
			for _, sort := range []string{"e", "word", "", "other"} {
				checkAsDeclared(t, loose, term, sort, vars)
				checkAsDeclared(t, loose, operator("f", term), sort, vars)
				checkAsDeclared(t, loose, operator("k", x, term), sort, vars)
			}
		}
	}
}

func TestInferVars(t *testing.T) {
	for _, c := range []struct {
		s    impl.Signature
		term string
		sort string
		want string
	}{
		{expressions(), "num(N)", "e", "N:word"},
		{expressions(), "add(X, Y)", "e", "X:e Y:e"},
		{expressions(), "add(X, num(plus(N, 1)))", "e", "X:e N:word"},
		{expressions(), "add(num(N), num(M))", "e", "N:word M:word"},
		{expressions(), "ifz(num(N), X, Y)", "e", "N:word X:e Y:e"},
		{expressions(), "plus(N, times(M, 2))", "word", "N:word M:word"},
		{stackMachine(), "run(push(N, I), S)", "c", "N:word I:i S:s"},
		{stackMachine(), "run(prod(I), cons(N, cons(M, S)))", "c", "I:i N:word M:word S:s"},
		{stackMachine(), "comp(add(X, Y), I)", "i", "X:e Y:e I:i"},
		{stackMachine(), "run(I, cons(minus(M, N), S))", "c", "I:i M:word N:word S:s"},
		// Without variables.
		{expressions(), "num(2)", "e", ""},
		{expressions(), "add(num(1), num(times(2, 3)))", "e", ""},
		{stackMachine(), "halt", "i", ""},
		{expressions(), "2", "word", ""},
		{expressions(), "plus(1, 2)", "word", ""},
		{impl.Signature{}, "0", "word", ""},
		// Each variable once, in the order of its first occurrence.
		{expressions(), "add(X, X)", "e", "X:e"},
		{expressions(), "ifz(X, X, X)", "e", "X:e"},
		{expressions(), "add(Z, add(A, add(Z, B)))", "e", "Z:e A:e B:e"},
		{expressions(), "add(add(add(C, A), B), add(A, C))", "e", "C:e A:e B:e"},
		{expressions(), "add(num(plus(N, M)), add(X, num(plus(M, N))))", "e", "N:word M:word X:e"},
		{expressions(), "ifz(add(num(N), X), add(Y, X), num(N))", "e", "N:word X:e Y:e"},
		{expressions(), "ifz(num(plus(C, B)), A, add(B2, A))", "e", "C:word B:word A:e B2:e"},
		// A variable alone.
		{expressions(), "X", "e", "X:e"},
		{expressions(), "X", "word", "X:word"},
		{expressions(), "X", "d", "X:d"},
		{expressions(), "X", "plus", "X:plus"},
		{expressions(), "X", "No sort", "X:No sort"},
		{expressions(), "X", "\xff", "X:\xff"},
		{impl.Signature{}, "X", "e", "X:e"},
		// An operator with the name of a sort, and sorts that differ only in length.
		{signature("e ee", "e ee : e", "ee e : ee"), "e(ee(e(X)))", "e", "X:ee"},
		{signature("", "f word : word"), "f(f(f(N)))", "word", "N:word"},
	} {
		want := varSorts(c.want)
		if c.sort == "No sort" {
			want = []impl.VarSort{{Name: "X", Sort: c.sort}}
		}
		checkInferred(t, c.s, must(t, c.term), c.sort, want)
		checkNotInferred(t, c.s, must(t, c.term), "")
		if c.term != "X" {
			for _, sort := range []string{"e", "c", "i", "word", "Word", "no", "\xff"} {
				if sort != c.sort {
					checkNotInferred(t, c.s, must(t, c.term), sort)
				}
			}
		}
	}
}

func TestVarsThatAreNotInferred(t *testing.T) {
	for _, c := range []struct {
		s    impl.Signature
		term string
		sort string
	}{
		// Two sorts demanded of one variable.
		{expressions(), "add(X, num(X))", "e"},
		{expressions(), "add(num(X), X)", "e"},
		{expressions(), "ifz(X, Y, num(X))", "e"},
		{expressions(), "ifz(num(X), num(Y), add(num(Z), add(num(Y), add(num(Z), X))))", "e"},
		{stackMachine(), "run(push(I, I), S)", "c"},
		{stackMachine(), "run(S, S)", "c"},
		{stackMachine(), "comp(X, X)", "i"},
		{stackMachine(), "cons(S, S)", "s"},
		// The same, with the sort "" below an operator that there is not, or among too many arguments.
		{expressions(), "add(X, a(X))", "e"},
		{expressions(), "add(a(X), X)", "e"},
		{expressions(), "a(X, num(X))", "e"},
		{expressions(), "num(X, X)", "e"},
		{expressions(), "add(X, Y, X)", "e"},
		{expressions(), "plus(X, X, X)", "word"},
		{stackMachine(), "halt(X)", "i"},
		{stackMachine(), "run(halt(S), S)", "c"},
		// Operators that there are not.
		{expressions(), "a", "e"},
		{expressions(), "a(X)", "e"},
		{expressions(), "a(X, Y)", "e"},
		{expressions(), "add(X, a)", "e"},
		{expressions(), "add(X, a(Y))", "e"},
		{expressions(), "add(a(X), a(X))", "e"},
		{expressions(), "word", "word"},
		{expressions(), "e", "e"},
		{impl.Signature{}, "a", "a"},
		// Too few and too many arguments.
		{expressions(), "num", "e"},
		{expressions(), "add(X)", "e"},
		{expressions(), "add(X, Y, Z)", "e"},
		{expressions(), "add(X, add(Y))", "e"},
		{expressions(), "plus(N)", "word"},
		{stackMachine(), "nil(S)", "s"},
		// Another sort than the stated or the demanded one.
		{expressions(), "num(N)", "word"},
		{expressions(), "add(X, Y)", "d"},
		{expressions(), "3", "e"},
		{expressions(), "3", "d"},
		{expressions(), "plus(N, M)", "e"},
		{expressions(), "add(X, 1)", "e"},
		{expressions(), "add(1, X)", "e"},
		{expressions(), "add(X, plus(N, M))", "e"},
		{expressions(), "num(num(N))", "e"},
		{expressions(), "num(add(X, Y))", "e"},
		{stackMachine(), "run(S, nil(S))", "c"},
		{stackMachine(), "run(halt, halt)", "c"},
		{stackMachine(), "run(I, S)", "i"},
	} {
		checkNotInferred(t, c.s, must(t, c.term), c.sort)
		checkNotInferred(t, c.s, must(t, c.term), "")
	}
	for _, term := range []string{"X", "0", "a", "num(1)", "num(N)", "plus(1, 2)", "a(X)"} {
		for _, s := range append(looseSignatures(), expressions(), stackMachine()) {
			checkNotInferred(t, s, must(t, term), "")
		}
	}
}

func TestVarsInLooseSignatures(t *testing.T) {
	empty, double, undeclared, reserved := looseSignatures()[1], looseSignatures()[2], looseSignatures()[3], looseSignatures()[4]
	for _, c := range []struct {
		s    impl.Signature
		term string
		sort string
		want string
	}{
		{double, "f(X)", "e", "X:e"},
		{double, "k(f(X), g(Y))", "e", "X:e Y:word"},
		{undeclared, "f(X)", "other", "X:nosort"},
		{undeclared, "k(X, f(Y))", "nosort", "X:other Y:nosort"},
		{undeclared, "g(X)", "word", "X:other"},
		{undeclared, "a", "nosort", ""},
		{reserved, "plus(X, Y)", "word", "X:word Y:word"},
		{reserved, "f(times(X, a))", "e", "X:word"},
		{reserved, "k(X, Y)", "e", "X:word Y:e"},
	} {
		checkInferred(t, c.s, must(t, c.term), c.sort, varSorts(c.want))
	}
	for _, c := range []struct {
		s    impl.Signature
		term string
		sort string
	}{
		{empty, "f(X)", "e"},
		{empty, "k(X, Y)", "e"},
		{empty, "k(X, X)", "e"},
		{empty, "g(X)", "e"},
		{empty, "g(X)", ""},
		{empty, "h", ""},
		{empty, "f(h)", "e"},
		{empty, "f(g(X))", "e"},
		{double, "f(X)", "word"},
		{double, "f(1)", "word"},
		{double, "a", "word"},
		{double, "k(X, f(1))", "e"},
		{undeclared, "f(X)", "nosort"},
		{undeclared, "k(X, f(X))", "nosort"},
		{reserved, "plus(X)", "e"},
		{reserved, "minus", "e"},
		{reserved, "times(X, Y, Z)", "e"},
		{reserved, "plus(X, f(Y))", "word"},
	} {
		checkNotInferred(t, c.s, must(t, c.term), c.sort)
	}
}

func TestVarsBelowNodesThatAreNoOperators(t *testing.T) {
	s := expressions()
	x, y := variable("X"), variable("Y")
	below := func(kind int, name string, args ...impl.Term) impl.Term {
		return impl.Term{Kind: kind, Name: name, Args: args}
	}
	for _, c := range []struct {
		term impl.Term
		sort string
		want string
	}{
		// What stands below a variable is not looked at.
		{below(impl.TmVar, "X", y), "e", "X:e"},
		{below(impl.TmVar, "X", x), "e", "X:e"},
		{below(impl.TmVar, "X", below(impl.TmVar, "X", x), operator("num", x), operator("nope")), "e", "X:e"},
		{operator("add", below(impl.TmVar, "X", y), y), "e", "X:e Y:e"},
		{operator("add", below(impl.TmVar, "X", operator("num", y)), y), "e", "X:e Y:e"},
		{operator("add", y, below(impl.TmVar, "X", operator("num", y))), "e", "Y:e X:e"},
		// Below a word no operator demands anything, but one that stands there does.
		{below(impl.TmWord, "", x), "word", "X:"},
		{below(impl.TmWord, "", x, x, y), "word", "X: Y:"},
		{below(impl.TmWord, "num", x), "word", "X:"},
		{below(impl.TmWord, "", operator("num", x)), "word", "X:word"},
		{below(impl.TmWord, "", operator("num", x, y), below(9, "add", y)), "word", "X:word Y:"},
		{below(impl.TmWord, "", operator("plus", word(1), y, x)), "word", "Y:word X:"},
		{below(impl.TmWord, "", operator("nope", x), operator("ifz", y)), "word", "X: Y:e"},
		{operator("num", below(impl.TmWord, "", x)), "e", "X:"},
		{operator("add", operator("num", below(impl.TmWord, "", operator("add", x))), y), "e", "X:e Y:e"},
	} {
		checkInferred(t, s, c.term, c.sort, varSorts(c.want))
		checkNotInferred(t, s, c.term, "")
	}
	for _, term := range []impl.Term{
		operator("add", x, operator("num", below(impl.TmWord, "", x))),
		operator("add", operator("num", below(impl.TmWord, "", x)), x),
		operator("num", below(impl.TmWord, "", x, operator("num", x))),
		operator("add", x, below(0, "add", y)),
		operator("add", x, below(0, "add", x)),
		below(0, "add", x, y),
		below(4, "num", x),
	} {
		for _, sort := range []string{"e", "word", ""} {
			checkNotInferred(t, s, term, sort)
		}
	}
}

// smallTerms returns terms of operators that there are, with right and wrong arguments, and of some that there are not in every signature.
func smallTerms() []impl.Term {
	leaves := []impl.Term{variable("X"), variable("Y"), word(2), operator("a"), operator("nope")}
	level := slices.Clone(leaves)
	for _, name := range []string{"f", "g", "k", "plus", "nope"} {
		for _, p := range leaves {
			level = append(level, operator(name, p))
			for _, q := range leaves {
				level = append(level, operator(name, p, q))
			}
		}
	}
	all := slices.Clone(level)
	for _, p := range level {
		all = append(all, operator("f", p), operator("g", p), operator("h", variable("Y"), p, variable("X")), operator("times", p, variable("Y")))
		for _, q := range level {
			all = append(all, operator("k", p, q))
		}
	}
	return all
}

func TestInferredVarsGiveTheDemandedSort(t *testing.T) {
	signatures := append(looseSignatures(),
		signature("e", "f e : e", "g word : e", "k e e : e", "a : e"),
		signature("e", "f word : e", "g e : word", "k e word : e", "a : word"),
		signature("e d", "f e : d", "g d : e", "k d e : d", "h word d e : e", "a : d"),
		signature("e", "f e e : e", "g word word : e", "k word e : word", "h e e e : e"),
		signature("e d", "f word e : e", "g d : e", "k e e : d", "h e d word : d", "nope : e"))
	inferred := 0
	for _, term := range smallTerms() {
		for _, s := range signatures {
			for _, sort := range []string{"e", "d", "word", "nosort", "no", ""} {
				vars, ok := impl.InferVars(s, term, sort)
				want, isInferred := plainVars(s, term, sort)
				if ok != isInferred || !slices.Equal(vars, want) {
					t.Fatalf("InferVars(%v, %v, %q) = %v, %v, want %v, %v", s, term, sort, vars, ok, want, isInferred)
				}
				if !ok {
					continue
				}
				inferred++
				if got := impl.SortOf(s, term, vars); got != sort || sort == "" {
					t.Fatalf("SortOf(%v, %v, %v) = %q, but the sorts are inferred for %q", s, term, vars, got, sort)
				}
				var names []string
				for _, v := range vars {
					names = append(names, v.Name)
				}
				if !slices.Equal(impl.SortNames(names), impl.VarsOfTerm(term)) || !impl.AllDistinct(names) {
					t.Fatalf("InferVars(%v, %v, %q) = %v", s, term, sort, vars)
				}
			}
		}
	}
	if inferred < 1000 {
		t.Errorf("only %d terms have a sort", inferred)
	}
}

func TestSortsOfSmallTerms(t *testing.T) {
	signatures := append(looseSignatures(),
		signature("e", "f e : e", "g word : e", "k e e : e", "a : e"),
		signature("e d", "f e : d", "g d : e", "k d e : d", "h word d e : e", "a : d"))
	all := [][]impl.VarSort{nil, varSorts("X:e"), varSorts("X:e Y:word"), varSorts("Y:e X:word Y:d"), varSorts("X:d Y:d X:e"), varSorts("X: Y:e X:e Y:")}
	sorted := 0
	for _, term := range smallTerms() {
		for _, s := range signatures {
			for _, vars := range all {
				got, want := impl.SortOf(s, term, vars), plainSort(s, term, vars)
				if got != want {
					t.Fatalf("SortOf(%v, %v, %v) = %q, want %q", s, term, vars, got, want)
				}
				if got != "" {
					sorted++
				}
			}
		}
	}
	if sorted < 1000 {
		t.Errorf("only %d terms have a sort", sorted)
	}
}

func TestNilAndEmptyListsOfSignatures(t *testing.T) {
	a := operator("a")
	for _, args := range [][]string{nil, {}, []string{"e"}[:0]} {
		for _, sorts := range [][]string{nil, {}} {
			s := impl.Signature{Sorts: sorts, Ops: []impl.Op{{Name: "a", Args: args, Result: "word"}}}
			checkSignature(t, s, true)
			if got, ok := impl.FindOp(s, "a"); !ok || !sameOp(got, impl.Op{Name: "a", Result: "word"}) {
				t.Errorf("FindOp(%v) = %v, %v", s, got, ok)
			}
			for _, below := range [][]impl.Term{nil, {}} {
				a.Args = below
				for _, vars := range [][]impl.VarSort{nil, {}} {
					checkSort(t, s, a, vars, "word")
				}
				checkInferred(t, s, a, "word", nil)
			}
		}
	}
}

// spareStrings copies a list into memory with unused capacity that holds spare.
func spareStrings(list []string, spare string) []string {
	return append(slices.Clone(list), spare, spare)[:len(list)]
}

// signatureWithSpare copies a signature so that each of its lists has unused capacity. What stands there would make it another one.
func signatureWithSpare(s impl.Signature) impl.Signature {
	spare := impl.Op{Name: "nope", Args: []string{"e"}, Result: "e"}
	ops := append(cloneSignature(s).Ops, spare, spare)
	for i := range s.Ops {
		ops[i].Args = spareStrings(ops[i].Args, "spare")
	}
	return impl.Signature{Sorts: spareStrings(s.Sorts, "spare"), Ops: ops[:len(s.Ops)]}
}

// cloneSignature copies a signature with all of the memory of its lists, their unused capacity included.
func cloneSignature(s impl.Signature) impl.Signature {
	ops := slices.Clone(s.Ops[:cap(s.Ops)])
	for i := range ops {
		args := ops[i].Args
		ops[i].Args = slices.Clone(args[:cap(args)])[:len(args)]
	}
	return impl.Signature{Sorts: slices.Clone(s.Sorts[:cap(s.Sorts)])[:len(s.Sorts)], Ops: ops[:len(s.Ops)]}
}

func sameSignatureMemory(a, b impl.Signature) bool {
	sameOps := func(a, b impl.Op) bool {
		return a.Name == b.Name && a.Result == b.Result && len(a.Args) == len(b.Args) && slices.Equal(a.Args[:cap(a.Args)], b.Args[:len(a.Args[:cap(a.Args)])])
	}
	return len(a.Sorts) == len(b.Sorts) && len(a.Ops) == len(b.Ops) &&
		slices.Equal(a.Sorts[:cap(a.Sorts)], b.Sorts[:cap(a.Sorts)]) &&
		slices.EqualFunc(a.Ops[:cap(a.Ops)], b.Ops[:cap(a.Ops)], sameOps)
}

func TestSignaturesAndTermsAreNotChanged(t *testing.T) {
	terms := []impl.Term{must(t, "add(X, num(plus(N, 1)))"), must(t, "run(push(N, I), S)"), must(t, "k(f(X), g(X))"), must(t, "a(X, num(X))"), must(t, "X"), must(t, "nope(1)"), {Kind: impl.TmWord, Args: []impl.Term{variable("X")}}}
	for _, plain := range append(looseSignatures(), expressions(), stackMachine()) {
		s := signatureWithSpare(plain)
		keptSignature := cloneSignature(s)
		if impl.IsValidSignature(s) != impl.IsValidSignature(plain) {
			t.Errorf("IsValidSignature(%v) depends on unused capacity", plain)
		}
		for _, name := range []string{"add", "plus", "nope", "a", ""} {
			got, ok := impl.FindOp(s, name)
			if want := declared(plain, name); ok != (want != nil) || ok && !sameOp(got, *want) {
				t.Errorf("FindOp(%v, %q) = %v, %v", plain, name, got, ok)
			}
		}
		for _, term := range terms {
			whole := termWithSpare(term, word(1))
			vars := append(varSorts("X:e N:word X:word S:s"), varSorts("I:i Y:e")...)[:4]
			kept, keptVars := deepClone(whole), slices.Clone(vars[:cap(vars)])
			for _, sort := range []string{"e", "word", "c", ""} {
				checkAsDeclared(t, s, whole, sort, vars)
			}
			if !sameMemory(whole, kept) || !slices.Equal(vars[:cap(vars)], keptVars) {
				t.Errorf("%v or %v was changed", kept, keptVars)
			}
		}
		if !sameSignatureMemory(keptSignature, s) {
			t.Errorf("%v was changed to %v", keptSignature, s)
		}
	}
}

// overwriteOp writes to all of an operator that its receiver may write to, also by append.
func overwriteOp(op impl.Op) {
	_ = append(op.Args, "appended")
	for i := range op.Args {
		op.Args[i] = "written"
	}
}

func TestFoundOperatorsShareNoMemory(t *testing.T) {
	for _, plain := range append(looseSignatures(), expressions(), stackMachine()) {
		s := signatureWithSpare(plain)
		kept := cloneSignature(s)
		for _, name := range []string{"plus", "minus", "times", "num", "add", "ifz", "push", "run", "halt", "f", "g", "k", "a", "nope"} {
			first, _ := impl.FindOp(s, name)
			second, _ := impl.FindOp(s, name)
			overwriteOp(first)
			if want := declared(plain, name); want != nil && !sameOp(second, *want) {
				t.Errorf("writing to FindOp(%v, %q) changes another result to %v", plain, name, second)
			}
			overwriteOp(second)
			third, ok := impl.FindOp(s, name)
			if want := declared(plain, name); want != nil && (!ok || !sameOp(third, *want)) {
				t.Errorf("writing to FindOp(%v, %q) changes the next result to %v", plain, name, third)
			}
		}
		if !sameSignatureMemory(kept, s) {
			t.Errorf("writing to results of FindOp changes %v to %v", kept, s)
		}
		checkSort(t, s, must(t, "plus(1, 2)"), nil, "word")
	}
}

func TestInferredVarsShareNoMemory(t *testing.T) {
	written := impl.VarSort{Name: "Written", Sort: "written"}
	for _, c := range []struct {
		s    impl.Signature
		term string
		sort string
	}{
		{expressions(), "add(X, num(plus(N, 1)))", "e"},
		{expressions(), "add(X, add(Y, Z))", "e"},
		{stackMachine(), "run(prod(I), cons(N, cons(M, S)))", "c"},
		{expressions(), "X", "e"},
		{expressions(), "num(1)", "e"},
	} {
		s, term := signatureWithSpare(c.s), termWithSpare(must(t, c.term), word(1))
		keptSignature, kept := cloneSignature(s), deepClone(term)
		want, _ := plainVars(c.s, term, c.sort)
		var results [][]impl.VarSort
		for range 3 {
			got, _ := impl.InferVars(s, term, c.sort)
			results = append(results, got)
		}
		for _, result := range results {
			if !slices.Equal(result, want) {
				t.Errorf("writing to a result of InferVars for %s changes another one to %v", c.term, result)
			}
			_ = append(result, written)
			for i := range result {
				result[i] = written
			}
		}
		checkInferred(t, s, term, c.sort, want)
		if !sameMemory(term, kept) || !sameSignatureMemory(keptSignature, s) {
			t.Errorf("writing to the results of InferVars for %s changes its arguments", c.term)
		}
	}
}

// checkLarge checks SortOf and InferVars without printing the term, for which the stack of its test has no room. Without a sort nothing is inferred.
func checkLarge(t *testing.T, what string, s impl.Signature, term impl.Term, vars []impl.VarSort, want string) {
	t.Helper()
	if got := impl.SortOf(s, term, vars); got != want {
		t.Errorf("%s has the sort %q, want %q", what, got, want)
	}
	got, ok := impl.InferVars(s, term, "e")
	if ok != (want == "e") || ok && !slices.Equal(got, vars) || !ok && len(got) > 0 {
		t.Errorf("%s: %d sorts of variables are inferred, %v", what, len(got), ok)
	}
	for _, sort := range []string{"word", ""} {
		if got, ok := impl.InferVars(s, term, sort); ok || len(got) > 0 {
			t.Errorf("%s: %d sorts of variables are inferred for %q, %v", what, len(got), sort, ok)
		}
	}
}

func TestSortsOfLargeTerms(t *testing.T) {
	const size = 30000
	// A stack in which there is no room for a call for each level of a deep term.
	defer debug.SetMaxStack(debug.SetMaxStack(1 << 20))
	s := signature("e", "f e : e", "k e e : e", "a : e")
	s.Ops = append(s.Ops, impl.Op{Name: "h", Args: slices.Repeat([]string{"e"}, size), Result: "e"})
	x := variable("X")
	comb, balanced := operator("a"), x
	var many []impl.Term
	var names []impl.VarSort
	for i := range size {
		comb = operator("k", x, comb)
		many = append(many, variable("X"+impl.FormatInt(i)))
		names = append(names, impl.VarSort{Name: many[i].Name, Sort: "e"})
	}
	for range 16 {
		balanced = operator("k", balanced, balanced)
	}
	vars := varSorts("X:e")
	for what, term := range map[string]impl.Term{
		"a chain": chain(size, x), "a comb": comb, "a balanced term": balanced,
		"a wide term": operator("h", slices.Repeat([]impl.Term{x}, size)...),
	} {
		checkLarge(t, what, s, term, vars, "e")
		checkLarge(t, what+" and a word", s, operator("k", term, word(1)), vars, "")
		checkLarge(t, what+" and an operator on words", s, operator("k", term, operator("plus", x, x)), vars, "")
		checkLarge(t, what+" below an operator that there is not", s, operator("nope", term), vars, "")
		if got := impl.SortOf(s, term, nil); got != "" {
			t.Errorf("%s has the sort %q without one of its variable", what, got)
		}
	}
	checkLarge(t, "a term of many variables", s, operator("h", many...), names, "e")
	for what, last := range map[string]impl.Term{"a word": word(1), "no operator": operator("nope"), "no argument": operator("f"), "no kind": {}} {
		checkLarge(t, "a chain that ends with "+what, s, chain(size, last), names, "")
		checkLarge(t, "a wide term that ends with "+what, s, operator("h", append(slices.Clone(many[1:]), last)...), names, "")
	}
	checkLarge(t, "a wide term with an argument too few", s, operator("h", many[1:]...), names, "")
	checkLarge(t, "a wide term with an argument too many", s, operator("h", append(slices.Clone(many), many[0])...), names, "")
}

func TestSignaturesBeyondAllLimits(t *testing.T) {
	const size = 100000
	var s impl.Signature
	for i := range size {
		s.Sorts = append(s.Sorts, "s"+impl.FormatInt(i))
		s.Ops = append(s.Ops, impl.Op{Name: "f" + impl.FormatInt(i), Args: s.Sorts[:1], Result: s.Sorts[i]})
	}
	last := s.Ops[size-1]
	checkSignature(t, s, false)
	checkSignature(t, impl.Signature{Sorts: s.Sorts}, false)
	checkSignature(t, impl.Signature{Sorts: s.Sorts[:1], Ops: s.Ops[:1]}, true)
	checkSignature(t, impl.Signature{Sorts: s.Sorts[:1], Ops: []impl.Op{{Name: "f", Args: slices.Repeat(s.Sorts[:1], size), Result: "s0"}}}, false)
	checkSignature(t, impl.Signature{Sorts: []string{strings.Repeat("s", size)}}, false)
	if got, ok := impl.FindOp(s, last.Name); !ok || !sameOp(got, last) {
		t.Errorf("the last of %d operators is found as %v, %v", size, got, ok)
	}
	checkSort(t, s, operator(last.Name, variable("X")), varSorts("X:s0"), last.Result)
	checkInferred(t, s, operator(last.Name, variable("X")), last.Result, varSorts("X:s0"))
}
