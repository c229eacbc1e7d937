package tests

import (
	"regexp"
	"runtime/debug"
	"slices"
	"strings"
	"testing"

	"loop.example/g00517/impl"
)

// plainText writes a valid term as the document says, without the program.
func plainText(t impl.Term) string {
	if t.Kind == impl.TmWord {
		return string(rune('0' + t.N))
	}
	text := t.Name
	for i, arg := range t.Args {
		if i == 0 {
			text += "("
		} else {
			text += ", "
		}
		text += plainText(arg)
	}
	if len(t.Args) > 0 {
		text += ")"
	}
	return text
}

var (
	operatorStart = regexp.MustCompile(`^[a-z][a-z0-9]{0,7}`)
	variableStart = regexp.MustCompile(`^[A-Z][a-z0-9]{0,7}`)
	wordStart     = regexp.MustCompile(`^[0-3]`)
)

// termAtStart reads a term at the start of s, strictly as the document says and without the program, and returns what follows it.
func termAtStart(s string) (impl.Term, string, bool) {
	if text := wordStart.FindString(s); text != "" {
		return word(int(text[0] - '0')), s[1:], true
	}
	if name := variableStart.FindString(s); name != "" {
		return variable(name), s[len(name):], true
	}
	name := operatorStart.FindString(s)
	t, rest := operator(name), s[len(name):]
	if name == "" || !strings.HasPrefix(rest, "(") {
		return t, rest, name != ""
	}
	for separator := "("; strings.HasPrefix(rest, separator); separator = ", " {
		arg, after, ok := termAtStart(rest[len(separator):])
		if !ok {
			return t, rest, false
		}
		t.Args, rest = append(t.Args, arg), after
	}
	rest, ok := strings.CutPrefix(rest, ")")
	return t, rest, ok
}

// isSmall says which of the terms of termAtStart are valid: all but those that are too large.
func isSmall(t impl.Term) bool {
	positions := positionsBelow(t)
	return len(positions) <= 60 && !slices.ContainsFunc(positions, func(p []int) bool { return len(p) > 15 })
}

// checkAsRead checks ParseTerm against the strict reading of a text.
func checkAsRead(t *testing.T, s string) {
	t.Helper()
	want, rest, ok := termAtStart(s)
	if !ok || rest != "" || !isSmall(want) {
		checkNoTerm(t, s)
		return
	}
	checkText(t, want, s)
}

// checkText checks that a term and a text belong to each other, in both directions.
func checkText(t *testing.T, term impl.Term, s string) {
	t.Helper()
	if got := impl.FormatTerm(term); got != s {
		t.Errorf("FormatTerm(%v) = %q, want %q", term, got, s)
	}
	if got, ok := impl.ParseTerm(s); !ok || !equalTerms(got, term) {
		t.Errorf("ParseTerm(%q) = %v, %v, want %v", s, got, ok, term)
	}
}

func checkNoTerm(t *testing.T, s string) {
	t.Helper()
	if got, ok := impl.ParseTerm(s); ok || !isZeroTerm(got) {
		t.Errorf("ParseTerm(%q) = %v, %v", s, got, ok)
	}
}

func checkNoText(t *testing.T, term impl.Term) {
	t.Helper()
	if got := impl.FormatTerm(term); got != "" {
		t.Errorf("FormatTerm(%v) = %q", term, got)
	}
}

func TestTextConstants(t *testing.T) {
	if impl.MaxText != 600 {
		t.Error("limit")
	}
}

func TestTextsOfTerms(t *testing.T) {
	x, y, a, b := variable("X"), variable("Y2"), operator("a"), operator("b")
	for _, c := range []struct {
		term impl.Term
		text string
	}{
		{x, "X"},
		{y, "Y2"},
		{variable("Zz9"), "Zz9"},
		{variable("Abcdefgh"), "Abcdefgh"},
		{variable("A1234567"), "A1234567"},
		{a, "a"},
		{operator("x"), "x"},
		{operator("zero0"), "zero0"},
		{operator("abcdefgh"), "abcdefgh"},
		{operator("z1234567"), "z1234567"},
		{word(0), "0"},
		{word(1), "1"},
		{word(2), "2"},
		{word(3), "3"},
		{operator("f", x), "f(X)"},
		{operator("f", a), "f(a)"},
		{operator("f", word(3)), "f(3)"},
		{operator("f", x, y), "f(X, Y2)"},
		{operator("f", y, x), "f(Y2, X)"},
		{operator("f", x, x, x), "f(X, X, X)"},
		{operator("f", word(0), word(1), word(2), word(3)), "f(0, 1, 2, 3)"},
		{operator("x", variable("X"), operator("x")), "x(X, x)"},
		{operator("f", operator("f", operator("f", a))), "f(f(f(a)))"},
		{operator("f", x, operator("g", word(2)), b), "f(X, g(2), b)"},
		{operator("f", operator("f", word(0), y), a), "f(f(0, Y2), a)"},
		{operator("f", a, operator("f", word(0), y)), "f(a, f(0, Y2))"},
		{operator("f", operator("g", operator("h", x), word(1)), operator("g", a, operator("h", b))), "f(g(h(X), 1), g(a, h(b)))"},
		{nestedTerm(), "f(g(X, 2), a, h(g(k(Y, b, 0), X)))"},
		{operator("plus", operator("times", variable("N"), word(2)), operator("minus", word(0), variable("M"))), "plus(times(N, 2), minus(0, M))"},
		{operator("abcdefgh", operator("bcdefghi", variable("Abcdefgh")), operator("cdefghij")), "abcdefgh(bcdefghi(Abcdefgh), cdefghij)"},
		{operator("a1", operator("a0"), variable("A1"), operator("a2", word(1))), "a1(a0, A1, a2(1))"},
	} {
		checkText(t, c.term, c.text)
		checkText(t, operator("g", c.term), "g("+c.text+")")
		checkText(t, operator("g", c.term, word(3), c.term), "g("+c.text+", 3, "+c.text+")")
	}
}

// validTerms returns valid terms of many shapes, among them the largest.
func validTerms() []impl.Term {
	x, y := variable("X"), variable("Y1")
	all := []impl.Term{
		nestedTerm(),
		chain(15, x), chain(16, x), chain(16, operator("a")), chain(16, word(2)),
		operator("f", constants(58)...), operator("f", constants(59)...),
		operator("f", slices.Repeat([]impl.Term{x}, 59)...),
		operator("f", slices.Repeat([]impl.Term{word(1)}, 59)...),
		operator("f", slices.Repeat([]impl.Term{operator("g", y)}, 29)...),
		operator("f", slices.Repeat([]impl.Term{operator("g", y, operator("h", word(0)))}, 14)...),
		operator("f", append(constants(44), chain(15, x))...),
		operator("f", append([]impl.Term{chain(15, y)}, constants(44)...)...),
		chain(15, operator("f", constants(45)...)),
		chain(14, operator("f", operator("g", constants(22)...), operator("g", constants(22)...))),
	}
	all = append(all, sharedInside()...)
	for _, term := range manyTerms() {
		if impl.IsValidTerm(term) {
			all = append(all, term)
		}
	}
	// Each subterm of a valid term is one itself.
	for _, term := range slices.Clone(all) {
		for _, p := range positionsBelow(term) {
			all = append(all, *placeIn(&term, p))
		}
	}
	return all
}

func TestTermsAreParsedFromTheirText(t *testing.T) {
	largest, deepest := 0, 0
	for _, term := range validTerms() {
		largest, deepest = max(largest, impl.CountTerm(term)), max(deepest, impl.DepthOfTerm(term))
		checkText(t, term, plainText(term))
		got, ok := impl.ParseTerm(impl.FormatTerm(term))
		if !ok || !impl.EqualTerm(got, term) || !impl.IsValidTerm(got) {
			t.Errorf("%v is parsed from its text as %v, %v", term, got, ok)
		}
		if impl.FormatTerm(got) != impl.FormatTerm(term) {
			t.Errorf("%v is parsed from its text as %v, with another text", term, got)
		}
	}
	if largest != 60 || deepest != 16 {
		t.Errorf("no term of maximum size: %d nodes, depth %d", largest, deepest)
	}
}

func TestSpacesAfterCommas(t *testing.T) {
	x, y, z := variable("X"), variable("Y"), variable("Z")
	checkText(t, operator("f", x, y), "f(X, Y)")
	checkText(t, operator("f", x, y, z), "f(X, Y, Z)")
	checkText(t, operator("f", operator("g", x, y), z), "f(g(X, Y), Z)")
	for _, gap := range []string{
		"", " ", ",", ",  ", ",   ", ",\t", ",\n", ",\r", ",\v", ",\f", ",\x00", ",\u00a0", ",\u2003",
		", \t", ",\t ", ", \n", ",\n ", ",\r\n", " ,", " , ", "  , ", "\t, ", "\n, ", ",,", ", ,", ", , ", ",, ", ";", "; ", ".", ". ",
	} {
		for _, s := range []string{
			"f(X" + gap + "Y)", "f(X" + gap + "Y, Z)", "f(X, Y" + gap + "Z)", "f(1" + gap + "2)", "f(a" + gap + "B)",
			"f(g(X)" + gap + "Y)", "f(X" + gap + "g(Y))", "f(g(X" + gap + "Y), Z)", "f(g(X, Y)" + gap + "Z)", "f(X" + gap + "g(Y, Z))",
		} {
			checkNoTerm(t, s)
		}
	}
	for _, space := range []string{" ", "  ", "\t", "\n", "\r\n", "\v", "\f", "\x00", "\u00a0", "\ufeff"} {
		for _, s := range []string{"X", "a", "3", "f(X)", "f(X, Y)", "f(g(X, Y), Z)"} {
			checkText(t, operator("g", must(t, s)), "g("+s+")")
			for _, wrong := range []string{
				space + s, s + space, space + s + space,
				"g(" + space + s + ")", "g(" + s + space + ")", "g" + space + "(" + s + ")",
				"g(" + space + s + ", Z)", "g(Z, " + s + space + ")", "g(Z, " + space + s + ")", "g(" + s + space + ", Z)",
				"g(g(" + s + ")" + space + ")", "g(g(" + s + "))" + space,
			} {
				checkNoTerm(t, wrong)
			}
		}
		checkNoTerm(t, space)
		checkNoTerm(t, "f("+space+")")
	}
}

func must(t *testing.T, s string) impl.Term {
	t.Helper()
	term, ok := impl.ParseTerm(s)
	if !ok {
		t.Fatalf("ParseTerm(%q) fails", s)
	}
	return term
}

func TestTextsThatAreNoRepresentation(t *testing.T) {
	for _, s := range []string{
		"", " ", "(", ")", ",", ", ", "()", "(X)", "(a)", "(3)", "(f(X))", "((X))", "(X, Y)", ")(",
		"f()", "f( )", "f(,)", "f(, )", "f(", "f)", "f(X", "f(X,", "f(X, ", "f(X, Y", "f(X))", "f(X)))", "f((X))", "f(X)(Y)", "f(X)()",
		"f(X,)", "f(X, )", "f(,X)", "f(, X)", "f(X, , Y)", "f(X,, Y)", "f(X Y)", "f(X, Y),", "f(X), ", "f(X), Y", "f(X), f(Y)",
		"f(g(X)", "f(g(X, Y)", "f(g(), X)", "f(g()", "f(g(X)Y)", "f(g(X)g(Y))", "f(g(X)a)", "f(g(X), )", "f(g(X),)", "f(, g(X))", "f(ag(X)h)",
		"f(X)Y", "f(X)f", "f(X)3", "f(X)f(X)", "Xf(X)", "f(X) Y", "X Y", "a b", "1 2", "X, Y", "a, b", ",X", "X,", "X)", "a)", "3)", "(X", "X(", "a(", "3(",
		"X()", "X(1)", "X(Y)", "X(a, b)", "X1(Y)", "3()", "3(X)", "0(1)", "1(2, 3)", "f(X(Y))", "f(3(Y))", "f(Y, X(a))", "f(X())", "f(3())",
		"4", "5", "9", "10", "12", "33", "00", "01", "03", "007", "+1", "-1", "-0", "+0", "- 1", "0x1", "1e0", "1.", "1.0", ".1", "1_0", "1000000", "9223372036854775807", "18446744073709551617",
		"f(4)", "f(9)", "f(00)", "f(03)", "f(+1)", "f(-1)", "f(10)", "f(1, 4)", "f(01, 1)", "f(4, 1)", "f(12)",
		"1a", "3X", "0f(X)", "1X", "f(1a)", "f(3X)",
		"XY", "aB", "fX", "Xx_", "a_", "_a", "_", "a-b", "a.b", "f(aB)", "aB(X)", "F(x)", "f(XY)", "f.(X)", "f'(X)",
		"f[X]", "f{X}", "f<X>", "f(X]", "f(X}", "f X", "f:X", "f(X:e)", "f(X; Y)", "\"f\"", "'a'", "f(X)\x00", "\x00", "a\x00", "?",
		"word N", "rule a: b => c",
	} {
		checkNoTerm(t, s)
		// Below an operator, some of these are several arguments.
		checkAsRead(t, "g("+s+")")
		checkAsRead(t, "g("+s+", 1)")
		checkAsRead(t, "g(1, "+s+")")
	}
}

// TestShortTexts goes through all strings of up to seven bytes that have a meaning somewhere in a text.
func TestShortTexts(t *testing.T) {
	parsed := 0
	for _, s := range stringsOf("fX3(), ", 7) {
		want, rest, isTerm := termAtStart(s)
		isTerm = isTerm && rest == ""
		got, ok := impl.ParseTerm(s)
		if ok != isTerm || ok && !equalTerms(got, want) || !ok && !isZeroTerm(got) {
			t.Errorf("ParseTerm(%q) = %v, %v", s, got, ok)
		}
		if ok {
			parsed++
			checkText(t, got, s)
		}
	}
	// Of 1 to 7 bytes there are 3, 4, 8, 19, 42, 92 and 212 texts.
	if parsed != 380 {
		t.Errorf("%d texts", parsed)
	}
}

// longTexts returns texts of valid terms with names and words in many places.
func longTexts() []string {
	return []string{
		"X", "a", "3", "X1", "ab", "f(X)", "f(0)", "f(X, 2)", "f(a, b, C)",
		"f(X, g(2), b)", "f(f(0, Y2), a)", "f(g(X, 2), a, h(g(k(Y, b, 0), X)))",
		"abcdefgh", "Abcdefgh", "abcdefgh(Abcdefgh, a1234567)", "f(f(f(f(f(1)))))",
		"run(push(1, push(N, sum(halt))), cons(3, nil))",
	}
}

func TestTextsWithOneByteChanged(t *testing.T) {
	for _, s := range longTexts() {
		checkAsRead(t, s)
		for i := range len(s) {
			before, after := s[:i], s[i+1:]
			checkAsRead(t, before)
			checkAsRead(t, s[i:])
			checkAsRead(t, before+after)
			checkAsRead(t, before+s[i:i+1]+s[i:])
			for b := range 256 {
				changed := string([]byte{byte(b)})
				checkAsRead(t, before+changed+after)
				checkAsRead(t, before+changed+s[i:])
			}
		}
		for b := range 256 {
			checkAsRead(t, s+string([]byte{byte(b)}))
		}
	}
}

// foreignRunes returns texts of bytes above 127: runes that look like those of a text, or become one of them if only their low bits count, and invalid UTF-8.
func foreignRunes() []string {
	all := []string{
		"\u00a0", "\u00aa", "\u00b2", "\u00e9", "\u0660", "\u0663", "\u2003", "\u3000", "\uff08", "\uff09", "\uff0c", "\uff11", "\uff21", "\uff41", "\u0430", "\u0410",
		"\ufeff", "\ufffd", "\u0301", "\u0080", "\u07ff", "\u0800", "\uffff", "\U00010000", "\U0010ffff", "\U0001d7d1",
		"\x80", "\xbf", "\xc0", "\xc1\xa1", "\xc1\xbf", "\xc0\xa8", "\xc0\xac\xc0\xa0", "\xc3", "\xe0\x81\xa1", "\xe2\x82", "\xed\xa0\x80", "\xed\xbf\xbf", "\xf0\x80\x81\xa1", "\xf0\x9f\x98", "\xf4\x90\x80\x80", "\xf5", "\xfe", "\xff", "\xff\xfe",
	}
	for _, b := range "azAZ039(), " {
		all = append(all, string(0x100+b), string(0x200+b), string(0x1f00+b), string(0x10000+b), string([]byte{0x80 + byte(b)}))
	}
	return all
}

func TestBytesAbove127(t *testing.T) {
	for _, foreign := range foreignRunes() {
		for _, s := range longTexts() {
			for i := range len(s) {
				checkNoTerm(t, s[:i]+foreign+s[i:])
				checkNoTerm(t, s[:i]+foreign+s[i+1:])
			}
			checkNoTerm(t, s+foreign)
		}
		checkNoTerm(t, foreign)
		checkNoTerm(t, "f("+foreign+")")
		checkNoTerm(t, foreign+"(X)")
	}
}

func TestNamesOfMaximumLength(t *testing.T) {
	for _, first := range []string{"a", "z", "A", "Z"} {
		for n := range 30 {
			for _, rest := range []string{"b", "z", "0", "9"} {
				name := first + strings.Repeat(rest, n)
				for _, s := range []string{name, "f(" + name + ")", "f(1, " + name + ")", "f(" + name + ", X)", name + "(X)", "f(" + name + "(a, b), 0)"} {
					isVar, hasArgs := first <= "Z", strings.Contains(s, name+"(")
					if _, ok := impl.ParseTerm(s); ok != (n < 8 && !(isVar && hasArgs)) {
						t.Errorf("ParseTerm(%q): %v", s, ok)
					}
					checkAsRead(t, s)
				}
			}
		}
		checkNoTerm(t, first+strings.Repeat("b", 6)+"\u00e9")
		checkNoTerm(t, first+strings.Repeat("b", 6)+"\xff")
		checkNoTerm(t, first+strings.Repeat("b", 7)+"\xff")
	}
	checkText(t, operator("abcdefgh", variable("Abcdefgh")), "abcdefgh(Abcdefgh)")
	for _, s := range []string{"abcdefghi", "Abcdefghi", "abcdefghi(X)", "f(abcdefghi)", "f(Abcdefghi)", "f(X, abcdefghi(1))"} {
		checkNoTerm(t, s)
	}
}

func TestDigits(t *testing.T) {
	for n := range 4 {
		text := string(rune('0' + n))
		checkText(t, word(n), text)
		checkText(t, operator("f", word(n), word(n)), "f("+text+", "+text+")")
	}
	for n := 4; n < 300; n++ {
		checkNoTerm(t, impl.FormatInt(n))
		checkNoTerm(t, "f(1, "+impl.FormatInt(n)+")")
	}
	for _, s := range stringsOf("0134+-", 4) {
		checkAsRead(t, s)
		checkAsRead(t, "f("+s+")")
		checkAsRead(t, "f(X, "+s+")")
		checkAsRead(t, "f("+s+", X)")
	}
}

// longConstants returns n constants with names of 8 bytes, the longest that are names.
func longConstants(n int) []impl.Term {
	return slices.Repeat([]impl.Term{operator("abcdefgh")}, n)
}

// longestTerms returns valid terms whose texts cannot be longer: 60 names of 8 bytes, and 2 bytes for all of the nodes but the first.
func longestTerms() []impl.Term {
	long := func(t impl.Term) impl.Term { return operator("a1234567", t) }
	deep := operator("abcdefgh", longConstants(45)...)
	for range 14 {
		deep = long(deep)
	}
	return []impl.Term{
		operator("z2345678", longConstants(59)...),
		operator("z2345678", slices.Repeat([]impl.Term{variable("Abcdefgh")}, 59)...),
		operator("z2345678", append(slices.Repeat([]impl.Term{long(variable("A1234567"))}, 29), variable("Z1234567"))...),
		deep,
	}
}

func TestLongestTexts(t *testing.T) {
	for _, term := range longestTerms() {
		s := plainText(term)
		if len(s) != 598 {
			t.Fatalf("%q has %d bytes", s, len(s))
		}
		checkText(t, term, s)
		// The only changes of the length that leave most of it as it is.
		for _, more := range []string{" ", "  ", "   ", "b", "bb", "bbb", ")", "))", ")))", ", ", ", a", "\n", "\xff", "\u00e9"} {
			checkNoTerm(t, s+more)
			checkNoTerm(t, more+s)
			for i := range len(s) {
				checkAsRead(t, s[:i]+more+s[i:])
			}
		}
	}
}

// textOfNodes returns a text of n nodes that is as a text should be in everything but, perhaps, its length, the number of nodes or the lengths of its names.
func textOfNodes(n, length int) string {
	names := slices.Repeat([]string{"b"}, n)
	for i := 0; length > n+2*(n-1); i, length = (i+1)%n, length-1 {
		names[i] += "c"
	}
	return names[0] + "(" + strings.Join(names[1:], ", ") + ")"
}

func TestTextsAtTheLimit(t *testing.T) {
	for n := 2; n <= 70; n++ {
		for _, length := range []int{n + 2*(n-1), 300, 590, 597, 598, 599, 600, 601, 602, 608, 650} {
			if length < n+2*(n-1) {
				continue
			}
			s := textOfNodes(n, length)
			if len(s) != length {
				t.Fatalf("%q has %d bytes, not %d", s, len(s), length)
			}
			isTerm := n <= 60 && length <= 8*n+2*(n-1)
			if got, ok := impl.ParseTerm(s); ok != isTerm || !ok && !isZeroTerm(got) {
				t.Errorf("ParseTerm(%q) = %v, %v", s, got, ok)
			}
			checkAsRead(t, s)
		}
	}
	// 61 nodes: within MaxText, exactly MaxText and one byte more.
	for _, length := range []int{181, 599, 600, 601} {
		checkNoTerm(t, textOfNodes(61, length))
	}
	for _, length := range []int{1, 2, 597, 598, 599, 600, 601, 602, 1000} {
		for _, s := range []string{" ", "a ", "X", "a", "abcdefgh", "3", "(", ")", ",", ", ", "f(", "f)", "X, ", "f(X), ", "f(X)", "\x00", "\xff", "\u00e9", "\U0001d7d1"} {
			long := strings.Repeat(s, length)
			checkAsRead(t, long[:length])
			checkAsRead(t, "f("+long[:length])
			checkAsRead(t, long[:length]+")")
			checkAsRead(t, "f("+long[:length]+")")
		}
	}
}

func TestTextsOfTermsThatAreTooLarge(t *testing.T) {
	x := variable("X")
	for _, c := range []struct {
		term    impl.Term
		isValid bool
	}{
		{chain(15, x), true},
		{chain(16, x), true},
		{chain(17, x), false},
		{chain(18, x), false},
		{chain(60, x), false},
		{chain(16, operator("f", x)), false},
		{operator("f", x, chain(15, word(1))), true},
		{operator("f", x, chain(16, word(1))), false},
		{operator("f", chain(15, word(1)), x), true},
		{operator("f", chain(16, word(1)), x), false},
		{operator("f", constants(58)...), true},
		{operator("f", constants(59)...), true},
		{operator("f", constants(60)...), false},
		{operator("f", slices.Repeat([]impl.Term{x}, 59)...), true},
		{operator("f", slices.Repeat([]impl.Term{x}, 60)...), false},
		{operator("f", slices.Repeat([]impl.Term{word(3)}, 59)...), true},
		{operator("f", slices.Repeat([]impl.Term{word(3)}, 60)...), false},
		{operator("f", operator("g", constants(28)...), operator("g", constants(29)...)), true},
		{operator("f", operator("g", constants(29)...), operator("g", constants(29)...)), false},
		{operator("f", append(constants(44), chain(15, x))...), true},
		{operator("f", append(constants(45), chain(15, x))...), false},
		{operator("f", append(constants(43), chain(16, x))...), false},
		{chain(15, operator("f", constants(45)...)), true},
		{chain(15, operator("f", constants(46)...)), false},
		{chain(16, operator("f", constants(44)...)), false},
	} {
		if s := plainText(c.term); c.isValid {
			checkText(t, c.term, s)
		} else {
			checkNoText(t, c.term)
			checkNoTerm(t, s)
		}
	}
}

func TestTermsThatAreNotValidHaveNoText(t *testing.T) {
	for _, term := range []impl.Term{
		{}, {Name: "a"}, {Name: "X"}, {N: 1}, {Kind: 4, Name: "a"}, {Kind: -1, Name: "a"}, {Kind: 4, N: 1}, {Kind: 4, Name: "f", Args: []impl.Term{word(1)}},
		word(-1), word(4), word(5), word(10), word(1 << 32), word(-4),
		variable(""), variable("x"), variable("a"), variable("1"), variable("XY"), variable("X_"), variable("X "), variable(" X"), variable("X, Y"), variable("Abcdefghi"), variable("X\xff"), variable("\u00c9"),
		operator(""), operator("X"), operator("aB"), operator("1"), operator("a_"), operator("a "), operator(" a"), operator("a, b"), operator("f(X)"), operator("abcdefghi"), operator("a\xff"), operator("\u00e9"),
		operator("", word(1)), operator("F", word(1)), operator("f ", word(1)), operator("f(X", word(1)), operator("abcdefghi", word(1)),
		{Kind: impl.TmVar, N: 1, Name: "X"}, {Kind: impl.TmVar, Name: "X", Args: []impl.Term{word(1)}},
		{Kind: impl.TmApp, N: 1, Name: "a"}, {Kind: impl.TmApp, N: 1, Name: "f", Args: []impl.Term{word(1)}},
		{Kind: impl.TmWord, N: 1, Name: "a"}, {Kind: impl.TmWord, Name: "1"}, {Kind: impl.TmWord, N: 1, Args: []impl.Term{word(1)}},
	} {
		checkNoText(t, term)
		checkNoText(t, operator("f", term))
		checkNoText(t, operator("f", variable("X"), operator("g", word(1), term), operator("a")))
	}
	for _, term := range append(invalidTerms(), invalidNodes()...) {
		checkNoText(t, term)
		for _, whole := range []impl.Term{nestedTerm(), chain(16, word(1)), operator("f", constants(59)...)} {
			for _, p := range positionsBelow(whole) {
				checkNoText(t, withPart(whole, p, term))
			}
		}
	}
	for _, term := range manyTerms() {
		if !impl.IsValidTerm(term) {
			checkNoText(t, term)
		}
	}
}

func TestTextsOfNilAndEmptyArgs(t *testing.T) {
	for _, args := range [][]impl.Term{nil, {}, {word(1)}} {
		for s, node := range map[string]impl.Term{"X": variable("X"), "a": operator("a"), "2": word(2)} {
			node.Args = args[:0]
			checkText(t, node, s)
			checkText(t, operator("f", node, node), "f("+s+", "+s+")")
		}
	}
}

func TestFormattedTermsAreNotChanged(t *testing.T) {
	for _, term := range append(validTerms(), invalidTerms()...) {
		whole := termWithSpare(term, operator("spare", word(1)))
		kept := deepClone(whole)
		if impl.FormatTerm(whole) != impl.FormatTerm(term) {
			t.Errorf("the text of %v depends on unused capacity", term)
		}
		if !sameMemory(whole, kept) {
			t.Errorf("%v was changed to %v", kept, whole)
		}
	}
}

func TestParsedTermsShareNoMemory(t *testing.T) {
	for _, s := range append(longTexts(), "f(g(a, b), g(a, b))", "f(g(a, b), g(a, b), g(a, b), g(a, b))", "f(h(g(1, X)), g(1, X), h(h(g(1, X))))", "f(f(f(a), f(a)), f(f(a), f(a)))", "f(X, ", "f()") {
		var results []impl.Term
		for range 3 {
			got, _ := impl.ParseTerm(s)
			results = append(results, got)
		}
		if sharesMemory(results, nil) {
			t.Errorf("results for %q share memory", s)
		}
		checkApart(t, func() impl.Term {
			got, _ := impl.ParseTerm(s)
			return got
		})
		for _, result := range results {
			overwriteTerm(result)
		}
		checkAsRead(t, s)
	}
}

func TestTextsBeyondAllLimits(t *testing.T) {
	const size = 100000
	shared := word(1)
	for range 100 {
		shared = operator("f", shared, shared)
	}
	// A stack in which there is no room for a call for each level of a deep term.
	defer debug.SetMaxStack(debug.SetMaxStack(1 << 20))
	for _, term := range []impl.Term{
		shared, operator("g", word(1), shared), chain(size, variable("X")), chain(16, chain(size, word(1))),
		operator("f", slices.Repeat([]impl.Term{word(1)}, size)...), operator(strings.Repeat("a", size)), variable(strings.Repeat("A", size)),
	} {
		if got := impl.FormatTerm(term); got != "" {
			t.Errorf("a term beyond all limits has a text of %d bytes", len(got))
		}
	}
	for _, s := range []string{
		strings.Repeat("f(", size), strings.Repeat("f(", size) + "X" + strings.Repeat(")", size), strings.Repeat("(", size), strings.Repeat(")", size),
		"f(" + strings.Repeat("X, ", size) + "X)", strings.Repeat("a", size), strings.Repeat("0", size), strings.Repeat(" ", size), "X" + strings.Repeat(" ", size), strings.Repeat("\xff", size),
	} {
		if got, ok := impl.ParseTerm(s); ok || !isZeroTerm(got) {
			t.Errorf("a text of %d bytes is parsed", len(s))
		}
	}
}
