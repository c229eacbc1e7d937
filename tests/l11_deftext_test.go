package tests

import (
	"math"
	"regexp"
	"runtime/debug"
	"slices"
	"strings"
	"testing"

	"loop.example/g00517/impl"
)

// plainSide and plainGuardSides write sides and guards, plainRuleText and plainDefinitionText rules and definitions as the document says, without the program: "" for a side or a guard that has no text.
func plainSide(t impl.Term) string {
	if !plainIsTerm(t) {
		return ""
	}
	return plainText(t)
}

func plainGuardSides(g impl.Guard) string {
	if !slices.Contains(guardKinds, g.Kind) || !plainIsTerm(g.Left) || !plainIsTerm(g.Right) {
		return ""
	}
	return plainGuardText(g)
}

func plainRuleText(r impl.Rule) string {
	text := "rule " + r.Name + ": " + plainSide(r.Left) + " => " + plainSide(r.Right)
	for i, g := range r.Guards {
		if i == 0 {
			text += " if "
		} else {
			text += " & "
		}
		text += plainGuardSides(g)
	}
	return text
}

func plainDefinitionText(d impl.Definition) string {
	if !plainIsDefinition(d) {
		return ""
	}
	text := ""
	for _, sort := range d.Signature.Sorts {
		text += "sort " + sort + "\n"
	}
	for _, op := range d.Signature.Ops {
		text += "op " + op.Name
		for _, arg := range op.Args {
			text += " " + arg
		}
		text += " : " + op.Result + "\n"
	}
	for _, element := range d.Strict {
		text += "strict " + element.Op + " " + string(rune('0'+element.Arg)) + "\n"
	}
	for _, r := range d.Rules {
		text += plainRuleText(r) + "\n"
	}
	return text
}

// guardAtStart reads a guard at the start of s, strictly as the document says and without the program, and returns what follows it.
func guardAtStart(s string) (impl.Guard, string, bool) {
	left, rest, isLeft := termAtStart(s)
	for _, kind := range guardKinds {
		after, isKind := strings.CutPrefix(rest, plainSeparator(kind))
		right, end, isRight := termAtStart(after)
		if isLeft && isKind && isRight && isSmall(left) && isSmall(right) {
			return impl.Guard{Kind: kind, Left: left, Right: right}, end, true
		}
	}
	return impl.Guard{}, s, false
}

// ruleRead reads a rule strictly as the document says and without the program, from left to right.
func ruleRead(s string) (impl.Rule, bool) {
	rest, isRule := strings.CutPrefix(s, "rule ")
	r := impl.Rule{Name: operatorStart.FindString(rest)}
	rest, isNamed := strings.CutPrefix(rest[len(r.Name):], ": ")
	if !isRule || r.Name == "" || !isNamed {
		return impl.Rule{}, false
	}
	var isLeft, isArrow, isRight bool
	r.Left, rest, isLeft = termAtStart(rest)
	rest, isArrow = strings.CutPrefix(rest, " => ")
	r.Right, rest, isRight = termAtStart(rest)
	if !isLeft || !isArrow || !isRight || !isSmall(r.Left) || !isSmall(r.Right) {
		return impl.Rule{}, false
	}
	for separator := " if "; rest != ""; separator = " & " {
		after, isSeparated := strings.CutPrefix(rest, separator)
		g, end, isGuard := guardAtStart(after)
		if !isSeparated || !isGuard {
			return impl.Rule{}, false
		}
		r.Guards, rest = append(r.Guards, g), end
	}
	return r, true
}

var (
	sortForm   = regexp.MustCompile(`^sort ([a-z][a-z0-9]{0,7})$`)
	opForm     = regexp.MustCompile(`^op ([a-z][a-z0-9]{0,7})((?: [a-z][a-z0-9]{0,7})*) : ([a-z][a-z0-9]{0,7})$`)
	strictForm = regexp.MustCompile(`^strict ([a-z][a-z0-9]{0,7}) ([0-9])$`)
)

// readLine adds what a line declares and returns its place in the order of the lines, from 0 on, or -1 if it is no line of a definition.
func readLine(d *impl.Definition, line string) int {
	if m := sortForm.FindStringSubmatch(line); m != nil {
		d.Signature.Sorts = append(d.Signature.Sorts, m[1])
		return 0
	}
	if m := opForm.FindStringSubmatch(line); m != nil {
		d.Signature.Ops = append(d.Signature.Ops, impl.Op{Name: m[1], Args: strings.Fields(m[2]), Result: m[3]})
		return 1
	}
	if m := strictForm.FindStringSubmatch(line); m != nil {
		d.Strict = append(d.Strict, impl.Strict{Op: m[1], Arg: int(m[2][0] - '0')})
		return 2
	}
	if r, ok := ruleRead(line); ok {
		d.Rules = append(d.Rules, r)
		return 3
	}
	return -1
}

// definitionRead reads a definition strictly as the document says and without the program, and returns the line that is reported, or -1.
func definitionRead(s string) (impl.Definition, int) {
	lines := strings.Split(s, "\n")
	isExact := lines[len(lines)-1] == ""
	if isExact {
		lines = lines[:len(lines)-1]
	}
	for i, line := range lines {
		first := strings.Split(line, " ")[0]
		_, isRule := ruleRead(line)
		if !slices.Contains([]string{"sort", "op", "strict", "rule"}, first) || first == "rule" && !isRule {
			return impl.Definition{}, i
		}
	}
	var d impl.Definition
	reached := 0
	for _, line := range lines {
		place := readLine(&d, line)
		isExact = isExact && place >= reached
		reached = max(reached, place)
	}
	if !isExact || !plainIsDefinition(d) {
		return impl.Definition{}, len(lines)
	}
	return d, -1
}

// checkRuleParsed checks that a rule and a text belong to each other, in both directions.
func checkRuleParsed(t *testing.T, r impl.Rule, s string) {
	t.Helper()
	if got := impl.FormatRule(r); got != s {
		t.Errorf("FormatRule(%v) = %q, want %q", r, got, s)
	}
	if got, ok := impl.ParseRule(s); !ok || !sameRules(got, r) {
		t.Errorf("ParseRule(%q) = %v, %v, want %v", s, got, ok, r)
	}
}

func checkNoRule(t *testing.T, s string) {
	t.Helper()
	if got, ok := impl.ParseRule(s); ok || !sameRules(got, impl.Rule{}) {
		t.Errorf("ParseRule(%q) = %v, %v", s, got, ok)
	}
}

// checkRuleAsRead checks ParseRule against the strict reading of a text.
func checkRuleAsRead(t *testing.T, s string) bool {
	t.Helper()
	want, ok := ruleRead(s)
	if ok {
		checkRuleParsed(t, want, s)
	} else {
		checkNoRule(t, s)
	}
	return ok
}

// checkParsed checks that a valid definition and a text belong to each other, in both directions.
func checkParsed(t *testing.T, d impl.Definition, s string) {
	t.Helper()
	if got := impl.FormatDefinition(d); got != s {
		t.Errorf("FormatDefinition(%v) = %q, want %q", d, got, s)
	}
	got, line := impl.ParseDefinition(s)
	if line != -1 || !sameDefinitions(got, d) || !impl.EqualDefinition(got, d) || !impl.IsValidDefinition(got) {
		t.Errorf("ParseDefinition(%q) = %v, %d, want %v", s, got, line, d)
	}
}

func checkReported(t *testing.T, s string, want int) {
	t.Helper()
	if got, line := impl.ParseDefinition(s); line != want || !sameDefinitions(got, impl.Definition{}) {
		t.Errorf("ParseDefinition(%q) = %v, %d, want line %d", s, got, line, want)
	}
}

// checkDefinitionAsRead checks ParseDefinition against the strict reading of a text, and returns the line that is reported.
func checkDefinitionAsRead(t *testing.T, s string) int {
	t.Helper()
	want, line := definitionRead(s)
	if line == -1 {
		checkParsed(t, want, s)
	} else {
		checkReported(t, s, line)
	}
	return line
}

func TestTextsOfRules(t *testing.T) {
	x, n, a := variable("X"), variable("N"), operator("a")
	less := impl.Guard{Kind: impl.GuLess, Left: word(0), Right: n}
	equal := impl.Guard{Kind: impl.GuEqual, Left: operator("f", n, x), Right: a}
	different := impl.Guard{Kind: impl.GuDifferent, Left: n, Right: operator("plus", n, word(2))}
	for _, c := range []struct {
		rule impl.Rule
		text string
	}{
		{impl.Rule{Name: "r", Left: a, Right: a}, "rule r: a => a"},
		{impl.Rule{Name: "r", Left: operator("f", x, operator("g", n)), Right: operator("g", x)}, "rule r: f(X, g(N)) => g(X)"},
		{impl.Rule{Name: "abcdefgh", Left: a, Right: nestedTerm()}, "rule abcdefgh: a => f(g(X, 2), a, h(g(k(Y, b, 0), X)))"},
		{impl.Rule{Name: "z1234567", Left: nestedTerm(), Right: a}, "rule z1234567: f(g(X, 2), a, h(g(k(Y, b, 0), X))) => a"},
		{impl.Rule{Name: "x", Left: a, Right: n, Guards: []impl.Guard{less}}, "rule x: a => N if 0 < N"},
		{impl.Rule{Name: "x", Left: a, Right: n, Guards: []impl.Guard{equal}}, "rule x: a => N if f(N, X) == a"},
		{impl.Rule{Name: "x", Left: a, Right: n, Guards: []impl.Guard{different}}, "rule x: a => N if N != plus(N, 2)"},
		{impl.Rule{Name: "x", Left: a, Right: n, Guards: []impl.Guard{less, different}}, "rule x: a => N if 0 < N & N != plus(N, 2)"},
		{impl.Rule{Name: "x", Left: a, Right: n, Guards: []impl.Guard{different, less}}, "rule x: a => N if N != plus(N, 2) & 0 < N"},
		{impl.Rule{Name: "x", Left: a, Right: n, Guards: []impl.Guard{less, less, equal, different}}, "rule x: a => N if 0 < N & 0 < N & f(N, X) == a & N != plus(N, 2)"},
		// Rules that are not valid have a text if their terms have one.
		{impl.Rule{Name: "x", Left: n, Right: x}, "rule x: N => X"},
		{impl.Rule{Name: "x", Left: word(1), Right: word(2)}, "rule x: 1 => 2"},
		{impl.Rule{Name: "x", Left: operator("plus", word(1), word(2)), Right: word(3)}, "rule x: plus(1, 2) => 3"},
		// Operators with the names of what stands around terms.
		{impl.Rule{Name: "rule", Left: operator("rule"), Right: operator("rule")}, "rule rule: rule => rule"},
		{impl.Rule{Name: "if", Left: operator("if"), Right: operator("if")}, "rule if: if => if"},
		{impl.Rule{Name: "if", Left: operator("if"), Right: operator("if"), Guards: []impl.Guard{{Kind: impl.GuEqual, Left: operator("if"), Right: operator("if")}}}, "rule if: if => if if if == if"},
		{impl.Rule{Name: "if", Left: a, Right: operator("f", operator("if"), operator("if")), Guards: []impl.Guard{{Kind: impl.GuLess, Left: operator("if", x), Right: operator("if")}, {Kind: impl.GuDifferent, Left: operator("if"), Right: a}}}, "rule if: a => f(if, if) if if(X) < if & if != a"},
		{impl.Rule{Name: "sort", Left: operator("op"), Right: operator("strict")}, "rule sort: op => strict"},
	} {
		checkRuleParsed(t, c.rule, c.text)
		if got := plainRuleText(c.rule); got != c.text {
			t.Errorf("plainRuleText(%v) = %q", c.rule, got)
		}
		if !checkRuleAsRead(t, c.text) {
			t.Errorf("%q is no rule", c.text)
		}
	}
}

func TestRulesAreParsedFromTheirText(t *testing.T) {
	terms := validTerms()
	names := []string{"r", "add", "z9", "abcdefgh", "a1234567", "rule", "if", "sort"}
	var guards []impl.Guard
	for i, left := range terms {
		guards = append(guards, impl.Guard{Kind: guardKinds[i%3], Left: left, Right: terms[(i*7+3)%len(terms)]})
	}
	for i, left := range terms {
		for j, right := range []impl.Term{left, terms[(i+1)%len(terms)], terms[(i*5+2)%len(terms)], word(i % 4)} {
			start := (i*3 + j) % (len(guards) - 4)
			r := impl.Rule{Name: names[(i+j)%len(names)], Left: left, Right: right, Guards: guards[start : start+(i+j)%5]}
			checkRuleParsed(t, r, plainRuleText(r))
			got, ok := impl.ParseRule(impl.FormatRule(r))
			if !ok || impl.FormatRule(got) != impl.FormatRule(r) {
				t.Errorf("%v is parsed from its text as %v, %v", r, got, ok)
			}
		}
	}
}

func TestNumberOfGuardsInTexts(t *testing.T) {
	conditions := []string{"0 < N", "N != 2", "f(N) == a", "if == if"}
	for n := range 40 {
		text := "rule r: f(N) => g(N)"
		want := impl.Rule{Name: "r", Left: must(t, "f(N)"), Right: must(t, "g(N)")}
		for i := range n {
			text += []string{" & ", " if "}[min(1, max(0, 1-i))] + conditions[i%4]
			want.Guards = append(want.Guards, mustGuard(t, conditions[i%4]))
		}
		checkRuleParsed(t, want, text)
		for _, more := range []string{" & ", " &", " if ", " if", " if 0 < N", " & 0", " & 0 < ", " & & 0 < N", "& 0 < N", " &0 < N", "  & 0 < N", " &  0 < N", " && 0 < N", ", 0 < N", " and 0 < N", " 0 < N"} {
			if n > 0 || more != " if 0 < N" {
				checkNoRule(t, text+more)
			}
		}
	}
	// No guards: nil or empty, with or without unused capacity.
	for _, guards := range [][]impl.Guard{nil, {}, []impl.Guard{mustGuard(t, "0 < N")}[:0]} {
		checkRuleParsed(t, impl.Rule{Name: "r", Left: operator("a"), Right: operator("a"), Guards: guards}, "rule r: a => a")
	}
}

// TestTextsOfRulesWithoutText: FormatRule writes what there is, and what it writes is no rule.
func TestTextsOfRulesWithoutText(t *testing.T) {
	a := operator("a")
	equal := impl.Guard{Kind: impl.GuEqual, Left: a, Right: a}
	check := func(r impl.Rule, want string) {
		t.Helper()
		if got := impl.FormatRule(r); got != want || plainRuleText(r) != want {
			t.Errorf("FormatRule(%v) = %q, want %q", r, got, want)
		}
		checkNoRule(t, want)
	}
	check(impl.Rule{}, "rule :  => ")
	check(impl.Rule{Guards: []impl.Guard{{}}}, "rule :  =>  if ")
	check(impl.Rule{Guards: []impl.Guard{{}, {}, {}}}, "rule :  =>  if  &  & ")
	for _, name := range []string{"", "A", "X", "1", "abcdefghi", "a b", "r:", "r: a", ":", " ", " r", "r ", "a\n", "\x00", "\xff", "a\xff", "\u00e9", "a-b", "rule r", strings.Repeat("a", 500)} {
		check(impl.Rule{Name: name, Left: a, Right: a}, "rule "+name+": a => a")
		check(impl.Rule{Name: name, Left: a, Right: a, Guards: []impl.Guard{equal}}, "rule "+name+": a => a if a == a")
	}
	bad := append(invalidTerms(), impl.Term{}, word(4), word(-1), operator("F"), operator("a b"), operator(" => "), variable("x"), chain(17, a), operator("f", constants(60)...), impl.Term{Kind: impl.TmApp, Name: "a", N: 1}, impl.Term{Kind: impl.TmWord, Name: "a"})
	for _, term := range bad {
		for _, below := range []impl.Term{term, operator("f", term), operator("f", a, operator("g", term))} {
			check(impl.Rule{Name: "r", Left: below, Right: a}, "rule r:  => a")
			check(impl.Rule{Name: "r", Left: a, Right: below}, "rule r: a => ")
			check(impl.Rule{Name: "r", Left: below, Right: below}, "rule r:  => ")
			check(impl.Rule{Name: "r", Left: a, Right: below, Guards: []impl.Guard{equal}}, "rule r: a =>  if a == a")
			for _, kind := range guardKinds {
				for _, g := range []impl.Guard{{Kind: kind, Left: below, Right: a}, {Kind: kind, Left: a, Right: below}, {Kind: kind, Left: below, Right: below}} {
					check(impl.Rule{Name: "r", Left: a, Right: a, Guards: []impl.Guard{g}}, "rule r: a => a if ")
					check(impl.Rule{Name: "r", Left: a, Right: a, Guards: []impl.Guard{g, equal}}, "rule r: a => a if  & a == a")
					check(impl.Rule{Name: "r", Left: a, Right: a, Guards: []impl.Guard{equal, g}}, "rule r: a => a if a == a & ")
				}
			}
		}
	}
	for _, kind := range strangeKinds {
		g := impl.Guard{Kind: kind, Left: a, Right: a}
		check(impl.Rule{Name: "r", Left: a, Right: a, Guards: []impl.Guard{g}}, "rule r: a => a if ")
		check(impl.Rule{Name: "r", Left: a, Right: a, Guards: []impl.Guard{equal, g, equal}}, "rule r: a => a if a == a &  & a == a")
	}
}

func TestTextsOfRulesWithNilAndEmptyArgs(t *testing.T) {
	for _, args := range [][]impl.Term{nil, {}, []impl.Term{word(1)}[:0]} {
		a, n, three := impl.Term{Kind: impl.TmApp, Name: "a", Args: args}, impl.Term{Kind: impl.TmVar, Name: "N", Args: args}, impl.Term{Kind: impl.TmWord, N: 3, Args: args}
		checkRuleParsed(t, impl.Rule{Name: "r", Left: a, Right: operator("f", n, a), Guards: []impl.Guard{{Kind: impl.GuLess, Left: n, Right: three}}}, "rule r: a => f(N, a) if N < 3")
	}
}

func TestTextsThatAreNoRule(t *testing.T) {
	for _, s := range []string{
		"", " ", "r", "rule", "rule ", "rule r", "rule r:", "rule r: ", "rule r: a", "rule r: a ", "rule r: a =>", "rule r: a => ", "rule r:  => a", "rule r:  => ", "rule : a => a", "rule: a => a", "r: a => a", ": a => a", "a => a", " => ", ": ", " if ", "rule :  => ",
		// The first word.
		"Rule r: a => a", "rules r: a => a", "rul r: a => a", "ruler: a => a", "RULE r: a => a", "rule rule r: a => a", "rulerule r: a => a", "claim r: a => a", "sort r: a => a",
		// Names that are none.
		"rule R: a => a", "rule X: a => a", "rule 1: a => a", "rule abcdefghi: a => a", "rule a b: a => a", "rule a-b: a => a", "rule r(X): a => a", "rule \xff: a => a", "rule r\x00: a => a", "rule \u00e9: a => a", "rule aB: a => a", "rule r_: a => a",
		// Separators that are missing, doubled or incomplete.
		"rule r a => a", "rule r:a => a", "rule r : a => a", "rule r:  a => a", "rule r:: a => a", "rule r: : a => a", "rule r: : a => a", "rule r; a => a", "rule r= a => a",
		"rule r: a a", "rule r: a=> a", "rule r: a =>a", "rule r: a=>a", "rule r: a  => a", "rule r: a =>  a", "rule r: a => => a", "rule r: a =>=> a", "rule r: a -> a", "rule r: a = a", "rule r: a > a", "rule r: a == a", "rule r: a =< a", "rule r: a >= a", "rule r: a := a", "rule r: a ==> a",
		"rule r: a => a if", "rule r: a => a if ", "rule r: a => a if  ", "rule r: a => aif a == a", "rule r: a => a ifa == a", "rule r: a => a  if a == a", "rule r: a => a if  a == a", "rule r: a => a if if a == a", "rule r: a => a if a == a if", "rule r: a => a if & a == a", "rule r: a => a if a", "rule r: a => a a == a", "rule r: a => a & a == a", "rule r: a => a, a == a", "rule r: a => a when a == a", "rule r: a => a If a == a", "rule r: a => a if not a == a",
		"rule r: a => a if a == a &", "rule r: a => a if a == a & ", "rule r: a => a if a == a&a == a", "rule r: a => a if a == a &a == a", "rule r: a => a if a == a& a == a", "rule r: a => a if a == a  & a == a", "rule r: a => a if a == a &  a == a", "rule r: a => a if a == a && a == a", "rule r: a => a if a == a & & a == a", "rule r: a => a if a == a &  & a == a", "rule r: a => a if & & a == a", "rule r: a => a if a == a and a == a", "rule r: a => a if a == a, a == a", "rule r: a => a if a == a a == a", "rule r: a => a if a == a if a == a", "rule r: a => a if a == a & if a == a",
		// Separators that occur twice, or in another order.
		"rule r: r: a => a", "rule r: a: a => a", "rule r: a => a: a", "rule r: a => a => a", "rule r: a => a => a if a == a", "rule r: a => a if a => a", "rule r: a => a if a == a => a", "rule r: a if a == a => a", "rule r: a => if a == a", "rule r: if a == a => a", "rule r: a & a == a => a", "rule r: a => a & a == a if a == a", "rule a => a: r", "rule a => r: a", "rule r if a == a: a => a", "a => a rule r: ", "rule r: a => a rule r: a => a", "rule r: a => arule r: a => a",
		// Spaces and other bytes before and after, and lines.
		" rule r: a => a", "rule  r: a => a", "rule r: a => a ", "rule r : a => a", "\trule r: a => a", "rule\tr: a => a", "rule r:\ta => a", "rule r: a\t=>\ta", "rule r: a =>\ta", "rule r: a => a\n", "\nrule r: a => a", "rule r: a =>\na", "rule r: a => a\r", "rule r: a => a\r\n", "rule r: a => a\x00", "\x00rule r: a => a", "rule r: a => a\xff", "\ufeffrule r: a => a", "rule r: a => a.", "rule r: a => a;", "rule r: (a => a)", "(rule r: a => a)", "rule r: a => a # b", "rule r: a => a\nrule q: b => b", "rule r: a => a\n\n", "rule\u00a0r: a => a", "rule r:\u00a0a => a", "rule r: a\u00a0=>\u00a0a",
		// Sides that ParseTerm rejects.
		"rule r: f( => a", "rule r: a => f(", "rule r: f() => a", "rule r: a => f()", "rule r: f(X,Y) => a", "rule r: a => f(X,Y)", "rule r: f(X, Y ) => a", "rule r: (a) => a", "rule r: a => (a)", "rule r: 4 => a", "rule r: a => 4", "rule r: a => 01", "rule r: a => -1", "rule r: a => num(9)", "rule r: XY => a", "rule r: a => X(1)", "rule r: abcdefghi => a", "rule r: a => abcdefghi", "rule r: a) => a", "rule r: a => a)", "rule r: a b => a", "rule r: a => a b", "rule r: a, b => a", "rule r: f(a => a)",
		// Guards that ParseGuard rejects.
		"rule r: a => a if a = a", "rule r: a => a if a > a", "rule r: a => a if a <= a", "rule r: a => a if 1<2", "rule r: a => a if 1 <2", "rule r: a => a if  1 < 2", "rule r: a => a if 1 < 2 ", "rule r: a => a if 1 < 2 < 3", "rule r: a => a if a == 4", "rule r: a => a if f( == a", "rule r: a => a if a == f()", "rule r: a => a if == a", "rule r: a => a if  == a", "rule r: a => a if a == ", "rule r: a => a if (a == a)", "rule r: a => a if X(1) != a", "rule r: a => a if a != abcdefghi",
		"rule r: a => a if 1 < 2 & a = a", "rule r: a => a if a = a & 1 < 2", "rule r: a => a if 1 < 2 & 1 < 4", "rule r: a => a if 4 < 1 & 1 < 2", "rule r: a => a if 1 < 2 & 1 < 2 & ", "rule r: a => a if  & 1 < 2", "rule r: a => a if 1 < 2 &  & 1 < 2",
	} {
		checkNoRule(t, s)
		if _, ok := ruleRead(s); ok {
			t.Errorf("%q is a rule", s)
		}
	}
}

// ruleTexts returns texts of rules with all separators.
func ruleTexts() []string {
	return []string{
		"rule r: a => a",
		"rule add: add(num(N), num(M)) => num(plus(N, M))",
		"rule other: ifz(num(N), X, Y) => Y if 0 < N",
		"rule x: f(N) => g(N) if 0 < N & N != 2",
		"rule if: if => if if if == if & if != if",
		"rule abcdefgh: abcdefgh(Abcdefgh) => 3 if b == c & 1 < 2 & X != f(X, g(a))",
	}
}

func TestRuleTextsWithOneByteChanged(t *testing.T) {
	for _, s := range ruleTexts() {
		if !checkRuleAsRead(t, s) {
			t.Errorf("%q is no rule", s)
		}
		for i := range len(s) {
			before, after := s[:i], s[i+1:]
			checkRuleAsRead(t, before)
			checkRuleAsRead(t, s[i:])
			checkRuleAsRead(t, before+after)
			checkRuleAsRead(t, before+s[i:i+1]+s[i:])
			for b := range 256 {
				changed := string([]byte{byte(b)})
				checkRuleAsRead(t, before+changed+after)
				checkRuleAsRead(t, before+changed+s[i:])
			}
			for _, more := range []string{"rule ", ": ", " => ", " if ", " & ", " == ", " < ", "=>", "if", "&", "  ", ", ", "(", ")", " a", "a "} {
				checkRuleAsRead(t, before+more+after)
				checkRuleAsRead(t, before+more+s[i:])
			}
			for j := i; j < len(s); j++ {
				checkRuleAsRead(t, before+s[j:])
			}
		}
		for b := range 256 {
			checkRuleAsRead(t, s+string([]byte{byte(b)}))
		}
		for _, foreign := range foreignRunes() {
			for i := range len(s) {
				checkNoRule(t, s[:i]+foreign+s[i:])
				checkNoRule(t, s[:i]+foreign+s[i+1:])
			}
			checkNoRule(t, s+foreign)
		}
	}
}

// sequencesOf returns all texts of up to length of the parts.
func sequencesOf(parts []string, length int) []string {
	all := []string{""}
	level := all
	for range length {
		var next []string
		for _, s := range level {
			for _, part := range parts {
				next = append(next, s+part)
			}
		}
		all, level = append(all, next...), next
	}
	return all
}

// TestRuleTextsOfFewParts puts together what has a meaning in a rule, in all orders.
func TestRuleTextsOfFewParts(t *testing.T) {
	parsed := 0
	for start, count := range map[string]int{"": 4, "rule r: ": 5, "rule r: a => ": 5, "rule r: a => if if ": 5} {
		for _, s := range sequencesOf([]string{"rule ", "r", ": ", "if", " if ", " => ", " & ", " == ", " "}, count) {
			want, isRule := ruleRead(start + s)
			got, ok := impl.ParseRule(start + s)
			if ok != isRule || !sameRules(got, want) {
				t.Errorf("ParseRule(%q) = %v, %v, want %v, %v", start+s, got, ok, want, isRule)
			}
			if ok {
				parsed++
				checkRuleParsed(t, want, start+s)
			}
		}
	}
	if parsed < 100 {
		t.Errorf("only %d texts are rules", parsed)
	}
}

func TestRuleTextsAtTheLimit(t *testing.T) {
	a := operator("a")
	for i, long := range longestTerms() {
		r := impl.Rule{Name: "abcdefgh", Left: long, Right: longestTerms()[(i+1)%4], Guards: []impl.Guard{{Kind: guardKinds[i%3], Left: long, Right: long}, {Kind: impl.GuLess, Left: a, Right: long}}}
		s := plainRuleText(r)
		if len(s) != 5*598+len("rule abcdefgh: ")+len(" => ")+len(" if  & a < ")+len(plainSeparator(guardKinds[i%3])) {
			t.Fatalf("%q has %d bytes", s, len(s))
		}
		checkRuleParsed(t, r, s)
		for _, more := range []string{" ", "b", ")", ", a", "\n", "\xff", " & "} {
			checkRuleAsRead(t, s+more)
			checkNoRule(t, more+s)
		}
	}
	for _, c := range []struct {
		side    impl.Term
		isValid bool
	}{
		{chain(16, word(1)), true}, {chain(17, word(1)), false}, {operator("f", constants(59)...), true}, {operator("f", constants(60)...), false},
		{chain(15, operator("f", constants(45)...)), true}, {chain(15, operator("f", constants(46)...)), false},
	} {
		text := plainText(c.side)
		for _, s := range []string{"rule r: " + text + " => a", "rule r: a => " + text, "rule r: a => " + text + " if a == a", "rule r: a => a if " + text + " == a", "rule r: a => a if a < " + text, "rule r: a => a if a == a & a != " + text} {
			if checkRuleAsRead(t, s) != c.isValid {
				t.Errorf("%q is not read as it should be", s)
			}
		}
	}
	for n := 58; n <= 62; n++ {
		for _, length := range []int{n + 2*(n-1), 597, 598, 599, 600, 601, 602} {
			checkRuleAsRead(t, "rule r: "+textOfNodes(n, length)+" => a")
			checkRuleAsRead(t, "rule r: a => "+textOfNodes(n, length))
			checkRuleAsRead(t, "rule r: a => a if a == "+textOfNodes(n, length))
		}
	}
	for n := range 30 {
		name := strings.Repeat("n", n)
		if checkRuleAsRead(t, "rule "+name+": a => a") != (1 <= n && n <= 8) {
			t.Errorf("the name %q is not read as it should be", name)
		}
	}
}

// keywordDefinition uses the first words of lines, and other words of the text, as names.
func keywordDefinition(t *testing.T) impl.Definition {
	return definitionIn(t, signature("sort op if", "rule sort : sort", "strict : op", "op op word if : op", "sort : sort", "if : if", "word : word"), []string{"op 2", "rule 0", "op 0"},
		"rule: rule(sort) => sort if if == if & word < 2", "sort: op(strict, N, if) => op(strict, N, if)", "op: if => if if if != if", "strict: word => word")
}

// largestDefinition has as much of everything as is valid.
func largestDefinition(t *testing.T) impl.Definition {
	s := signature("e abcdefgh a1234567 z", "f e : e", "k e e e : e", "a : e")
	for i := range 13 {
		s.Ops = append(s.Ops, impl.Op{Name: "operat" + impl.FormatInt(10+i), Args: []string{"abcdefgh", "a1234567", "abcdefgh"}, Result: "a1234567"})
	}
	d := definitionIn(t, s, []string{"operat10 2", "operat10 0", "operat10 1", "k 2", "f 0", "k 0", "operat22 2", "k 1"})
	for i := range 16 {
		large := broadTerm(60)
		guards := []impl.Guard{{Kind: impl.GuEqual, Left: large, Right: large}, {Kind: impl.GuDifferent, Left: large, Right: chain(16, operator("a"))}}
		d.Rules = append(d.Rules, impl.Rule{Name: "number" + impl.FormatInt(10+i), Left: large, Right: large, Guards: guards})
	}
	return d
}

func validDefinitions(t *testing.T) []impl.Definition {
	all := append(exampleDefinitions(t), keywordDefinition(t), largestDefinition(t), impl.Definition{Signature: signature("e d c b")}, impl.Definition{Signature: strictSignature()})
	// All parts of a definition: some of its elements of Strict and some of its rules.
	for _, d := range []impl.Definition{all[0], all[1], all[2], keywordDefinition(t)} {
		for from := range len(d.Rules) + 1 {
			for to := from; to <= len(d.Rules); to++ {
				for count := range len(d.Strict) + 1 {
					all = append(all, impl.Definition{Signature: d.Signature, Rules: d.Rules[from:to], Strict: d.Strict[count:]}, impl.Definition{Signature: d.Signature, Rules: slices.Concat(d.Rules[to:], d.Rules[:from]), Strict: d.Strict[:count]})
				}
			}
		}
	}
	for n := range 9 {
		d := definitionIn(t, strictSignature(), []string{"w 2", "v 1", "w 0", "u 0", "v 0", "w 1"}[:min(n, 6)])
		all = append(all, d, impl.Definition{Signature: loopLanguage(t).Signature, Rules: manyRules(t, 2*n)})
	}
	return all
}

// TestDefinitionsAreParsedFromTheirText is promise 11.
func TestDefinitionsAreParsedFromTheirText(t *testing.T) {
	all := validDefinitions(t)
	if len(all) < 200 {
		t.Fatalf("only %d definitions", len(all))
	}
	for _, d := range all {
		checkDefinition(t, d, true)
		s := plainDefinitionText(d)
		checkParsed(t, d, s)
		if checkDefinitionAsRead(t, s) != -1 {
			t.Errorf("%q is no definition", s)
		}
		for _, r := range d.Rules {
			checkRuleParsed(t, r, plainRuleText(r))
		}
	}
}

func TestTextsOfDefinitions(t *testing.T) {
	checkParsed(t, impl.Definition{}, "")
	checkParsed(t, impl.Definition{Signature: impl.Signature{Sorts: []string{}, Ops: []impl.Op{}}, Rules: []impl.Rule{}, Strict: []impl.Strict{}}, "")
	checkParsed(t, impl.Definition{Signature: signature("e")}, "sort e\n")
	checkParsed(t, impl.Definition{Signature: signature("d c b a")}, "sort d\nsort c\nsort b\nsort a\n")
	checkParsed(t, impl.Definition{Signature: signature("", "zero : word")}, "op zero : word\n")
	checkParsed(t, impl.Definition{Signature: signature("", "f word word word : word", "c : word")}, "op f word word word : word\nop c : word\n")
	checkParsed(t, impl.Definition{Signature: signature("e", "a : e", "f e word : e"), Strict: []impl.Strict{{Op: "f", Arg: 1}, {Op: "f", Arg: 0}}}, "sort e\nop a : e\nop f e word : e\nstrict f 1\nstrict f 0\n")
	checkParsed(t, definitionIn(t, signature("", "c : word"), nil, "r: c => 1", "q: c => 2"), "op c : word\nrule r: c => 1\nrule q: c => 2\n")
	checkParsed(t, loopLanguage(t), "sort c\nop loop word word : c\nop done word : c\nop wrap c : c\nstrict wrap 0\nrule turn: loop(N, M) => loop(minus(N, 1), plus(M, 1)) if 0 < N\nrule end: loop(0, M) => done(M)\nrule open: wrap(done(N)) => done(plus(N, 1))\n")
	checkParsed(t, keywordDefinition(t), "sort sort\nsort op\nsort if\nop rule sort : sort\nop strict : op\nop op op word if : op\nop sort : sort\nop if : if\nop word : word\nstrict op 2\nstrict rule 0\nstrict op 0\nrule rule: rule(sort) => sort if if == if & word < 2\nrule sort: op(strict, N, if) => op(strict, N, if)\nrule op: if => if if if != if\nrule strict: word => word\n")
}

func TestDefinitionsThatAreNotValidHaveNoText(t *testing.T) {
	check := func(d impl.Definition) {
		t.Helper()
		checkDefinition(t, d, false)
		if got := impl.FormatDefinition(d); got != "" {
			t.Errorf("FormatDefinition(%v) = %q", d, got)
		}
	}
	for _, s := range append(looseSignatures()[1:], signature("word"), signature("e e"), signature("a b c d f"), signature("E"), signature("", "a : e"), signature("e", "a : e", "a : e"), impl.Signature{Sorts: []string{"e\nsort f"}}, impl.Signature{Sorts: []string{"e "}}) {
		check(impl.Definition{Signature: s})
	}
	for _, d := range validDefinitions(t)[:8] {
		check(impl.Definition{Signature: d.Signature, Rules: append(slices.Clone(d.Rules), impl.Rule{}), Strict: d.Strict})
		check(impl.Definition{Signature: d.Signature, Rules: d.Rules, Strict: append(slices.Clone(d.Strict), impl.Strict{})})
		for i := range d.Rules {
			changed := cloneDefinition(d)
			changed.Rules[i].Name = "Bad"
			check(changed)
			changed = cloneDefinition(d)
			changed.Rules[i].Right = variable("New")
			check(changed)
			changed = cloneDefinition(d)
			changed.Rules[i].Guards = slices.Repeat([]impl.Guard{mustGuard(t, "1 < 2")}, 3)
			check(changed)
			check(impl.Definition{Signature: d.Signature, Rules: append(slices.Clone(d.Rules), d.Rules[i]), Strict: d.Strict})
		}
		for i := range d.Strict {
			changed := cloneDefinition(d)
			changed.Strict[i].Arg = -1
			check(changed)
			changed.Strict[i].Arg = 3
			check(changed)
			check(impl.Definition{Signature: d.Signature, Rules: d.Rules, Strict: append(slices.Clone(d.Strict), d.Strict[i])})
		}
	}
	s := ruleSignature()
	for _, term := range append(invalidTerms(), impl.Term{}, word(4), chain(17, operator("a")), operator("f", constants(60)...), impl.Term{Kind: impl.TmApp, Name: "a", N: 1}, impl.Term{Kind: impl.TmWord, N: 1, Name: "a"}) {
		a := operator("a")
		check(impl.Definition{Signature: s, Rules: []impl.Rule{{Name: "r", Left: term, Right: a}}})
		check(impl.Definition{Signature: s, Rules: []impl.Rule{{Name: "r", Left: a, Right: a}, {Name: "q", Left: a, Right: term}}})
		check(impl.Definition{Signature: s, Rules: []impl.Rule{{Name: "r", Left: operator("add", a, term), Right: a}}})
		for _, kind := range append(slices.Clone(guardKinds), 0, 4) {
			check(impl.Definition{Signature: s, Rules: []impl.Rule{{Name: "r", Left: a, Right: a, Guards: []impl.Guard{{Kind: kind, Left: term, Right: term}}}}})
		}
	}
}

// TestReportedLines: -1 is a text that is a definition.
func TestReportedLines(t *testing.T) {
	for _, c := range []struct {
		text string
		want int
	}{
		{"", -1}, {"sort e\n", -1},
		// The last line has no newline, or a line is empty.
		{"sort e", 1}, {"sort e\nsort f", 2}, {"sort e\nop a : e", 2}, {"op c : word\nrule r: c => 1", 2}, {"sort e\nop f e : e\nstrict f 0", 3},
		{"\n", 0}, {"\n\n", 0}, {"\n\n\n", 0}, {"sort e\n\n", 1}, {"sort e\n\n\n", 1}, {"\nsort e\n", 0}, {"\nsort e", 0}, {"sort e\n\nsort f\n", 1}, {"sort e\nop a : e\n\n", 2}, {"sort e\nop a : e\nrule r: a => a\n\n", 3},
		// The first word is none of the four.
		{"hm", 0}, {"hm\n", 0}, {"hm sort\n", 0}, {"sort e\nhm", 1}, {"sort e\nhm\n", 1}, {"sort e\nhm\nhm\n", 1}, {"sort e\nop a : e\nhm e\nsort f\n", 2}, {"hm\nsort e\n", 0},
		{"Sort e\n", 0}, {"SORT e\n", 0}, {"sorts e\n", 0}, {"sor e\n", 0}, {"sorte\n", 0}, {"sort:e\n", 0}, {"ops a : e\n", 0}, {"o a : e\n", 0}, {"opa : e\n", 0}, {"stricts f 0\n", 0}, {"strict:f 0\n", 0}, {"rules r: a => a\n", 0}, {"rule: a => a\n", 0}, {"claim r: a => a\n", 0}, {"accept\n", 0}, {"#\n", 0}, {"# sort e\n", 0}, {"word N\n", 0},
		{" ", 0}, {" \n", 0}, {" sort e\n", 0}, {"  sort e\n", 0}, {"\tsort e\n", 0}, {"sort\te\n", 0}, {"rule\tr: a => a\n", 0}, {"sort\u00a0e\n", 0}, {"sort\r\n", 0}, {"\r\n", 0}, {"\rsort e\n", 0}, {"sort e\n\r\n", 1}, {"\xff", 0}, {"\xff\n", 0}, {"\x00\n", 0}, {"\xffsort e\n", 0}, {"sort\xff e\n", 0}, {"sort\x00\n", 0}, {"\ufeffsort e\n", 0}, {"sort e\n\xff\xfe\n", 1}, {"\u00e9 e\n", 0}, {"sort e\n sort f\n", 1}, {"sort e\n\tsort f\n", 1},
		// A rule that ParseRule rejects.
		{"rule", 0}, {"rule\n", 0}, {"rule ", 0}, {"rule \n", 0}, {"rule r\n", 0}, {"rule  r: a => a\n", 0}, {"rule r: a =>\n", 0}, {"rule r: a => \n", 0}, {"rule R: a => a\n", 0}, {"rule r: a => a \n", 0}, {"rule r: a => a\r\n", 0}, {"rule r: a => a\xff\n", 0}, {"rule r: a => a if \n", 0}, {"rule r: a => 4", 0}, {"rule r: a => a if 1 > 2\n", 0},
		{"sort e\nrule x: a => \n", 1}, {"sort e\nop a : e\nrule r: a => a\nrule q: a = a\n", 3}, {"sort e\nop a : e\nrule r: a = a\nrule q: a => a\n", 2}, {"rule r: a = a\nrule q: a = a\n", 0}, {"op a : word\nrule r: a => f(\nstrict a 0\n", 1},
		// Each ahead of the other, and of what is wrong with lines that stand.
		{"hm\nrule r\n", 0}, {"rule r\nhm\n", 0}, {"sort e\nhm\nrule r\n", 1}, {"sort e\nrule r\nhm\n", 1}, {"rule r: a => a\nrule q\nhm\n", 1}, {"rule r: a => a\nhm\nrule q\n", 1}, {"\nrule r\n", 0}, {"rule r\n\n", 0}, {"rule r: a => a\n\nrule r\n", 1},
		{"sort e\nsort e\nhm\n", 2}, {"sort\nhm\n", 1}, {"rule r: a => a\nsort e\nrule q\n", 2}, {"sort E\nop\nstrict\nrule\n", 3}, {"sort e\nop a : nope\nstrict a 7\nhm", 3}, {"op a : e\nsort e\nrule r: a => \n", 2}, {"sort  e\nrule r: a => X\nhm\nrule q\n", 2},
		// Every line stands, and no definition is meant: lines in another order.
		{"op a : e\nsort e\n", 2}, {"sort e\nop a : e\nsort f\n", 3}, {"sort e\nstrict f 0\nop f e : e\n", 3}, {"strict f 0\nop f word : word\n", 2}, {"rule r: c => 1\nop c : word\n", 2}, {"op f word : word\nrule r: f(N) => N\nstrict f 0\n", 3}, {"op f word : word\nrule r: f(N) => N\nop c : word\n", 3}, {"op c : word\nrule r: c => 1\nsort e\n", 3},
		// A sort that is wrong.
		{"sort", 1}, {"sort\n", 1}, {"sort \n", 1}, {"sort  e\n", 1}, {"sort e \n", 1}, {"sort E\n", 1}, {"sort 1\n", 1}, {"sort abcdefghi\n", 1}, {"sort word\n", 1}, {"sort e\nsort e\n", 2}, {"sort e f\n", 1}, {"sort e,f\n", 1}, {"sort e : e\n", 1}, {"sort e\r\n", 1}, {"sort e\t\n", 1}, {"sort \xff\n", 1}, {"sort e\x00\n", 1}, {"sort \u00e9\n", 1}, {"sort e\nsort e\x00\n", 2}, {"sort sort e\n", 1},
		// An operator that is wrong.
		{"op", 1}, {"op\n", 1}, {"op \n", 1}, {"op a\n", 1}, {"op a :\n", 1}, {"op a : \n", 1}, {"op : word\n", 1}, {"op  : word\n", 1}, {"op :\n", 1}, {"op : \n", 1}, {"op a word\n", 1}, {"op a: word\n", 1}, {"op a :word\n", 1}, {"op a:word\n", 1}, {"op a  : word\n", 1}, {"op a :  word\n", 1}, {"op  a : word\n", 1}, {"op a : word \n", 1}, {"op a : word\t\n", 1}, {"op a\t: word\n", 1}, {"op a :: word\n", 1}, {"op a : : word\n", 1}, {"op a : word : word\n", 1}, {"op a : word word\n", 1}, {"op a => word\n", 1}, {"op a -> word\n", 1},
		{"op A : word\n", 1}, {"op 1 : word\n", 1}, {"op abcdefghi : word\n", 1}, {"op plus : word\n", 1}, {"op times word word : word\n", 1}, {"op minus word word : word\n", 1}, {"op a : e\n", 1}, {"op a e : word\n", 1}, {"op a word e : word\n", 1}, {"op a : Word\n", 1}, {"op f word  word : word\n", 1}, {"op f  word : word\n", 1}, {"op f word  : word\n", 1}, {"op f word, word : word\n", 1}, {"op f(word) : word\n", 1}, {"op f word word word word : word\n", 1}, {"op a : word\nop a : word\n", 2}, {"op a : word\nop a word : word\n", 2}, {"sort e\nop a : e\nop a : e\n", 3}, {"op a : word\r\n", 1}, {"op a\xff : word\n", 1}, {"op a : word\x00\n", 1}, {"op op a : word\n", 1},
		// A strict argument that is wrong.
		{"strict", 1}, {"strict\n", 1}, {"strict \n", 1}, {"strict f\n", 1}, {"strict f 0\n", 1}, {"op f word : word\nstrict f\n", 2}, {"op f word : word\nstrict f \n", 2}, {"op f word : word\nstrict 0\n", 2}, {"op f word : word\nstrict  0\n", 2}, {"op f word : word\nstrict g 0\n", 2}, {"op f word : word\nstrict f 1\n", 2}, {"op f word : word\nstrict f 0\nstrict f 0\n", 3}, {"op f word : word\nstrict plus 0\n", 2}, {"op c : word\nstrict c 0\n", 2},
		{"op f word : word\nstrict f 00\n", 2}, {"op f word : word\nstrict f 01\n", 2}, {"op f word word : word\nstrict f 01\n", 2}, {"op f word : word\nstrict f +0\n", 2}, {"op f word : word\nstrict f -0\n", 2}, {"op f word : word\nstrict f -1\n", 2}, {"op f word word : word\nstrict f +1\n", 2}, {"op f word : word\nstrict f 0x0\n", 2}, {"op f word : word\nstrict f 0.\n", 2}, {"op f word : word\nstrict f N\n", 2}, {"op f word : word\nstrict f f\n", 2}, {"op f word : word\nstrict f 4294967296\n", 2}, {"op f word : word\nstrict f 18446744073709551616\n", 2}, {"op f word : word\nstrict f 1000000\n", 2},
		{"op f word : word\nstrict  f 0\n", 2}, {"op f word : word\nstrict f  0\n", 2}, {"op f word : word\nstrict f 0 \n", 2}, {"op f word : word\nstrict f 0 0\n", 2}, {"op f word word : word\nstrict f 0 1\n", 2}, {"op f word : word\nstrict f\t0\n", 2}, {"op f word : word\nstrict f 0\r\n", 2}, {"op f word : word\nstrict f, 0\n", 2}, {"op f word : word\nstrict F 0\n", 2}, {"op f word : word\nstrict \xff 0\n", 2}, {"op f word : word\nstrict f \xff\n", 2}, {"op f word : word\nstrict f \u0660\n", 2},
		// A rule that is not valid.
		{"rule r: a => a\n", 1}, {"rule r: X => a\n", 1}, {"rule r: 1 => 1", 1}, {"op c : word\nrule r: c => N\n", 2}, {"op c : word\nrule r: c => 1 if N < 1\n", 2}, {"op c : word\nrule r: c => nope\n", 2}, {"op c : word\nrule r: plus(1, 1) => c\n", 2}, {"op c : word\nrule r: c => 1\nrule r: c => 2\n", 3}, {"op c : word\nrule r: c => 1 if 0 < 1 & 0 < 2 & 0 < 3\n", 2}, {"op c : word\nrule r: c => 1 if 0 < 1 & 0 < 2\n", -1},
	} {
		if c.want == -1 {
			if checkDefinitionAsRead(t, c.text) != -1 {
				t.Errorf("%q is no definition", c.text)
			}
			continue
		}
		checkReported(t, c.text, c.want)
		if got := checkDefinitionAsRead(t, c.text); got != c.want {
			t.Errorf("definitionRead(%q) reports line %d, not %d", c.text, got, c.want)
		}
	}
}

// TestStrictArgumentsInTexts: the number is written as FormatInt writes it.
func TestStrictArgumentsInTexts(t *testing.T) {
	for _, number := range stringsOf("0123+-", 4) {
		isArg := number == "0" || number == "1" || number == "2"
		if line := checkDefinitionAsRead(t, "op w word word word : word\nstrict w "+number+"\n"); (line == -1) != isArg {
			t.Errorf("the argument %q is reported as %d", number, line)
		}
	}
	for _, n := range []int{-1, 3, 4, 10, 1 << 32, 1<<32 + 1, math.MaxInt, math.MinInt} {
		checkReported(t, "op w word word word : word\nstrict w "+impl.FormatInt(n)+"\n", 2)
	}
}

// TestLimitsOfDefinitionsInTexts writes texts with more and more of each kind.
func TestLimitsOfDefinitionsInTexts(t *testing.T) {
	for n := range 40 {
		sorts, ops, args, rules, guards := "", "", "", "op c : word\n", ""
		strict := "op f word word word : word\nop g word word word : word\nop h word word word : word\n"
		for i := range n {
			number := impl.FormatInt(i)
			sorts += "sort s" + number + "\n"
			ops += "op f" + number + " : word\n"
			args += " word"
			strict += "strict " + string(rune('f'+i%3)) + " " + impl.FormatInt(i/3) + "\n"
			rules += "rule r" + number + ": c => 1\n"
			if i == 0 {
				guards += " if c != 1"
			} else {
				guards += " & c != 1"
			}
		}
		for _, c := range []struct {
			text  string
			limit int
		}{
			{sorts, impl.MaxSorts}, {ops, impl.MaxOps}, {"op f" + args + " : word\n", impl.MaxArity}, {strict, impl.MaxStrict}, {rules, impl.MaxRules}, {"op c : word\nrule r: c => 1" + guards + "\n", impl.MaxGuards},
		} {
			want := -1
			if n > c.limit {
				want = strings.Count(c.text, "\n")
			}
			if line := checkDefinitionAsRead(t, c.text); line != want {
				t.Errorf("%q is reported as %d", c.text, line)
			}
		}
	}
}

// smallTexts returns texts of definitions that are short, but have lines of all kinds.
func smallTexts() []string {
	return []string{"sort c\nop f word : c\nop a : c\nstrict f 0\nrule r: f(N) => a if 0 < N\n", "sort e\nsort f\nop a e f : word\nstrict a 1\nstrict a 0\n"}
}

func TestDefinitionTextsWithOneByteChanged(t *testing.T) {
	for _, s := range smallTexts() {
		if checkDefinitionAsRead(t, s) != -1 {
			t.Errorf("%q is no definition", s)
		}
		for i := range len(s) {
			before, after := s[:i], s[i+1:]
			checkDefinitionAsRead(t, before)
			checkDefinitionAsRead(t, s[i:])
			checkDefinitionAsRead(t, before+after)
			checkDefinitionAsRead(t, before+s[i:i+1]+s[i:])
			for b := range 256 {
				changed := string([]byte{byte(b)})
				checkDefinitionAsRead(t, before+changed+after)
				checkDefinitionAsRead(t, before+changed+s[i:])
			}
			for _, foreign := range foreignRunes() {
				if line := checkDefinitionAsRead(t, before+foreign+s[i:]); line == -1 {
					t.Errorf("%q is a definition", before+foreign+s[i:])
				}
			}
		}
	}
	for k := 1; k <= 3; k++ {
		s := impl.LanguageOf(k)
		for i := range len(s) {
			checkDefinitionAsRead(t, s[:i])
			checkDefinitionAsRead(t, s[i:])
			checkDefinitionAsRead(t, s[:i]+s[i+1:])
			for _, more := range []string{" ", "\n", "0", "a", "X", "(", ", ", "\xff"} {
				checkDefinitionAsRead(t, s[:i]+more+s[i:])
				checkDefinitionAsRead(t, s[:i]+more+s[i+1:])
			}
		}
	}
}

// lineTexts returns lines that stand in a definition, alone or with others, and lines that do not.
func lineTexts() []string {
	return []string{"sort e", "sort d", "op a : e", "op f word : word", "strict f 0", "rule r: f(N) => N", "rule q: a => a if 0 < 1", "rule x: f(N) => M", "rule y: a =>", "hm", "", "sort", " sort d"}
}

func TestDefinitionTextsOfFewLines(t *testing.T) {
	reported := map[int]int{}
	var lines []string
	for _, line := range lineTexts() {
		lines = append(lines, line+"\n")
	}
	for _, s := range sequencesOf(lines, 4) {
		reported[checkDefinitionAsRead(t, s)]++
		if s != "" {
			checkDefinitionAsRead(t, s[:len(s)-1])
		}
	}
	for line := -1; line <= 4; line++ {
		if reported[line] < 20 {
			t.Errorf("only %d texts are reported as %d", reported[line], line)
		}
	}
}

func TestDefinitionTextsWithLinesChanged(t *testing.T) {
	added := append(lineTexts(), "op a : e ", "op  a : e", "op a", "op plus : e", "strict", "strict f 00", "strict add 1", "rule", "rule  r: f(N) => N", "rule r: f(N) => N ", "\xff", "\x00", "sort e\r", "sort\te", "rules", "claim r: a => a")
	for _, d := range append(exampleDefinitions(t), keywordDefinition(t)) {
		whole := strings.SplitAfter(plainDefinitionText(d), "\n")
		lines := whole[:len(whole)-1]
		for i := range len(lines) + 1 {
			for _, line := range added {
				checkDefinitionAsRead(t, strings.Join(slices.Insert(slices.Clone(lines), i, line+"\n"), ""))
				checkDefinitionAsRead(t, strings.Join(slices.Insert(slices.Clone(lines), i, line), ""))
				checkDefinitionAsRead(t, strings.Join(slices.Insert(slices.Clone(lines), i, line+"\n", "hm\n"), ""))
			}
		}
		for i := range lines {
			checkDefinitionAsRead(t, strings.Join(slices.Delete(slices.Clone(lines), i, i+1), ""))
			for j := range lines {
				changed := slices.Clone(lines)
				changed[i], changed[j] = changed[j], changed[i]
				checkDefinitionAsRead(t, strings.Join(changed, ""))
				checkDefinitionAsRead(t, strings.Join(slices.Insert(slices.Clone(lines), i, lines[j]), ""))
			}
		}
	}
}

// TestManyLines: the line is reported however far it is.
func TestManyLines(t *testing.T) {
	for _, n := range []int{1, 2, 9, 10, 59, 60, 61, 100, 255, 256, 257, 1000} {
		for _, line := range []string{"sort e\n", "op a : e\n", "strict a 0\n", "rule r: a => a\n"} {
			many := strings.Repeat(line, n)
			checkReported(t, many+"hm\n", n)
			checkReported(t, many+"hm\n"+many, n)
			checkReported(t, many+"rule\n"+many+"hm\n", n)
			checkReported(t, many+"\n", n)
			checkReported(t, many+many+line[:len(line)-1], 2*n+1)
			if n > 1 {
				checkReported(t, many, n)
			}
		}
	}
}

func TestFormattedDefinitionsAreNotChanged(t *testing.T) {
	for _, plain := range append(looseDefinitions(t), validDefinitions(t)[:10]...) {
		d := definitionWithSpare(plain)
		kept := cloneDefinition(d)
		if got := impl.FormatDefinition(d); got != impl.FormatDefinition(plain) || got != plainDefinitionText(plain) {
			t.Errorf("the text of %v depends on unused capacity", plain)
		}
		for i, r := range d.Rules {
			if impl.FormatRule(r) != plainRuleText(plain.Rules[i]) {
				t.Errorf("the text of %v depends on unused capacity", plain.Rules[i])
			}
		}
		if !sameDefinitionMemory(kept, d) {
			t.Errorf("%v was changed to %v", kept, d)
		}
	}
}

func ruleAsTerm(r impl.Rule) impl.Term {
	whole := operator("rule", r.Left, r.Right)
	for _, g := range r.Guards {
		whole.Args = append(whole.Args, guardAsTerm(g))
	}
	return whole
}

func definitionAsTerm(d impl.Definition) impl.Term {
	whole := operator("definition")
	for _, r := range d.Rules {
		whole.Args = append(whole.Args, ruleAsTerm(r))
	}
	return whole
}

// listPlaces returns the addresses of all elements of the lists of definitions but the arguments of terms, those in unused capacity among them.
func listPlaces(all ...impl.Definition) []any {
	var places []any
	addStrings := func(list []string) {
		for i := range list[:cap(list)] {
			places = append(places, &list[:cap(list)][i])
		}
	}
	for _, d := range all {
		addStrings(d.Signature.Sorts)
		for i := range d.Signature.Ops[:cap(d.Signature.Ops)] {
			op := &d.Signature.Ops[:cap(d.Signature.Ops)][i]
			places = append(places, op)
			addStrings(op.Args)
		}
		for i := range d.Strict[:cap(d.Strict)] {
			places = append(places, &d.Strict[:cap(d.Strict)][i])
		}
		for i := range d.Rules[:cap(d.Rules)] {
			r := &d.Rules[:cap(d.Rules)][i]
			places = append(places, r)
			for j := range r.Guards[:cap(r.Guards)] {
				places = append(places, &r.Guards[:cap(r.Guards)][j])
			}
		}
	}
	return places
}

func isAnyTwice(places []any) bool {
	seen := map[any]bool{}
	for _, place := range places {
		if seen[place] {
			return true
		}
		seen[place] = true
	}
	return false
}

// overwriteDefinition writes to all of a definition that its receiver may write to, also by append.
func overwriteDefinition(d impl.Definition) {
	overwriteTerm(definitionAsTerm(d))
	for _, place := range listPlaces(d) {
		switch p := place.(type) {
		case *string:
			*p = "written"
		case *impl.Op:
			p.Name, p.Result = "written", "written"
		case *impl.Strict:
			*p = impl.Strict{Op: "written", Arg: 99}
		case *impl.Rule:
			p.Name = "written"
		case *impl.Guard:
			*p = impl.Guard{Kind: 99}
		}
	}
}

func TestParsedDefinitionsShareNoMemory(t *testing.T) {
	texts := append(smallTexts(), impl.LanguageOf(1), impl.LanguageOf(2), impl.LanguageOf(3), plainDefinitionText(keywordDefinition(t)), "", "hm\n", "sort e\nop a : e\nop f e e : e\nrule r: a => f(a, a)\nrule q: a => f(a, a) if a == a & f(a, a) == f(a, a)", "sort e\nrule r: a(X) =>\n")
	for _, s := range texts {
		first, line := impl.ParseDefinition(s)
		second, _ := impl.ParseDefinition(s)
		if isAnyTwice(listPlaces(first, second)) || sharesMemory([]impl.Term{definitionAsTerm(first), definitionAsTerm(second)}, nil) {
			t.Errorf("results for %q share memory", s)
		}
		kept := cloneDefinition(second)
		overwriteDefinition(first)
		if !sameDefinitionMemory(kept, second) {
			t.Errorf("writing to a result for %q changes another one to %v", s, second)
		}
		if again, got := impl.ParseDefinition(s); got != line || !sameDefinitions(again, second) {
			t.Errorf("writing to a result for %q changes the next one to %v, %d", s, again, got)
		}
	}
}

func TestParsedRulesShareNoMemory(t *testing.T) {
	for _, s := range append(ruleTexts(), "rule r: f(g(a, b), g(a, b)) => f(g(a, b), g(a, b)) if g(a, b) == g(a, b) & g(a, b) == g(a, b)", "rule r: f(a) => ", "rule r: f(a) => f(a) if f(a) == ") {
		result := func() impl.Rule {
			r, _ := impl.ParseRule(s)
			return r
		}
		checkApart(t, func() impl.Term { return ruleAsTerm(result()) })
		first, second := result(), result()
		if isAnyTwice(listPlaces(impl.Definition{Rules: []impl.Rule{first}}, impl.Definition{Rules: []impl.Rule{second}})) || sharesMemory([]impl.Term{ruleAsTerm(first), ruleAsTerm(second)}, nil) {
			t.Errorf("results for %q share memory", s)
		}
		overwriteDefinition(impl.Definition{Rules: []impl.Rule{first}})
		if want, _ := ruleRead(s); !sameRules(second, want) || !sameRules(result(), want) {
			t.Errorf("writing to a result for %q changes another one", s)
		}
	}
}

func TestTextsOfLargeTerms(t *testing.T) {
	// A stack in which there is no room for a call for each level of a deep term.
	defer debug.SetMaxStack(debug.SetMaxStack(1 << 20))
	a := operator("a")
	s := signature("e", "f e : e", "k e e : e", "a : e")
	for what, large := range largeTerms() {
		g := impl.Guard{Kind: impl.GuEqual, Left: large, Right: a}
		for want, r := range map[string]impl.Rule{
			"rule r:  => a":               {Name: "r", Left: large, Right: a},
			"rule r: a => ":               {Name: "r", Left: a, Right: large},
			"rule r:  => ":                {Name: "r", Left: large, Right: large},
			"rule r: a => a if ":          {Name: "r", Left: a, Right: a, Guards: []impl.Guard{g}},
			"rule r: a => a if  & ":       {Name: "r", Left: a, Right: a, Guards: []impl.Guard{g, {Kind: impl.GuLess, Left: large, Right: large}}},
			"rule r: a => a if a != a & ": {Name: "r", Left: a, Right: a, Guards: []impl.Guard{{Kind: impl.GuDifferent, Left: a, Right: a}, g}},
			"rule r:  =>  if  & 1 < 2":    {Name: "r", Left: large, Right: large, Guards: []impl.Guard{g, {Kind: impl.GuLess, Left: word(1), Right: word(2)}}},
		} {
			if got := impl.FormatRule(r); got != want {
				t.Errorf("with %s, FormatRule gives %d bytes, not %q", what, len(got), want)
			}
			if got := impl.FormatDefinition(impl.Definition{Signature: s, Rules: []impl.Rule{r}}); got != "" {
				t.Errorf("with %s, FormatDefinition gives %d bytes", what, len(got))
			}
		}
	}
}

func TestTextsOfDefinitionsBeyondAllLimits(t *testing.T) {
	const size = 100000
	a, equal := operator("a"), impl.Guard{Kind: impl.GuEqual, Left: operator("a"), Right: operator("a")}
	r := impl.Rule{Name: "r", Left: a, Right: a, Guards: slices.Repeat([]impl.Guard{equal}, size)}
	text := "rule r: a => a if " + strings.Repeat("a == a & ", size-1) + "a == a"
	if impl.FormatRule(r) != text {
		t.Error("a rule with many guards is not written")
	}
	if got, ok := impl.ParseRule(text); !ok || !sameRules(got, r) {
		t.Error("a rule with many guards is not read")
	}
	if _, ok := impl.ParseRule(text + " & "); ok {
		t.Error("a rule with a guard that is none is read")
	}
	checkLongReported(t, "sort e\nop a : e\n"+text+"\n", 3)
	checkLongReported(t, "sort e\nop a : e\n"+text+" & \n", 2)
	if got := impl.FormatRule(impl.Rule{Name: strings.Repeat("r", size), Left: a, Right: a}); len(got) != size+len("rule : a => a") {
		t.Errorf("a rule with a long name has a text of %d bytes", len(got))
	}
	s := signature("e", "a : e")
	for what, d := range map[string]impl.Definition{
		"guards": {Signature: s, Rules: []impl.Rule{r}}, "rules": {Signature: s, Rules: slices.Repeat([]impl.Rule{{Name: "r", Left: a, Right: a}}, size)}, "strict": {Signature: s, Strict: slices.Repeat([]impl.Strict{{Op: "a"}}, size)},
		"sorts": {Signature: impl.Signature{Sorts: slices.Repeat([]string{"e"}, size)}}, "ops": {Signature: impl.Signature{Ops: slices.Repeat(s.Ops, size)}}, "args": {Signature: impl.Signature{Ops: []impl.Op{{Name: "f", Args: slices.Repeat([]string{"word"}, size), Result: "word"}}}},
	} {
		if got := impl.FormatDefinition(d); got != "" {
			t.Errorf("a definition with many %s has a text of %d bytes", what, len(got))
		}
	}
}

func TestLongTexts(t *testing.T) {
	const size = 30000
	for _, part := range []string{"f(", "a", " ", "rule ", "rule r: ", "r: ", "a => ", " => ", " if ", " & ", "a == a & ", ": ", "\n", "\xff", "\x00", "sort e\n", "word ", ", "} {
		long := strings.Repeat(part, size)
		for _, s := range []string{long, "rule " + long, "rule r: " + long, "rule r: a => " + long, "rule r: a => a if " + long, "rule " + long + ": a => a", "rule r: " + long + " => a", "rule r: a => " + long + " if a == a", "rule r: a => a" + long + "\n"} {
			if got, ok := impl.ParseRule(s); ok || !sameRules(got, impl.Rule{}) {
				t.Errorf("a text of %d bytes is a rule", len(s))
			}
		}
		for start, want := range map[string]int{"sort ": 1, "op ": 1, "op f ": 1, "op f : ": 1, "op f word : word\nstrict ": 2, "op f word : word\nstrict f ": 2, "op f word : word\nstrict f 0": 2} {
			// The parts with newlines begin new lines.
			if !strings.Contains(part, "\n") {
				checkLongReported(t, start+long, want)
				checkLongReported(t, start+long+"\n", want)
				checkLongReported(t, start+long+"\nhm\n", want)
			}
		}
	}
	for _, line := range []string{"sort e\n", "op a : e\n", "op f word word : word\n", "strict f 0\n", "rule r: a => a\n", "rule r: f(X, g(Y)) => Y if 0 < X & X != Y\n", "sort\n", "op\n", "strict\n"} {
		many := strings.Repeat(line, size)
		checkLongReported(t, many, size)
		checkLongReported(t, many+"hm", size)
		checkLongReported(t, many+"\n", size)
		checkLongReported(t, many+"rule r: a =>", size)
		checkLongReported(t, many+many[:len(many)-1], 2*size)
		checkLongReported(t, "hm\n"+many, 0)
	}
	checkLongReported(t, strings.Repeat("\n", size), 0)
	checkLongReported(t, "sort e"+strings.Repeat("\n", size), 1)
}

// checkLongReported does not print the text.
func checkLongReported(t *testing.T, s string, want int) {
	t.Helper()
	if got, line := impl.ParseDefinition(s); line != want || !sameDefinitions(got, impl.Definition{}) {
		t.Errorf("a text of %d bytes that starts with %q is reported as %d, not %d", len(s), s[:min(len(s), 40)], line, want)
	}
}
