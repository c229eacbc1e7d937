package tests

import (
	"math"
	"strings"
	"testing"

	"loop.example/g00517/impl"
)

// languageLines returns the lines of a language as the document lists them.
func languageLines(k int) []string {
	return map[int][]string{
		1: {
			"sort e",
			"op num word : e", "op add e e : e", "op mul e e : e", "op ifz e e e : e",
			"strict add 0", "strict add 1", "strict mul 0", "strict mul 1", "strict ifz 0",
			"rule add: add(num(N), num(M)) => num(plus(N, M))",
			"rule mul: mul(num(N), num(M)) => num(times(N, M))",
			"rule zero: ifz(num(0), X, Y) => X",
			"rule other: ifz(num(N), X, Y) => Y if 0 < N",
		},
		2: {
			"sort e", "sort i", "sort s", "sort c",
			"op num word : e", "op add e e : e", "op mul e e : e",
			"op halt : i", "op push word i : i", "op sum i : i", "op prod i : i",
			"op nil : s", "op cons word s : s", "op run i s : c", "op comp e i : i",
			"strict comp 1", "strict run 0",
			"rule lit: comp(num(N), I) => push(N, I)",
			"rule csum: comp(add(X, Y), I) => comp(X, comp(Y, sum(I)))",
			"rule cprod: comp(mul(X, Y), I) => comp(X, comp(Y, prod(I)))",
			"rule push: run(push(N, I), S) => run(I, cons(N, S))",
			"rule sum: run(sum(I), cons(N, cons(M, S))) => run(I, cons(plus(M, N), S))",
			"rule prod: run(prod(I), cons(N, cons(M, S))) => run(I, cons(times(M, N), S))",
		},
		3: {
			"sort c",
			"op loop word word : c", "op done word : c",
			"rule turn: loop(N, M) => loop(minus(N, 1), plus(M, 1)) if 0 < N",
			"rule end: loop(0, M) => done(M)",
		},
	}[k]
}

func TestTextsOfLanguages(t *testing.T) {
	for k := 1; k <= 3; k++ {
		want := strings.Join(languageLines(k), "\n") + "\n"
		if got := impl.LanguageOf(k); got != want {
			t.Errorf("LanguageOf(%d) = %q, want %q", k, got, want)
		}
	}
}

func TestLanguagesThatThereAreNot(t *testing.T) {
	for _, k := range []int{0, 4, 5, 6, -1, -2, -3, 10, 255, 256, 257, 1 << 32, 1<<32 + 1, 1<<32 + 3, -1<<32 + 2, math.MinInt, math.MinInt + 1, math.MaxInt - 1, math.MaxInt} {
		if got := impl.LanguageOf(k); got != "" {
			t.Errorf("LanguageOf(%d) = %q", k, got)
		}
	}
}

func TestLanguagesAreDefinitions(t *testing.T) {
	all := exampleDefinitions(t)
	loop := definitionIn(t, signature("c", "loop word word : c", "done word : c"), nil, "turn: loop(N, M) => loop(minus(N, 1), plus(M, 1)) if 0 < N", "end: loop(0, M) => done(M)")
	for i, want := range []impl.Definition{all[0], all[1], loop} {
		checkParsed(t, want, impl.LanguageOf(i+1))
	}
}
