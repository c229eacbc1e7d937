package tests

import (
	"regexp"
	"slices"
	"strings"
	"testing"

	"loop.example/g00517/impl"
)

func checkName(t *testing.T, s string, isName, isVarName bool) {
	t.Helper()
	if got := impl.IsName(s); got != isName {
		t.Errorf("IsName(%q) = %v", s, got)
	}
	if got := impl.IsVarName(s); got != isVarName {
		t.Errorf("IsVarName(%q) = %v", s, got)
	}
}

func TestMaxName(t *testing.T) {
	if impl.MaxName != 8 {
		t.Errorf("MaxName = %d", impl.MaxName)
	}
}

func TestNamesOfOrdinaryForm(t *testing.T) {
	for _, s := range []string{"x", "a", "z", "x1", "x0", "x9", "az", "add", "ifz", "a1b2", "n007", "zzz9"} {
		checkName(t, s, true, false)
		checkName(t, strings.ToUpper(s[:1])+s[1:], false, true)
	}
}

func TestNamesAtTheirMaximumLength(t *testing.T) {
	for _, c := range []struct {
		s    string
		isOK bool
	}{
		{"a", true},
		{"abcdefg", true},
		{"abcdefgh", true},
		{"a1234567", true},
		{"zzzzzzzz", true},
		{"abcdefghi", false},
		{"a12345678", false},
		{"zzzzzzzzz", false},
		{"abcdefghA", false},
		{"abcdefgA", false},
		{"abcdefg_", false},
		{"abcdefg\xff", false},
		{strings.Repeat("a", 16), false},
		{strings.Repeat("a", 256), false},
		{strings.Repeat("a", 257), false},
		{strings.Repeat("a", 100000), false},
	} {
		checkName(t, c.s, c.isOK, false)
		checkName(t, "A"+c.s[1:], false, c.isOK)
	}
	// The length counts bytes, so eight characters may be too long and a few may not be.
	checkName(t, "abcdefg\u00e9", false, false)
	checkName(t, "a\u00e9", false, false)
}

func TestNamesOfEveryLength(t *testing.T) {
	for length := 1; length <= 40; length++ {
		isShort := length <= 8
		for _, rest := range []string{"a", "z", "0", "9"} {
			tail := strings.Repeat(rest, length-1)
			checkName(t, "m"+tail, isShort, false)
			checkName(t, "M"+tail, false, isShort)
		}
	}
}

func TestInvalidNames(t *testing.T) {
	for _, s := range []string{
		"", " ", "_", "-", "'", "0", "1", "9", "42",
		"1x", "0x", "9x", "1X", "0X", "9X", "12345678",
		"xY", "Xy_", "XY", "X1Y", "xyzW", "ABCDEFGH", "aB", "Ab C", "ABc", "AbC",
		" x", "x ", "x y", " X", "X ", "X y", "\tx", "x\n", "X\n", "x\x00", "\x00x",
		"_x", "x_", "x_y", "_X", "X_", "X_y", "x-y", "x.y", "x'", "x,", "x(", "X)", "x:", "x/", "x@", "x[", "x`", "x{",
		"\x80", "\xff", "x\x80", "X\xff", "\xe9x", "\u00e9", "x\u00e9", "X\u00e9", "\u00c9", "\u0430", "\u0410", "x\u0661", "X\uff11", "\uff41", "\uff21",
	} {
		checkName(t, s, false, false)
	}
}

// TestNamesWithEachByte puts each byte at each place of names of all accepted lengths and of one byte more.
func TestNamesWithEachByte(t *testing.T) {
	name := regexp.MustCompile(`\A[a-z][a-z0-9]{0,7}\z`)
	varName := regexp.MustCompile(`\A[A-Z][a-z0-9]{0,7}\z`)
	for _, first := range []string{"a", "A", "z", "Z", "5", "\x00"} {
		for length := 1; length <= 9; length++ {
			for i := range length {
				for b := range 256 {
					changed := []byte(first + strings.Repeat("b", length-1))
					changed[i] = byte(b)
					s := string(changed)
					checkName(t, s, name.MatchString(s), varName.MatchString(s))
				}
			}
		}
	}
	for _, s := range stringsOf("aZ0_ \xe9", 5) {
		checkName(t, s, name.MatchString(s), varName.MatchString(s))
	}
}

func TestIndexOf(t *testing.T) {
	for _, c := range []struct {
		list []string
		s    string
		want int
	}{
		{nil, "", -1},
		{nil, "a", -1},
		{[]string{}, "a", -1},
		{[]string{"a"}, "a", 0},
		{[]string{"a"}, "b", -1},
		{[]string{"a"}, "", -1},
		{[]string{""}, "", 0},
		{[]string{"a", ""}, "", 1},
		{[]string{"a", "b", "c"}, "a", 0},
		{[]string{"a", "b", "c"}, "b", 1},
		{[]string{"a", "b", "c"}, "c", 2},
		{[]string{"a", "b", "c"}, "d", -1},
		{[]string{"c", "a", "b"}, "b", 2},
		{[]string{"a", "b", "c", "b"}, "b", 1},
		{[]string{"b", "b"}, "b", 0},
		{[]string{"x", "b", "b", "b"}, "b", 1},
		{[]string{"ab", "a"}, "a", 1},
		{[]string{"a", "ab"}, "ab", 1},
		{[]string{"ab", "abc"}, "a", -1},
		{[]string{"a"}, "A", -1},
		{[]string{"A", "a"}, "a", 1},
		{[]string{"\x80", "\xff"}, "\xff", 1},
		{[]string{"\xff"}, "\xfe", -1},
		{[]string{"a\x00", "a"}, "a", 1},
	} {
		if got := impl.IndexOf(c.list, c.s); got != c.want {
			t.Errorf("IndexOf(%q, %q) = %d, want %d", c.list, c.s, got, c.want)
		}
	}
}

func TestAllDistinct(t *testing.T) {
	for _, c := range []struct {
		list []string
		want bool
	}{
		{nil, true},
		{[]string{}, true},
		{[]string{""}, true},
		{[]string{"a"}, true},
		{[]string{"a", "a"}, false},
		{[]string{"", ""}, false},
		{[]string{"a", "b"}, true},
		{[]string{"b", "a"}, true},
		{[]string{"", "a"}, true},
		{[]string{"a", "A"}, true},
		{[]string{"a", "ab", "abc"}, true},
		{[]string{"a", "b", "c"}, true},
		{[]string{"a", "b", "a"}, false},
		{[]string{"a", "a", "b"}, false},
		{[]string{"b", "a", "a"}, false},
		{[]string{"a", "a", "a"}, false},
		{[]string{"a", "b", "c", "d", "b"}, false},
		{[]string{"\x80", "\xff"}, true},
		{[]string{"\xff", "\x80", "\xff"}, false},
		{[]string{"a", "a\x00"}, true},
	} {
		if got := impl.AllDistinct(c.list); got != c.want {
			t.Errorf("AllDistinct(%q) = %v", c.list, got)
		}
	}
}

func TestSortNames(t *testing.T) {
	for _, c := range []struct{ list, want []string }{
		{nil, nil},
		{[]string{}, nil},
		{[]string{""}, []string{""}},
		{[]string{"a"}, []string{"a"}},
		{[]string{"a", "b", "c"}, []string{"a", "b", "c"}},
		{[]string{"c", "b", "a"}, []string{"a", "b", "c"}},
		{[]string{"b", "c", "a"}, []string{"a", "b", "c"}},
		{[]string{"y", "x", "y"}, []string{"x", "y"}},
		{[]string{"a", "a"}, []string{"a"}},
		{[]string{"a", "a", "a", "b", "b"}, []string{"a", "b"}},
		{[]string{"", "a", "", "a"}, []string{"", "a"}},
		{[]string{"abc", "ab", "a", ""}, []string{"", "a", "ab", "abc"}},
		{[]string{"b", "ab", "abc", "a"}, []string{"a", "ab", "abc", "b"}},
		{[]string{"x10", "x9", "x1", "x"}, []string{"x", "x1", "x10", "x9"}},
		{[]string{"a", "B", "_", "1", "Z"}, []string{"1", "B", "Z", "_", "a"}},
		{[]string{"a", "a\x00", "a ", "a"}, []string{"a", "a\x00", "a "}},
		// Bytes above 127 follow all others, whatever characters they belong to.
		{[]string{"\xff", "z", "\x80", "\u00e9", "a\xff", "ab"}, []string{"ab", "a\xff", "z", "\x80", "\u00e9", "\xff"}},
		// By characters the second would come first.
		{[]string{"\U00010000", "\uffff"}, []string{"\uffff", "\U00010000"}},
	} {
		if got := impl.SortNames(c.list); !slices.Equal(got, c.want) {
			t.Errorf("SortNames(%q) = %q, want %q", c.list, got, c.want)
		}
	}
}

// listsOf returns all lists of at most length elements of pool.
func listsOf(pool []string, length int) [][]string {
	all := [][]string{nil}
	level := all
	for range length {
		var next [][]string
		for _, list := range level {
			for _, s := range pool {
				next = append(next, append(slices.Clone(list), s))
			}
		}
		all = append(all, next...)
		level = next
	}
	return all
}

func TestSortedNamesAreAscendingAndDistinct(t *testing.T) {
	lists := listsOf([]string{"", "a", "aa", "ab", "b", "B", "\xff"}, 5)
	lists = append(lists, stringsOf("ba\xe9Z0", 4))
	for _, list := range lists {
		got := impl.SortNames(list)
		for i := 1; i < len(got); i++ {
			if got[i-1] >= got[i] {
				t.Fatalf("SortNames(%q) = %q is not ascending", list, got)
			}
		}
		for _, s := range list {
			if !slices.Contains(got, s) {
				t.Fatalf("SortNames(%q) = %q lacks %q", list, got, s)
			}
		}
		for _, s := range got {
			if !slices.Contains(list, s) {
				t.Fatalf("SortNames(%q) = %q adds %q", list, got, s)
			}
		}
		if !impl.AllDistinct(got) {
			t.Fatalf("SortNames(%q) = %q is not distinct for AllDistinct", list, got)
		}
		if impl.AllDistinct(list) != (len(got) == len(list)) {
			t.Fatalf("AllDistinct(%q) = %v, but there are %d names", list, impl.AllDistinct(list), len(got))
		}
		if again := impl.SortNames(got); !slices.Equal(again, got) {
			t.Fatalf("SortNames(%q) = %q", got, again)
		}
		for i, s := range got {
			if impl.IndexOf(got, s) != i {
				t.Fatalf("IndexOf(%q, %q) = %d", got, s, impl.IndexOf(got, s))
			}
		}
	}
}

func TestWithout(t *testing.T) {
	for _, c := range []struct{ list, remove, want []string }{
		{nil, nil, nil},
		{nil, []string{"a"}, nil},
		{[]string{}, []string{}, nil},
		{[]string{"a"}, nil, []string{"a"}},
		{[]string{"b", "a"}, []string{}, []string{"b", "a"}},
		{[]string{"a"}, []string{"a"}, nil},
		{[]string{"a"}, []string{"b"}, []string{"a"}},
		{[]string{"a", "b", "a", "c"}, []string{"a"}, []string{"b", "c"}},
		{[]string{"a", "b", "a", "c"}, []string{"b"}, []string{"a", "a", "c"}},
		{[]string{"c", "a", "c", "b", "c"}, []string{"b"}, []string{"c", "a", "c", "c"}},
		{[]string{"c", "a", "c", "b", "c"}, []string{"c"}, []string{"a", "b"}},
		{[]string{"a", "a"}, []string{"a", "a"}, nil},
		{[]string{"a", "a"}, []string{"b", "b"}, []string{"a", "a"}},
		{[]string{"z", "y", "x"}, []string{"y", "w"}, []string{"z", "x"}},
		{[]string{"a", "b", "c"}, []string{"c", "b", "a"}, nil},
		{[]string{"a", "ab", "abc"}, []string{"ab"}, []string{"a", "abc"}},
		{[]string{"a", "A"}, []string{"A"}, []string{"a"}},
		{[]string{"", "a", ""}, []string{""}, []string{"a"}},
		{[]string{"", "a", ""}, []string{"a"}, []string{"", ""}},
		{[]string{"\xff", "\x80", "\u00e9"}, []string{"\xff", "\xe9"}, []string{"\x80", "\u00e9"}},
	} {
		if got := impl.Without(c.list, c.remove); !slices.Equal(got, c.want) {
			t.Errorf("Without(%q, %q) = %q, want %q", c.list, c.remove, got, c.want)
		}
	}
}

func TestWithoutKeepsExactlyWhatIsNotRemoved(t *testing.T) {
	lists := listsOf([]string{"", "a", "ab", "b"}, 4)
	removes := listsOf([]string{"", "a", "ab", "c"}, 2)
	for _, list := range lists {
		for _, remove := range removes {
			var want []string
			for _, s := range list {
				if impl.IndexOf(remove, s) < 0 {
					want = append(want, s)
				}
			}
			if got := impl.Without(list, remove); !slices.Equal(got, want) {
				t.Fatalf("Without(%q, %q) = %q, want %q", list, remove, got, want)
			}
		}
	}
}

// withSpare returns a slice of list that has unused capacity, and the whole of its memory.
func withSpare(list ...string) (part, whole []string) {
	whole = append(slices.Clone(list), "spare", "aspare", "spare")
	return whole[:len(list)], whole
}

func TestNameListsAreNotChanged(t *testing.T) {
	for _, list := range [][]string{nil, {"a"}, {"a", "b", "c"}, {"c", "a", "b", "a", "c"}, {"a", "a", "a"}} {
		for _, other := range [][]string{nil, {"a"}, {"c", "b"}, {"x", "x"}} {
			part, whole := withSpare(list...)
			remove, wholeRemove := withSpare(other...)
			kept, keptRemove := slices.Clone(whole), slices.Clone(wholeRemove)
			impl.IndexOf(part, "a")
			impl.AllDistinct(part)
			impl.SortNames(part)
			impl.Without(part, remove)
			if !slices.Equal(whole, kept) || !slices.Equal(wholeRemove, keptRemove) {
				t.Errorf("%q without %q: changed to %q and %q", kept, keptRemove, whole, wholeRemove)
			}
		}
	}
}

// overwrite writes to all of a result that its receiver may write to, its unused capacity included.
func overwrite(result []string) {
	result = result[:cap(result)]
	for i := range result {
		result[i] = "overwritten"
	}
}

func TestNameListsShareNoMemory(t *testing.T) {
	for _, list := range [][]string{{"a"}, {"a", "b"}, {"a", "b", "c", "d"}, {"b", "a"}, {"a", "a"}, {"c", "a", "c", "b"}} {
		for _, other := range [][]string{nil, {}, {"x"}, {"a"}, {"c"}, list} {
			part, whole := withSpare(list...)
			remove, wholeRemove := withSpare(other...)
			kept, keptRemove := slices.Clone(whole), slices.Clone(wholeRemove)
			sorted, rest := impl.SortNames(part), impl.Without(part, remove)
			wantSorted, wantRest := slices.Clone(sorted), slices.Clone(rest)
			overwrite(impl.SortNames(part))
			overwrite(impl.Without(part, remove))
			if !slices.Equal(whole, kept) || !slices.Equal(wholeRemove, keptRemove) {
				t.Errorf("a result for %q and %q shares memory with them", list, other)
			}
			if !slices.Equal(sorted, wantSorted) || !slices.Equal(rest, wantRest) {
				t.Errorf("two results for %q and %q share memory", list, other)
			}
		}
	}
}
