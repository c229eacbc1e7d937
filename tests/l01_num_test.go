package tests

import (
	"bytes"
	"math"
	"slices"
	"strings"
	"testing"

	"loop.example/g00517/impl"
)

// stringsOf returns all strings of at most length bytes from alphabet, so that a property can be checked without a random source.
func stringsOf(alphabet string, length int) []string {
	all := []string{""}
	level := all
	for range length {
		var next []string
		for _, s := range level {
			for i := range len(alphabet) {
				next = append(next, s+alphabet[i:i+1])
			}
		}
		all = append(all, next...)
		level = next
	}
	return all
}

// smallIntegers returns the integers from -limit to limit by their representation, written digit by digit and not by FormatInt.
func smallIntegers(limit int) map[string]int {
	known := map[string]int{"0": 0}
	for n := 1; n <= limit; n++ {
		text := ""
		for rest := n; rest > 0; rest /= 10 {
			text = string(rune('0'+rest%10)) + text
		}
		known[text] = n
		known["-"+text] = -n
	}
	return known
}

func TestFormatInt(t *testing.T) {
	for _, c := range []struct {
		n    int
		want string
	}{
		{0, "0"},
		{1, "1"},
		{-1, "-1"},
		{-5, "-5"},
		{9, "9"},
		{10, "10"},
		{-10, "-10"},
		{100, "100"},
		{-907, "-907"},
		{999999, "999999"},
		{1000000, "1000000"},
		{-999999999999, "-999999999999"},
		{math.MaxInt32 + 1, "2147483648"},
		{math.MinInt32 - 1, "-2147483649"},
		{math.MaxInt - 1, "9223372036854775806"},
		{math.MaxInt, "9223372036854775807"},
		{math.MinInt + 1, "-9223372036854775807"},
		{math.MinInt, "-9223372036854775808"},
	} {
		if got := impl.FormatInt(c.n); got != c.want {
			t.Errorf("FormatInt(%d) = %q, want %q", c.n, got, c.want)
		}
	}
	for text, n := range smallIntegers(2000) {
		if got := impl.FormatInt(n); got != text {
			t.Errorf("FormatInt(%d) = %q, want %q", n, got, text)
		}
	}
}

func TestParseNumberAcceptsAllNumbers(t *testing.T) {
	for n := 0; n <= 999999; n++ {
		if got, ok := impl.ParseNumber(impl.FormatInt(n)); !ok || got != n {
			t.Fatalf("ParseNumber(FormatInt(%d)) = %d, %v", n, got, ok)
		}
	}
	for text, want := range map[string]int{"0": 0, "7": 7, "10": 10, "500": 500, "999999": 999999} {
		if got, ok := impl.ParseNumber(text); !ok || got != want {
			t.Errorf("ParseNumber(%q) = %d, %v, want %d, true", text, got, ok, want)
		}
	}
}

func TestParseIntAcceptsItsRange(t *testing.T) {
	for text, want := range map[string]int{
		"0":             0,
		"1":             1,
		"-1":            -1,
		"42":            42,
		"-70":           -70,
		"999999":        999999,
		"1000000":       1000000,
		"-1000000":      -1000000,
		"4294967296":    4294967296,
		"-4294967297":   -4294967297,
		"999999999998":  999999999998,
		"999999999999":  999999999999,
		"-999999999998": -999999999998,
		"-999999999999": -999999999999,
	} {
		if got, ok := impl.ParseInt(text); !ok || got != want {
			t.Errorf("ParseInt(%q) = %d, %v, want %d, true", text, got, ok, want)
		}
	}
	for n := -999999999999; n <= 999999999999; n += 1234567 {
		if got, ok := impl.ParseInt(impl.FormatInt(n)); !ok || got != n {
			t.Fatalf("ParseInt(FormatInt(%d)) = %d, %v", n, got, ok)
		}
	}
}

// malformed are the strings that are the FormatInt of no integer that either function accepts.
func malformed() []string {
	list := []string{
		"", "00", "007", "01", "0000000", "-0", "-00", "-01", "-007", "-", "--", "--1", "-+1",
		"+", "+0", "+1", "+-1", "1-", "1+", "1-1",
		" ", " 1", "1 ", " 1 ", "1 2", "- 1", "-1 ", "\t1", "1\n", "1\r", "1\x00", "\x001",
		"a", "a1", "1a", "12x4", "-a", "-1a", "0x10", "0b1", "0o7", "1_000", "1,000", "1e3", "1.0", ".5", "nan", "inf",
		"/", ":", "1/", "1:", "\x7f", "\x80", "1\x80", "\xff", "\xb1", "-\xb1", "1\xb2", "\u0661", "\uff11", "\u22121", "\u00b2",
		// Beyond 64 bits; modulo 2^64 or 2^32 these would be small integers.
		"9223372036854775807", "-9223372036854775808", "9223372036854775808", "-9223372036854775809",
		"18446744073709551615", "18446744073709551616", "18446744073709551621", "-18446744073709551616", "-18446744073709551621",
		"340282366920938463463374607431768211457", strings.Repeat("9", 40), "-" + strings.Repeat("9", 40),
		strings.Repeat("1", 100000), strings.Repeat("0", 100000), "1" + strings.Repeat("0", 100000), "-" + strings.Repeat("0", 64),
	}
	for b := range 256 {
		if b < '0' || b > '9' {
			list = append(list, string([]byte{byte(b)}), string([]byte{'1', byte(b)}), string([]byte{'1', byte(b), '2'}))
			if b != '-' {
				list = append(list, string([]byte{byte(b), '1'}))
			}
		}
	}
	return list
}

func TestParseRejectsMalformedIntegers(t *testing.T) {
	for _, s := range malformed() {
		if n, ok := impl.ParseNumber(s); ok || n != 0 {
			t.Errorf("ParseNumber(%.40q) = %d, %v, want 0, false", s, n, ok)
		}
		if n, ok := impl.ParseInt(s); ok || n != 0 {
			t.Errorf("ParseInt(%.40q) = %d, %v, want 0, false", s, n, ok)
		}
	}
}

func TestParseRejectsIntegersBeyondTheLimits(t *testing.T) {
	for _, s := range []string{"1000000", "1000001", "9999999", "999999999999", "4294967296", "-1", "-5", "-999999", "-1000000"} {
		if n, ok := impl.ParseNumber(s); ok || n != 0 {
			t.Errorf("ParseNumber(%q) = %d, %v, want 0, false", s, n, ok)
		}
	}
	for _, s := range []string{"1000000000000", "1000000000001", "9999999999999", "-1000000000000", "-1000000000001", "-9999999999999"} {
		if n, ok := impl.ParseInt(s); ok || n != 0 {
			t.Errorf("ParseInt(%q) = %d, %v, want 0, false", s, n, ok)
		}
	}
}

func TestParseAcceptsNothingButRepresentations(t *testing.T) {
	known := smallIntegers(9999)
	for _, s := range stringsOf("-+ 019a\xff", 5) {
		want, isInt := known[s]
		if len(s) == 5 && s[0] != '-' && s[0] != '0' && strings.Trim(s, "019") == "" {
			continue // five digits are more than known has
		}
		if n, ok := impl.ParseInt(s); n != want || ok != isInt {
			t.Fatalf("ParseInt(%q) = %d, %v, want %d, %v", s, n, ok, want, isInt)
		}
		isNumber := isInt && want >= 0
		if !isNumber {
			want = 0
		}
		if n, ok := impl.ParseNumber(s); n != want || ok != isNumber {
			t.Fatalf("ParseNumber(%q) = %d, %v, want %d, %v", s, n, ok, want, isNumber)
		}
	}
}

func TestSplitByte(t *testing.T) {
	for _, c := range []struct {
		s    string
		by   byte
		want []string
	}{
		{"", ',', []string{""}},
		{"", 0, []string{""}},
		{"a", ',', []string{"a"}},
		{"a,b", ',', []string{"a", "b"}},
		{"one two three", ' ', []string{"one", "two", "three"}},
		{",", ',', []string{"", ""}},
		{",a", ',', []string{"", "a"}},
		{"a,", ',', []string{"a", ""}},
		{",a,", ',', []string{"", "a", ""}},
		{"a,,b", ',', []string{"a", "", "b"}},
		{",,", ',', []string{"", "", ""}},
		{"a\nb\n", '\n', []string{"a", "b", ""}},
		{"a\x00b", 0, []string{"a", "b"}},
		{"a\xffb", 0xff, []string{"a", "b"}},
		{"\xff\xff", 0xff, []string{"", "", ""}},
		// A byte is split off even inside the encoding of a character.
		{"\u00e9\u00e8", 0xc3, []string{"", "\xa9", "\xa8"}},
		{"\u00e9", 0xe9, []string{"\u00e9"}},
		{"\u00ff", 0xff, []string{"\u00ff"}},
	} {
		if got := impl.SplitByte(c.s, c.by); !slices.Equal(got, c.want) {
			t.Errorf("SplitByte(%q, %q) = %q, want %q", c.s, c.by, got, c.want)
		}
	}
}

func TestJoin(t *testing.T) {
	for _, c := range []struct {
		list []string
		by   string
		want string
	}{
		{nil, "", ""},
		{nil, ",", ""},
		{[]string{}, ",", ""},
		{[]string{""}, ",", ""},
		{[]string{"a"}, ",", "a"},
		{[]string{"a", "b"}, "-", "a-b"},
		{[]string{"a", "b", "c"}, "", "abc"},
		{[]string{"a", "b", "c"}, ", ", "a, b, c"},
		{[]string{"", ""}, ",", ","},
		{[]string{"", "", ""}, "ab", "abab"},
		{[]string{"a", "", "b"}, ",", "a,,b"},
		{[]string{"a,b", "c"}, ",", "a,b,c"},
		{[]string{"\xff", "\x80"}, "\xc3", "\xff\xc3\x80"},
	} {
		if got := impl.Join(c.list, c.by); got != c.want {
			t.Errorf("Join(%q, %q) = %q, want %q", c.list, c.by, got, c.want)
		}
	}
}

func TestJoinUndoesSplitByte(t *testing.T) {
	for _, s := range stringsOf(",a\x00\xc3\xff", 5) {
		for b := range 256 {
			by := []byte{byte(b)}
			parts := impl.SplitByte(s, byte(b))
			if len(parts) != bytes.Count([]byte(s), by)+1 {
				t.Fatalf("SplitByte(%q, %q) has %d elements", s, by, len(parts))
			}
			for _, part := range parts {
				if strings.IndexByte(part, byte(b)) >= 0 {
					t.Fatalf("SplitByte(%q, %q) = %q: an element contains the separator", s, by, parts)
				}
			}
			if got := impl.Join(parts, string(by)); got != s {
				t.Fatalf("Join(SplitByte(%q, %q)) = %q", s, by, got)
			}
		}
	}
}

func TestSplitByteUndoesJoin(t *testing.T) {
	pool := stringsOf("a\xffb", 2)
	for _, by := range []byte{',', 0, '\n', 0x80, 0xc3, 0xfe} {
		for _, x := range pool {
			for _, y := range pool {
				for _, list := range [][]string{{x}, {x, y}, {x, y, x}, {"", x, y, ""}} {
					text := impl.Join(list, string([]byte{by}))
					if got := impl.SplitByte(text, by); !slices.Equal(got, list) {
						t.Fatalf("SplitByte(Join(%q), %q) = %q", list, by, got)
					}
				}
			}
		}
	}
}

func TestJoinKeepsItsArgument(t *testing.T) {
	list := []string{"a", "b", "c", "d"}
	if got := impl.Join(list[:2], ","); got != "a,b" {
		t.Errorf("Join = %q", got)
	}
	if !slices.Equal(list, []string{"a", "b", "c", "d"}) {
		t.Errorf("Join changed its argument to %q", list)
	}
}

func TestSplitByteReturnsNewMemory(t *testing.T) {
	first := impl.SplitByte("a,b", ',')
	second := impl.SplitByte("a,b", ',')
	first[0] = "x"
	_ = append(first[:1], "y")
	if !slices.Equal(second, []string{"a", "b"}) {
		t.Errorf("two results of SplitByte share memory: %q", second)
	}
}
