package marks_test

import (
	"slices"
	"strings"
	"testing"

	"lampbox/api"
	"lampbox/marks"
)

func wantSquare(t *testing.T, word string, position, period int, exists bool) {
	t.Helper()
	i, p, err := marks.Square(word)
	wantPair(t, "Square of "+word, i, p, err, position, period, exists)
}

func wantAbelian(t *testing.T, word string, position, half int, exists bool) {
	t.Helper()
	i, p, err := marks.Abelian(word)
	wantPair(t, "Abelian of "+word, i, p, err, position, half, exists)
}

// wantPair compares two numbers, or that there are none.
func wantPair(t *testing.T, what string, i, p int, err api.Errno, position, length int, exists bool) {
	t.Helper()
	if exists && (i != position || p != length || err != api.OK) || !exists && (i != 0 || p != 0 || err != api.ErrNone) {
		t.Fatalf("%s: %d %d %d, want %d %d %v", what, i, p, err, position, length, exists)
	}
}

// abelianOf is the first abelian square by the terms: the letters of both parts, sorted, are equal.
func abelianOf(word string) (int, int, bool) {
	for i := range word {
		for p := 1; i+2*p <= len(word); p++ {
			x, y := []byte(word[i:i+p]), []byte(word[i+p:i+2*p])
			slices.Sort(x)
			slices.Sort(y)
			if slices.Equal(x, y) {
				return i, p, true
			}
		}
	}
	return 0, 0, false
}

// P11.1: the chapter's example, and squares that are known: the first one begins first, then it is the shortest.
func TestKnownSquares(t *testing.T) {
	for _, x := range []struct {
		word             string
		position, period int
		exists           bool
	}{
		{"abcbc", 1, 2, true},
		{"", 0, 0, false},
		{"a", 0, 0, false},
		{"d", 0, 0, false},
		{"ab", 0, 0, false},
		{"aa", 0, 1, true},
		{"dd", 0, 1, true},
		{"baa", 1, 1, true},
		{"abab", 0, 2, true},
		// The longer square begins first.
		{"abcabcc", 0, 3, true},
		{"abbabb", 0, 3, true},
		{"cabbabb", 1, 3, true},
		// Two squares begin at the same position.
		{"aaaa", 0, 1, true},
		{"aabaab", 0, 1, true},
		{"caabaab", 1, 1, true},
		{"ababcababc", 0, 2, true},
		{"abcba", 0, 0, false},
		{"abacaba", 0, 0, false},
		{"abacabad", 0, 0, false},
		{"abacabac", 0, 4, true},
		{thue(119) + "d", 0, 0, false},
		{thue(59) + "d" + thue(59) + "d", 0, 60, true},
		{"d" + thue(59) + thue(59), 1, 59, true},
		{thue(118) + "dd", 118, 1, true},
	} {
		wantSquare(t, x.word, x.position, x.period, x.exists)
	}
}

// P11.1: the first abelian squares of some words; a square is one, too.
func TestKnownAbelianSquares(t *testing.T) {
	for _, x := range []struct {
		word           string
		position, half int
		exists         bool
	}{
		{"", 0, 0, false},
		{"a", 0, 0, false},
		{"aa", 0, 1, true},
		{"abba", 0, 2, true},
		{"cabba", 1, 2, true},
		{"abcacb", 0, 3, true},
		{"abcdabc", 0, 0, false},
		{"abcdabcd", 0, 4, true},
		{"abcddcba", 0, 4, true},
		{"dcbaabcd", 0, 4, true},
		{"abacaba", 0, 0, false},
		{"abcba", 0, 0, false},
		{"cabcba", 0, 3, true},
		{"aabaab", 0, 1, true},
		// As many different letters, but not as many of each.
		{"abacacbca", 1, 3, true},
		{"abac", 0, 0, false},
		{"abcbdcd", 0, 0, false},
		{"aabbb", 0, 1, true},
		{"dcdc", 0, 2, true},
		{strings.Repeat("a", 120), 0, 1, true},
	} {
		wantAbelian(t, x.word, x.position, x.half, x.exists)
	}
}

// P11.1: all words of few letters, and long ones.
func TestSquaresOfAllWords(t *testing.T) {
	for _, word := range slices.Concat(smallWords(), longWords()) {
		position, period, exists := squareOf(word)
		wantSquare(t, word, position, period, exists)
		position, half, exists := abelianOf(word)
		wantAbelian(t, word, position, half, exists)
	}
}

// P11.1: Periods of some words; the empty word has none, and the length is always one.
func TestKnownPeriods(t *testing.T) {
	for _, x := range []struct {
		word string
		want []int
	}{
		{"", nil},
		{"a", []int{1}},
		{"d", []int{1}},
		{"ab", []int{2}},
		{"aa", []int{1, 2}},
		{"aba", []int{2, 3}},
		{"abaab", []int{3, 5}},
		{"abab", []int{2, 4}},
		{"ababa", []int{2, 4, 5}},
		{"abacaba", []int{4, 6, 7}},
		{"aabaabaa", []int{3, 6, 7, 8}},
		{"abcd", []int{4}},
		{"aaab", []int{4}},
	} {
		got, err := marks.Periods(x.word)
		if err != api.OK || !slices.Equal(got, x.want) {
			t.Errorf("Periods(%q) = %v %d, want %v", x.word, got, err, x.want)
		}
	}
}

// P11.1: Exponents that are known, in lowest terms.
func TestKnownExponents(t *testing.T) {
	for word, want := range map[string]api.Frac{
		"abaab":                   {Num: 5, Den: 3},
		"a":                       {Num: 1, Den: 1},
		"abcd":                    {Num: 1, Den: 1},
		"aa":                      {Num: 2, Den: 1},
		"aaa":                     {Num: 3, Den: 1},
		"abab":                    {Num: 2, Den: 1},
		"abcabca":                 {Num: 7, Den: 3},
		"abacaba":                 {Num: 7, Den: 4},
		"abcdab":                  {Num: 3, Den: 2},
		"abacabaaba":              {Num: 10, Den: 7},
		"abcabdabca":              {Num: 5, Den: 3},
		strings.Repeat("b", 120):  {Num: 120, Den: 1},
		repeated("abcdcbad", 120): {Num: 15, Den: 1},
		repeated("aaaaaaab", 118): {Num: 59, Den: 4},
	} {
		if got, err := marks.Exponent(word); got != want || err != api.OK {
			t.Errorf("Exponent(%q) = %v %d, want %v", word, got, err, want)
		}
	}
}

// P11.1: the greatest exponents of some words: the first part that has it, and of several the shortest one.
func TestKnownGreatest(t *testing.T) {
	for _, x := range []struct {
		word             string
		num, den         int
		position, length int
	}{
		{"abaab", 2, 1, 2, 2},
		{"a", 1, 1, 0, 1},
		{"dcba", 1, 1, 0, 1},
		{"aa", 2, 1, 0, 2},
		{"abcabc", 2, 1, 0, 6},
		{"aba", 3, 2, 0, 3},
		{"cabab", 2, 1, 1, 4},
		{"cababa", 5, 2, 1, 5},
		// Two parts begin at the same position, and two at different ones.
		{"aabaab", 2, 1, 0, 2},
		{"abaaba", 2, 1, 0, 6},
		{"ababcc", 2, 1, 0, 4},
		{"dabcbacd", 3, 2, 2, 3},
		{"abacaba", 7, 4, 0, 7},
		// The exponent of the whole word is smaller than that of a part.
		{"aaabaaab", 3, 1, 0, 3},
		{"baaab", 3, 1, 1, 3},
		{"abcdbacd", 3, 2, 2, 6},
		{strings.Repeat("c", 120), 120, 1, 0, 120},
		{strings.Repeat("ab", 60), 60, 1, 0, 120},
		{strings.Repeat("a", 60) + strings.Repeat("b", 60), 60, 1, 0, 60},
		{strings.Repeat("a", 59) + strings.Repeat("b", 61), 61, 1, 59, 61},
	} {
		got, position, length, err := marks.Greatest(x.word)
		if got != (api.Frac{Num: x.num, Den: x.den}) || position != x.position || length != x.length || err != api.OK {
			t.Errorf("Greatest(%q) = %v %d %d %d, want %d/%d %d %d", x.word, got, position, length, err, x.num, x.den, x.position, x.length)
		}
	}
}

// smallestPeriodOf is the smallest period by the terms.
func smallestPeriodOf(word string) int {
	for p := 1; ; p++ {
		i := 0
		for i < len(word)-p && word[i] == word[i+p] {
			i++
		}
		if i >= len(word)-p {
			return p
		}
	}
}

// reduced divides by all common divisors.
func reduced(num, den int) api.Frac {
	for d := den; d > 1; d-- {
		if num%d == 0 && den%d == 0 {
			num, den = num/d, den/d
		}
	}
	return api.Frac{Num: num, Den: den}
}

// greatestOf tries all parts, in the order in which they begin, and of those that begin together the shorter ones first.
func greatestOf(word string) (api.Frac, int, int) {
	best, position, length := api.Frac{Num: 0, Den: 1}, 0, 0
	for i := range word {
		for j := i + 1; j <= len(word); j++ {
			if p := smallestPeriodOf(word[i:j]); (j-i)*best.Den > best.Num*p {
				best, position, length = reduced(j-i, p), i, j-i
			}
		}
	}
	return best, position, length
}

// P11.1: all words of few letters, and long ones.
func TestExponentsOfAllWords(t *testing.T) {
	for _, word := range slices.Concat(smallWords(), longWords()) {
		periods, err := marks.Periods(word)
		if want := periodsOf(word); err != api.OK || !slices.Equal(periods, want) {
			t.Fatalf("Periods(%q) = %v %d, want %v", word, periods, err, want)
		}
		if word == "" {
			continue
		}
		exponent, err := marks.Exponent(word)
		if want := reduced(len(word), smallestPeriodOf(word)); err != api.OK || exponent != want {
			t.Fatalf("Exponent(%q) = %v %d, want %v", word, exponent, err, want)
		}
		greatest, position, length, err := marks.Greatest(word)
		want, i, n := greatestOf(word)
		if err != api.OK || greatest != want || position != i || length != n {
			t.Fatalf("Greatest(%q) = %v %d %d %d, want %v %d %d", word, greatest, position, length, err, want, i, n)
		}
	}
}

// P11.1: the empty word has no exponent, but periods and squares can be looked for.
func TestEmptyWord(t *testing.T) {
	exponent, err := marks.Exponent("")
	wantErr(t, "Exponent", err, api.ErrArg)
	greatest, position, length, err := marks.Greatest("")
	wantErr(t, "Greatest", err, api.ErrArg)
	periods, err := marks.Periods("")
	wantErr(t, "Periods", err, api.OK)
	if exponent != (api.Frac{}) || greatest != (api.Frac{}) || position != 0 || length != 0 || len(periods) > 0 {
		t.Errorf("of the empty word: %v %v %d %d %v", exponent, greatest, position, length, periods)
	}
	wantSquare(t, "", 0, 0, false)
	wantAbelian(t, "", 0, 0, false)
}
