package marks_test

import (
	"math/rand/v2"
	"slices"
	"strings"
	"testing"

	"lampbox/api"
	"lampbox/marks"
)

// extensionOf is the extension by the terms.
func extensionOf(word string, k int) (string, bool) {
	for letter := range k {
		if longer := word + string(rune('a'+letter)); !hasSquare(longer) {
			return longer, true
		}
	}
	return "", false
}

func wantExtension(t *testing.T, word string, k int, want string, exists bool) {
	t.Helper()
	got, err := marks.Extend(word, k)
	wantWord(t, []any{word, k}, got, err, want, exists)
}

// P11.2: known extensions; a word may have other letters than those that are added.
func TestKnownExtensions(t *testing.T) {
	for _, x := range []struct {
		word   string
		k      int
		want   string
		exists bool
	}{
		{"", 1, "a", true},
		{"", 4, "a", true},
		{"a", 1, "", false},
		{"a", 2, "ab", true},
		{"ab", 2, "aba", true},
		{"aba", 2, "", false},
		{"aba", 3, "abac", true},
		{"abacaba", 3, "", false},
		{"abacaba", 4, "abacabad", true},
		{"abacabadabacaba", 4, "", false},
		{"d", 1, "da", true},
		{"c", 1, "ca", true},
		{"bac", 2, "baca", true},
		{"dad", 1, "", false},
		{"dad", 2, "dadb", true},
		{"abcab", 3, "abcaba", true},
		{"bcabc", 3, "bcabcb", true},
		// The word has a square itself, so no letter helps.
		{"aa", 4, "", false},
		{"ccb", 4, "", false},
		{"abab", 4, "", false},
		{"aabcd", 3, "", false},
		{strings.Repeat("a", 119), 4, "", false},
	} {
		wantExtension(t, x.word, x.k, x.want, x.exists)
	}
}

// P11.2: all words of few letters, and long ones.
func TestExtensionsOfAllWords(t *testing.T) {
	for _, word := range slices.Concat(smallWords(), longWords()) {
		if len(word) == api.MaxMarks {
			continue
		}
		for k := 1; k <= 4; k++ {
			want, exists := extensionOf(word, k)
			wantExtension(t, word, k, want, exists)
		}
	}
}

// P11.2: extending a word again and again, up to MaxMarks letters, to which none can be added.
func TestExtendToTheEnd(t *testing.T) {
	r := rand.New(rand.NewPCG(11, 3))
	full := 0
	for range 40 {
		word := withoutSquare(r, api.MaxMarks-r.IntN(60), 4)
		for len(word) < api.MaxMarks {
			want, exists := extensionOf(word, 4)
			wantExtension(t, word, 4, want, exists)
			if !exists {
				break
			}
			word = want
		}
		if len(word) == api.MaxMarks {
			full++
			longer, err := marks.Extend(word, 4)
			wantErr(t, word, err, api.ErrArg)
			if longer != "" {
				t.Fatalf("Extend(%q) = %q with an error", word, longer)
			}
		}
	}
	if full == 0 {
		t.Errorf("no word has been extended to the end")
	}
	for k := 1; k <= 4; k++ {
		for _, word := range []string{strings.Repeat("a", 120), thue(120)} {
			_, err := marks.Extend(word, k)
			wantErr(t, word, err, api.ErrArg)
		}
		wantExtension(t, thue(118)+"d", 1, thue(118)+"da", true)
	}
}

func wantCount(t *testing.T, n, k, want int) {
	t.Helper()
	if got, err := marks.Count(n, k); got != want || err != api.OK {
		t.Errorf("Count(%d, %d) = %d %d, want %d", n, k, got, err, want)
	}
}

// P11.2: the numbers of square-free words of one, two and three letters are known.
func TestCounts(t *testing.T) {
	three := []int{1, 3, 6, 12, 18, 30, 42, 60, 78, 108, 144, 204, 264, 342, 456, 618, 798}
	for n, want := range three {
		wantCount(t, n, 3, want)
		wantCount(t, n, 1, len(freeWords(n, 1)))
		wantCount(t, n, 2, len(freeWords(n, 2)))
		if n < 10 && len(freeWords(n, 3)) != want {
			t.Errorf("the number for %d is wrong", n)
		}
	}
}

func wantFirst(t *testing.T, n, k int, want string, exists bool) {
	t.Helper()
	got, err := marks.First(n, k)
	wantWord(t, []int{n, k}, got, err, want, exists)
}

// P11.2: the first words of few letters, of all of them.
func TestFirstOfAllWords(t *testing.T) {
	for k := 1; k <= 4; k++ {
		for n := range 9 {
			if words := freeWords(n, k); len(words) > 0 {
				wantFirst(t, n, k, words[0], true)
			} else {
				wantFirst(t, n, k, "", false)
			}
		}
	}
}

// firstOf is the first square-free word of n of the first k letters: it counts up, and carries where a square ends.
func firstOf(n, k int) (string, bool) {
	word := []byte{}
	for len(word) < n {
		word = append(word, 'a')
		for hasSquare(string(word)) {
			for len(word) > 0 && word[len(word)-1] == 'a'+byte(k)-1 {
				word = word[:len(word)-1]
			}
			if len(word) == 0 {
				return "", false
			}
			word[len(word)-1]++
		}
	}
	return string(word), true
}

// P11.2, P4: the first words of all lengths.
func TestFirstOfAllLengths(t *testing.T) {
	for k := 1; k <= 4; k++ {
		for n := range api.MaxFirst + 1 {
			want, exists := firstOf(n, k)
			wantFirst(t, n, k, want, exists)
		}
	}
	wantFirst(t, 0, 1, "", true)
	wantFirst(t, 1, 1, "a", true)
	wantFirst(t, 2, 1, "", false)
	wantFirst(t, 3, 2, "aba", true)
	wantFirst(t, 4, 2, "", false)
	wantFirst(t, 60, 2, "", false)
	// What is first for 7 letters has no extension, so it is not the beginning of what is first for 8.
	wantFirst(t, 7, 3, "abacaba", true)
	wantFirst(t, 8, 3, "abacabca", true)
	wantFirst(t, 8, 4, "abacabad", true)
	wantFirst(t, 16, 3, "abacabcacbabcaba", true)
	wantFirst(t, 60, 3, "abacabcacbabcabacabcacbacabacbabcabacabcacbabcabacbabcacbaca", true)
}

// P11.2: numbers out of range.
func TestMakingOutOfRange(t *testing.T) {
	wrong := []int{-1, -2, 1 << 32, 1<<32 + 2, huge, -huge - 1}
	for _, k := range append(wrong, 0, 5, 6, 16, 256, 257) {
		for _, word := range []string{"", "a", "aa", "abc", strings.Repeat("a", 120)} {
			longer, err := marks.Extend(word, k)
			wantErr(t, k, err, api.ErrArg)
			if longer != "" {
				t.Fatalf("Extend(%q, %d) = %q with an error", word, k, longer)
			}
		}
	}
	for _, n := range append(wrong, 0, 1, 3, 16, 60, 61) {
		for _, k := range append(wrong, 0, 5, 6, 16) {
			wantNothingMade(t, n, k)
		}
	}
	for _, n := range append(wrong, 61, 62, 120, 1000) {
		for k := 1; k <= 4; k++ {
			wantNothingMade(t, n, k)
		}
	}
	for _, x := range [][2]int{{17, 1}, {17, 2}, {17, 3}, {18, 3}, {60, 2}, {60, 3}, {0, 4}, {1, 4}, {16, 4}} {
		many, err := marks.Count(x[0], x[1])
		wantErr(t, x, err, api.ErrArg)
		if many != 0 {
			t.Fatalf("Count(%v) = %d with an error", x, many)
		}
	}
}

// wantNothingMade fails if First or Count does not return ErrArg alone.
func wantNothingMade(t *testing.T, n, k int) {
	t.Helper()
	word, err := marks.First(n, k)
	many, countErr := marks.Count(n, k)
	if word != "" || many != 0 || err != api.ErrArg || countErr != api.ErrArg {
		t.Fatalf("%d %d: First %q %d, Count %d %d", n, k, word, err, many, countErr)
	}
}
