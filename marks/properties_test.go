package marks_test

import (
	"math/rand/v2"
	"slices"
	"testing"

	"lampbox/api"
	"lampbox/marks"
)

func isFree(t *testing.T, word string) bool {
	t.Helper()
	_, _, err := marks.Square(word)
	if err != api.OK && err != api.ErrNone {
		t.Fatalf("Square(%q): error %d", word, err)
	}
	return err == api.ErrNone
}

// P11.4: a non-empty word is square-free exactly if its greatest exponent is less than 2.
func TestFreeIfGreatestIsLessThanTwo(t *testing.T) {
	found := map[bool]int{}
	for _, word := range slices.Concat(smallWords(), longWords()) {
		if word == "" {
			continue
		}
		exponent, _, _, err := marks.Greatest(word)
		wantErr(t, word, err, api.OK)
		free := isFree(t, word)
		if free != (exponent.Num < 2*exponent.Den) {
			t.Fatalf("%q: square-free %v, Greatest %v", word, free, exponent)
		}
		found[free]++
	}
	if found[true] < 100 || found[false] < 100 {
		t.Errorf("too few words of a kind: %v", found)
	}
}

func reversed(word string) string {
	letters := []byte(word)
	slices.Reverse(letters)
	return string(letters)
}

// P11.4: parts of square-free words are square-free, and so is the reversed word; every square is an abelian square.
func TestPartsOfFreeWords(t *testing.T) {
	for _, word := range slices.Concat(smallWords(), longWords()) {
		if isFree(t, reversed(word)) != isFree(t, word) {
			t.Fatalf("%q and the reversed word", word)
		}
		if !isFree(t, word) {
			if _, _, err := marks.Abelian(word); err != api.OK {
				t.Fatalf("Abelian(%q): error %d", word, err)
			}
			continue
		}
		for i := 0; i < len(word); i += 1 + len(word)/9 {
			for j := i; j <= len(word); j += 1 + len(word)/9 {
				if !isFree(t, word[i:j]) {
					t.Fatalf("%q is not square-free, but %q", word[i:j], word)
				}
			}
		}
	}
}

// P11.4: two letters have no square-free word of 4 letters; three letters have some of every length.
func TestLettersThatAreEnough(t *testing.T) {
	for n := 4; n <= api.MaxFirst; n++ {
		_, err := marks.First(n, 2)
		wantErr(t, n, err, api.ErrNone)
		if n <= api.MaxCount {
			wantCount(t, n, 2, 0)
		}
	}
	for n := range api.MaxFirst + 1 {
		word, err := marks.First(n, 3)
		wantErr(t, n, err, api.OK)
		if len(word) != n || !isFree(t, word) {
			t.Fatalf("First(%d, 3) = %q", n, word)
		}
	}
	if !isFree(t, thue(api.MaxMarks)) {
		t.Errorf("the word of %d letters is not square-free", api.MaxMarks)
	}
}

// P11.4: two periods whose sum is at most the length have their greatest common divisor as a period.
func TestPeriodsOfPeriods(t *testing.T) {
	for _, word := range slices.Concat(smallWords(), longWords()) {
		periods, err := marks.Periods(word)
		wantErr(t, word, err, api.OK)
		for _, p := range periods {
			for _, q := range periods {
				if p+q <= len(word) && !slices.Contains(periods, divisor(p, q)) {
					t.Fatalf("Periods(%q) = %v", word, periods)
				}
			}
		}
	}
}

// divisor is the greatest common divisor.
func divisor(p, q int) int {
	for d := p; ; d-- {
		if p%d == 0 && q%d == 0 {
			return d
		}
	}
}

// P11.4: where Keeps returns ErrNone, also long square-free words have square-free images.
func TestKeptWords(t *testing.T) {
	r := rand.New(rand.NewPCG(11, 5))
	kept := 0
	for _, m := range someMaps() {
		if _, err := marks.Keeps(m); err != api.ErrNone {
			continue
		}
		kept++
		for _, word := range []string{thue(60), withoutSquare(r, 60, 3), withoutSquare(r, 30, 3), reversed(thue(40))} {
			image, err := marks.Image(m, word)
			wantErr(t, m, err, api.OK)
			if hasSquare(image) {
				t.Fatalf("Keeps(%q): ErrNone, but the image of %q is %q", m, word, image)
			}
		}
	}
	if kept < 20 {
		t.Errorf("only %d maps keep square-free words", kept)
	}
}

// P11.2, P11.3: the powers of a map that keeps square-free words are square-free.
func TestPowersOfKeepingMap(t *testing.T) {
	m := []string{"abcab", "acabcb", "acbcacb"}
	for letter := byte('a'); letter <= 'c'; letter++ {
		for times := range 4 {
			word, err := marks.Power(m, letter, times)
			wantErr(t, times, err, api.OK)
			if hasSquare(word) {
				t.Fatalf("Power(%q, %c, %d) = %q", m, letter, times, word)
			}
		}
	}
}
