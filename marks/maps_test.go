package marks_test

import (
	"math/rand/v2"
	"slices"
	"strings"
	"testing"

	"lampbox/api"
	"lampbox/marks"
)

func wantImage(t *testing.T, m []string, word, want string) {
	t.Helper()
	if got, err := marks.Image(m, word); got != want || err != api.OK {
		t.Fatalf("Image(%q, %q) = %q %d, want %q", m, word, got, err, want)
	}
}

// P11.3: known images; an image may have a letter d, and more letters than a word.
func TestKnownImages(t *testing.T) {
	for _, x := range []struct {
		m          []string
		word, want string
	}{
		{[]string{"abc", "ac", "b"}, "aba", "abcacabc"},
		{[]string{"abc", "ac", "b"}, "", ""},
		{[]string{"abc", "ac", "b"}, "cc", "bb"},
		{[]string{"a", "b", "c"}, "cab", "cab"},
		{[]string{"c", "a", "b"}, "cab", "bca"},
		{[]string{"d", "dd", "ddd"}, "abc", "dddddd"},
		{[]string{"a", "d", "abcdabcdabcd"}, "c", "abcdabcdabcd"},
		{[]string{"a", "a", "a"}, "bacca", "aaaaa"},
		{[]string{"abcdabcdabcd", "b", "c"}, strings.Repeat("a", 120), strings.Repeat("abcd", 360)},
	} {
		wantImage(t, x.m, x.word, x.want)
	}
}

// P11.3: images under all kinds of maps.
func TestImages(t *testing.T) {
	r := rand.New(rand.NewPCG(11, 4))
	for _, m := range someMaps() {
		for _, n := range []int{0, 1, 2, 3, r.IntN(121), 120} {
			word := randomWord(r, n, 3)
			wantImage(t, m, word, imageOf(m, word))
		}
	}
}

// P11.3: a word with a letter d has no image.
func TestNoImage(t *testing.T) {
	for _, m := range [][]string{{"a", "b", "c"}, {"d", "d", "d"}} {
		for _, word := range []string{"d", "da", "ad", "abcd", "abdca", strings.Repeat("a", 119) + "d"} {
			image, err := marks.Image(m, word)
			wantErr(t, word, err, api.ErrArg)
			if image != "" {
				t.Fatalf("Image(%q, %q) = %q with an error", m, word, image)
			}
		}
	}
}

func wantKeeps(t *testing.T, m []string, want string, exists bool) {
	t.Helper()
	got, err := marks.Keeps(m)
	wantWord(t, m, got, err, want, exists)
}

// P11.3: the chapter's examples, and maps whose first word is known, of one to five letters.
func TestKnownKeeps(t *testing.T) {
	lengths := map[int]bool{}
	for _, x := range breakingMaps() {
		wantKeeps(t, x.m, x.word, true)
		lengths[len(x.word)] = true
	}
	for n := 1; n <= 5; n++ {
		if !lengths[n] {
			t.Errorf("no map has a first word of %d letters", n)
		}
	}
	for _, m := range keepingMaps() {
		wantKeeps(t, m, "", false)
	}
}

// firstBroken tries all words of at most so many letters.
func firstBroken(free []string, m []string) (string, bool) {
	i := slices.IndexFunc(free, func(word string) bool { return hasSquare(imageOf(m, word)) })
	if i < 0 {
		return "", false
	}
	return free[i], true
}

// freeWordsUpTo are the square-free words of at most n letters a to c, in the order of words.
func freeWordsUpTo(n int) []string {
	all := []string{""}
	for from := 0; from < len(all) && len(all[from]) < n; from++ {
		for _, letter := range "abc" {
			if longer := all[from] + string(letter); !hasSquare(longer) {
				all = append(all, longer)
			}
		}
	}
	return all
}

// P11.3, P4: the first word of all kinds of maps; where there is none, no word of at most 12 letters has a square.
func TestKeepsByAllWords(t *testing.T) {
	free := freeWordsUpTo(12)
	found := map[int]int{}
	for _, m := range someMaps() {
		want, exists := firstBroken(free, m)
		wantKeeps(t, m, want, exists)
		found[len(want)]++
	}
	if found[0] < 20 || found[2] < 20 || found[3] < 5 {
		t.Errorf("too few maps of a kind: %v", found)
	}
}

// P11.3: all maps with images of one or two letters.
func TestKeepsOfSmallMaps(t *testing.T) {
	images := slices.Concat(allWords(1, 4), allWords(2, 4))
	free := freeWordsUpTo(7)
	for _, a := range images {
		for _, b := range images {
			for _, c := range images {
				want, exists := firstBroken(free, []string{a, b, c})
				wantKeeps(t, []string{a, b, c}, want, exists)
			}
		}
	}
}

func wantPower(t *testing.T, m []string, letter byte, times int, want string) {
	t.Helper()
	if got, err := marks.Power(m, letter, times); got != want || err != api.OK {
		t.Fatalf("Power(%q, %c, %d) = %q %d, want %q", m, letter, times, got, err, want)
	}
}

func wantNoPower(t *testing.T, m []string, letter byte, times int) {
	t.Helper()
	word, err := marks.Power(m, letter, times)
	wantErr(t, []any{m, letter, times}, err, api.ErrArg)
	if word != "" {
		t.Fatalf("Power(%q, %d, %d) = %q with an error", m, letter, times, word)
	}
}

// P11.3: known powers; no times is the letter itself.
func TestKnownPowers(t *testing.T) {
	known := []string{"abc", "ac", "b"}
	for i, want := range []string{"a", "abc", "abcacb", "abcacbabcbac", "abcacbabcbacabcacbacabcb"} {
		wantPower(t, known, 'a', i, want)
	}
	wantPower(t, known, 'c', 0, "c")
	wantPower(t, known, 'c', 1, "b")
	wantPower(t, known, 'c', 2, "ac")
	wantPower(t, known, 'b', 3, "abcacbac")
	wantPower(t, []string{"a", "b", "c"}, 'b', 40, "b")
	wantPower(t, []string{"b", "c", "a"}, 'a', 40, "b")
	wantPower(t, []string{"ab", "b", "c"}, 'a', 40, "a"+strings.Repeat("b", 40))
	wantPower(t, []string{"ab", "bc", "c"}, 'a', 1, "ab")
	wantPower(t, []string{"aaaaaaaaaaaa", "b", "c"}, 'b', 40, "b")
	wantPower(t, []string{"aaaaaaaaaaaa", "b", "c"}, 'a', 3, strings.Repeat("a", 1728))
}

// P11.3: all powers of all kinds of maps, by images of images.
func TestPowers(t *testing.T) {
	for _, m := range someMaps() {
		closed := !strings.Contains(strings.Join(m, ""), "d")
		for letter := byte('a'); letter <= 'c'; letter++ {
			word := string(rune(letter))
			for times := 0; times <= api.MaxTimes; times++ {
				if closed && len(word) <= api.MaxImageWord {
					wantPower(t, m, letter, times, word)
					word = imageOf(m, word)
				} else {
					wantNoPower(t, m, letter, times)
				}
			}
		}
	}
}

// P11.3: just 2000 letters are not too many, and one more is.
func TestLongPowers(t *testing.T) {
	for _, x := range []struct {
		m             []string
		times, length int
	}{
		{[]string{"bb", "bbbbbbbbbb", "c"}, 4, 2000},
		{[]string{"bbc", "bbbbbbbbbb", "c"}, 4, 2001},
		{[]string{"bbbccccccc", "bbccccccc", "cc"}, 6, 2000},
		{[]string{"abbbbccccccc", "ccccccccccc", "c"}, 40, 2001},
		{[]string{"abbbbbbccc", "cccccccc", "c"}, 40, 1999},
		{[]string{"bbbbbbbbbbbb", "cccccccccccc", "aaaaaaaaaaaa"}, 3, 1728},
		{[]string{"bbbbbbbbbbbb", "cccccccccccc", "aaaaaaaaaaaa"}, 4, 20736},
	} {
		word := "a"
		for range x.times {
			word = imageOf(x.m, word)
		}
		if len(word) != x.length {
			t.Fatalf("%q: %d letters", x.m, len(word))
		}
		if x.length <= 2000 {
			wantPower(t, x.m, 'a', x.times, word)
		} else {
			wantNoPower(t, x.m, 'a', x.times)
		}
		for times := x.times + 1; times <= api.MaxTimes && x.length > 1728; times++ {
			wantNoPower(t, x.m, 'a', times)
		}
	}
}

// P11.3: letters and numbers out of range, and images with a letter d, also where no d can arise.
func TestNoPowers(t *testing.T) {
	m := []string{"a", "b", "c"}
	for _, letter := range []byte{'d', 'e', 'A', 'C', 0, 1, 2, 3, ' ', '`', 'z', 128, 255, 'a' + 128} {
		for _, times := range []int{0, 1, 40, -1, 41} {
			wantNoPower(t, m, letter, times)
		}
	}
	for _, times := range []int{-1, -2, 41, 42, 1 << 32, 1<<32 + 1, huge, -huge - 1} {
		for letter := byte('a'); letter <= 'd'; letter++ {
			wantNoPower(t, m, letter, times)
		}
	}
	for i := range 3 {
		for _, image := range []string{"d", "ad", "da", "aaaaaaaaaaad"} {
			other := slices.Clone(m)
			other[i] = image
			for letter := byte('a'); letter <= 'c'; letter++ {
				for times := range 4 {
					wantNoPower(t, other, letter, times)
				}
			}
		}
	}
}
