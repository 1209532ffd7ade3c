package marks_test

import (
	"math/rand/v2"
	"slices"
	"strings"
	"testing"

	"lampbox/api"
)

const huge = 1<<63 - 1

func wantErr(t *testing.T, what any, got, want api.Errno) {
	t.Helper()
	if got != want {
		t.Fatalf("%v: error %d, want %d", what, got, want)
	}
}

// wantWord compares a word, or that there is none, with what a function returns.
func wantWord(t *testing.T, what any, got string, err api.Errno, want string, exists bool) {
	t.Helper()
	if exists && (got != want || err != api.OK) || !exists && (got != "" || err != api.ErrNone) {
		t.Fatalf("%v: %q %d, want %q %v", what, got, err, want, exists)
	}
}

// allWords are all words of n of the first k letters, in lexicographic order.
func allWords(n, k int) []string {
	words := []string{""}
	for range n {
		var longer []string
		for _, word := range words {
			for letter := range k {
				longer = append(longer, word+string(rune('a'+letter)))
			}
		}
		words = longer
	}
	return words
}

// smallWords are those of few letters.
func smallWords() []string {
	var all []string
	for n := range 12 {
		all = append(all, allWords(n, 2)...)
	}
	for n := range 9 {
		all = append(all, allWords(n, 3)...)
	}
	for n := range 7 {
		all = append(all, allWords(n, 4)...)
	}
	return all
}

func randomWord(r *rand.Rand, n, k int) string {
	word := make([]byte, n)
	for i := range word {
		word[i] = 'a' + byte(r.IntN(k))
	}
	return string(word)
}

// withoutSquare is a random square-free word of at most n of the first k letters: it ends where no letter is found.
func withoutSquare(r *rand.Rand, n, k int) string {
	word := ""
	for tries := 0; len(word) < n && tries < 40; tries++ {
		if longer := word + string(rune('a'+r.IntN(k))); !hasSquare(longer) {
			word, tries = longer, 0
		}
	}
	return word
}

// repeated is as much of a word, again and again, as has n letters.
func repeated(word string, n int) string {
	return strings.Repeat(word, n/len(word)+1)[:n]
}

// thue is a square-free word of n letters: the image of itself under abc, ac, b.
func thue(n int) string {
	word := "a"
	for len(word) < n {
		word = strings.NewReplacer("a", "abc", "b", "ac", "c", "b").Replace(word)
	}
	return word[:n]
}

// longWords are words of all kinds and lengths.
func longWords() []string {
	r := rand.New(rand.NewPCG(11, 1))
	all := []string{strings.Repeat("a", 120), strings.Repeat("d", 119), repeated("ab", 120), repeated("abcd", 120), repeated("abc", 119)}
	for n := 1; n <= api.MaxMarks; n += 7 {
		for k := 1; k <= 4; k++ {
			all = append(all, randomWord(r, n, k), repeated(randomWord(r, 1+r.IntN(n), k), n))
		}
		all = append(all, thue(n), withoutSquare(r, n, 3), withoutSquare(r, n, 4))
		end := thue(n / 2)
		all = append(all, thue(n-len(end))+end, withoutSquare(r, n/2, 4)+"d"+withoutSquare(r, n/3, 3))
	}
	// The only square is the whole word, or the end of it.
	for n := 1; n <= api.MaxMarks/2; n += 9 {
		word := thue(n-1) + "d"
		all = append(all, word+word, word[n/2:]+word)
	}
	return all
}

// hasSquare tries all squares, letter by letter.
func hasSquare(word string) bool {
	_, _, has := squareOf(word)
	return has
}

// squareOf is the first square by the terms.
func squareOf(word string) (int, int, bool) {
	for i := range word {
	next:
		for p := 1; i+2*p <= len(word); p++ {
			for j := i; j < i+p; j++ {
				if word[j] != word[j+p] {
					continue next
				}
			}
			return i, p, true
		}
	}
	return 0, 0, false
}

// periodsOf are the periods by the terms.
func periodsOf(word string) []int {
	var periods []int
next:
	for p := 1; p <= len(word); p++ {
		for i := range len(word) - p {
			if word[i] != word[i+p] {
				continue next
			}
		}
		periods = append(periods, p)
	}
	return periods
}

// freeWords are the square-free words of n of the first k letters, in lexicographic order.
func freeWords(n, k int) []string {
	return slices.DeleteFunc(allWords(n, k), hasSquare)
}

// imageOf is the image of a word by the terms.
func imageOf(m []string, word string) string {
	image := ""
	for _, letter := range word {
		image += m[letter-'a']
	}
	return image
}

// randomMap has images of the given greatest length, of the first k letters, that are mostly square-free.
func randomMap(r *rand.Rand, longest, k int) []string {
	var m []string
	for range 3 {
		image := withoutSquare(r, 1+r.IntN(longest), k)
		if r.IntN(12) == 0 {
			image = randomWord(r, 1+r.IntN(longest), k)
		}
		m = append(m, image)
	}
	return m
}

// someMaps are maps of all kinds; those with a short image or with four letters often keep square-free words.
func someMaps() [][]string {
	r := rand.New(rand.NewPCG(11, 2))
	all := slices.Concat(keepingMaps(), [][]string{{"abc", "ac", "b"}, {"a", "a", "a"}, {"d", "d", "d"}, {"ab", "ba", "c"}, {"a", "b", "ab"}})
	for _, breaking := range breakingMaps() {
		all = append(all, breaking.m)
	}
	for range 250 {
		all = append(all, randomMap(r, 1+r.IntN(4), 4), randomMap(r, api.MaxImage, 4), randomMap(r, api.MaxImage, 3))
	}
	return all
}

// keepingMaps are maps that keep square-free words.
func keepingMaps() [][]string {
	return [][]string{
		{"a", "b", "c"}, {"c", "a", "b"}, {"b", "a", "d"}, {"abcab", "acabcb", "acbcacb"}, {"ad", "bd", "cd"},
		{"da", "db", "dc"}, {"bc", "ac", "dadc"}, {"cacbacabcba", "d", "b"}, {"b", "cbad", "cabdacad"}, {"dab", "c", "acb"},
		{"cbcadcdacd", "bcbacbdacdbd", "cbad"}, {"cba", "da", "b"}, {"bdadbacbcd", "c", "acbacad"}, {"a", "bdc", "dbdacbdabc"}, {"a", "cb", "cd"},
	}
}

// breaking is a map with the first square-free word whose image is not square-free.
type breaking struct {
	m    []string
	word string
}

func breakingMaps() []breaking {
	return []breaking{
		{[]string{"abc", "ac", "b"}, "aba"},
		{[]string{"aa", "b", "c"}, "a"},
		{[]string{"a", "bb", "cc"}, "b"},
		{[]string{"a", "b", "dabcabcd"}, "c"},
		{[]string{"a", "a", "b"}, "ab"},
		{[]string{"ab", "c", "b"}, "ac"},
		{[]string{"a", "b", "bd"}, "bc"},
		{[]string{"ab", "c", "bd"}, "ac"},
		{[]string{"a", "b", "ca"}, "ca"},
		{[]string{"a", "bc", "cb"}, "bc"},
		{[]string{"a", "b", "dcb"}, "cb"},
		{[]string{"a", "cbadbacad", "b"}, "bcab"},
		{[]string{"d", "ab", "cacdabdac"}, "caba"},
		{[]string{"cbc", "a", "dcacbcdabd"}, "abac"},
		{[]string{"cdbabcbacabd", "a", "b"}, "acbca"},
		{[]string{"cb", "cabdacbacd", "a"}, "bcacb"},
		{[]string{"d", "b", "abcdbdac"}, "cabac"},
		{[]string{"c", "dbacadabdacb", "a"}, "bcacb"},
	}
}
