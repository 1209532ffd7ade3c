package marks_test

import (
	"math/rand/v2"
	"reflect"
	"slices"
	"strings"
	"testing"

	"lampbox/api"
	"lampbox/marks"
)

// ofWord calls every function that receives a word alone, and Extend, and returns all that they return.
func ofWord(word string, k int) ([]any, []api.Errno) {
	position, period, e1 := marks.Square(word)
	at, half, e2 := marks.Abelian(word)
	exponent, e3 := marks.Exponent(word)
	greatest, from, length, e4 := marks.Greatest(word)
	periods, e5 := marks.Periods(word)
	longer, e6 := marks.Extend(word, k)
	return []any{position, period, at, half, exponent, greatest, from, length, periods, longer}, []api.Errno{e1, e2, e3, e4, e5, e6}
}

// ofMap calls every function that receives a map, and returns all that they return.
func ofMap(m []string, word string, letter byte, times int) ([]any, []api.Errno) {
	image, e1 := marks.Image(m, word)
	broken, e2 := marks.Keeps(m)
	power, e3 := marks.Power(m, letter, times)
	return []any{image, broken, power}, []api.Errno{e1, e2, e3}
}

// wantArg fails if not every error is ErrArg, or a result is not its zero value.
func wantArg(t *testing.T, what any, results []any, errs []api.Errno) {
	t.Helper()
	for i, r := range results {
		if v := reflect.ValueOf(r); v.Kind() == reflect.Slice && v.Len() > 0 || v.Kind() != reflect.Slice && !v.IsZero() {
			t.Fatalf("%.50q: result %d is %v with an error", what, i, r)
		}
	}
	for i, err := range errs {
		if err != api.ErrArg {
			t.Fatalf("%.50q: error %d is %d", what, i, err)
		}
	}
}

// noWords are strings that are not words.
func noWords() []string {
	all := []string{
		"e", "A", "D", " ", "`", "\x00", "\xff", "\xe1", "ä", "a\n", "0", "abce", "ab cd", "aae", "eaa", "abcab-",
		strings.Repeat("a", 121), thue(121), strings.Repeat("d", 122), strings.Repeat("ab", 1000), strings.Repeat("abcd", 1000000), strings.Repeat("e", 120),
	}
	for i := range 120 {
		word := []byte(thue(120))
		word[i] = "e`\x00A\xe1"[i%5]
		all = append(all, string(word))
	}
	return all
}

// P11.1 to P11.3: what is not a word is an error of every function, whatever the other arguments are.
func TestNoWords(t *testing.T) {
	for _, word := range noWords() {
		for _, k := range []int{3, 4, 0} {
			results, errs := ofWord(word, k)
			wantArg(t, word, results, errs)
		}
		for _, m := range [][]string{{"a", "b", "c"}, {"a", "b"}, nil, {word, word, word}} {
			image, err := marks.Image(m, word)
			wantArg(t, word, []any{image}, []api.Errno{err})
		}
	}
}

// P11.1, P11.3: words of just MaxMarks letters are words.
func TestLongestWords(t *testing.T) {
	for _, word := range []string{thue(120), strings.Repeat("d", 120), repeated("abcd", 120)} {
		if _, err := marks.Periods(word); err != api.OK {
			t.Fatalf("Periods(%q): error %d", word, err)
		}
		if _, err := marks.Exponent(word); err != api.OK {
			t.Fatalf("Exponent(%q): error %d", word, err)
		}
	}
	wantImage(t, []string{"a", "b", "c"}, thue(120), thue(120))
}

// noMaps are lists that are not maps.
func noMaps() [][]string {
	all := [][]string{
		nil, {}, {"a"}, {"a", "b"}, {"a", "b", "c", "d"}, {"a", "b", "c", ""}, {"", "", ""}, make([]string, 3), make([]string, 1000000),
		slices.Repeat([]string{"a"}, 6), slices.Repeat([]string{"a"}, 1000000),
	}
	wrong := []string{"", "abcabcabcabca", strings.Repeat("d", 13), strings.Repeat("a", 120), strings.Repeat("a", 1000000)}
	for _, image := range append(wrong, noWords()[:16]...) {
		for i := range 3 {
			m := []string{"a", "b", "c"}
			m[i] = image
			all = append(all, m)
		}
	}
	return all
}

// P11.3: what is not a map is an error of every function, whatever the other arguments are.
func TestNoMaps(t *testing.T) {
	for _, m := range noMaps() {
		for _, word := range []string{"", "a", "abc", "d", "e"} {
			for _, times := range []int{0, 1, -1, 41} {
				results, errs := ofMap(m, word, 'a'+byte(len(word)), times)
				wantArg(t, m, results, errs)
			}
		}
	}
}

// P11.3: images of 1 and of MaxImage letters are images.
func TestShortestAndLongestImages(t *testing.T) {
	for i := range 3 {
		for _, image := range []string{"a", "d", thue(12), strings.Repeat("d", 12)} {
			m := []string{"a", "b", "c"}
			m[i] = image
			wantImage(t, m, "abc", strings.Join(m, ""))
			if _, err := marks.Keeps(m); err == api.ErrArg {
				t.Fatalf("Keeps(%q): no map", m)
			}
		}
	}
}

// P2, rule 5: a second call returns the same; arguments stay as they are; results are new memory.
func TestCallsLeaveNothingBehind(t *testing.T) {
	r := rand.New(rand.NewPCG(11, 6))
	maps := someMaps()
	for i, word := range longWords() {
		m := maps[i%len(maps)]
		before := slices.Clone(m)
		first, errs := ofWord(word, 4)
		kept, _ := ofWord(word, 4)
		if !reflect.DeepEqual(first, kept) {
			t.Fatalf("two calls differ: %v, %v", first, kept)
		}
		for _, result := range first {
			scratch(result)
		}
		again, errsAgain := ofWord(word, 4)
		if !reflect.DeepEqual(again, kept) || !slices.Equal(errs, errsAgain) {
			t.Fatalf("results share memory: %v, %v", again, kept)
		}
		times := r.IntN(5)
		images, imageErrs := ofMap(m, word, 'a', times)
		others, otherErrs := ofMap(m, word, 'a', times)
		if !reflect.DeepEqual(images, others) || !slices.Equal(imageErrs, otherErrs) || !slices.Equal(m, before) {
			t.Fatalf("two calls differ, or a map has changed: %v, %v, %v", images, others, m)
		}
	}
}

// scratch writes over a list, also in the room behind its end.
func scratch(result any) {
	if list, ok := result.([]int); ok {
		list = list[:cap(list)]
		for i := range list {
			list[i] = -7
		}
	}
}

// Rule 5: what stands behind the end of a map is left alone, and not looked at.
func TestRoomBehindMaps(t *testing.T) {
	whole := []string{"abc", "ac", "b", "e", ""}
	wantImage(t, whole[:3], "aba", "abcacabc")
	wantKeeps(t, whole[:3], "aba", true)
	wantPower(t, whole[:3], 'a', 2, "abcacb")
	if !slices.Equal(whole, []string{"abc", "ac", "b", "e", ""}) {
		t.Errorf("written behind a map: %v", whole)
	}
}
