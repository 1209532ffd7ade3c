package office_test

import (
	"fmt"
	"math/rand/v2"
	"slices"
	"strconv"
	"strings"
	"testing"

	"lampbox/api"
	"lampbox/office"
)

// oneOfEach makes a file of each kind.
const oneOfEach = `graph g 4 0,1;0,2;1,2;2,3
net n 4 0,1,1;1,2,2;2,3,3;3,0,4
fork f ((..).)
chain c aabb
list l 2,2 0,1;1,0;1,1
pile p 1,3,2
table t 1,1;1,1
miles m 0,1,2,1;1,0,1,2;2,1,0,1;1,2,1,0
line z 4 0,1;1,2;2,3
machine r 1,2,0;0,1,0
mark w abaab
`

// kinds are the kinds of the files of oneOfEach, by their names.
func kinds() map[string]string {
	return map[string]string{
		"g": "graph", "n": "net", "f": "fork", "c": "chain", "l": "list", "p": "pile", "t": "table", "m": "miles", "z": "line", "r": "machine", "w": "mark",
	}
}

// sample is an act that oneOfEach allows, with its form and the kind of file that it needs.
type sample struct {
	line, form, kind string
}

// samples are all acts.
func samples() []sample {
	return []sample{
		{"graph new 2 0,1", "NAME N LISTS", ""},
		{"net new 2 0,1,5", "NAME N LISTS", ""},
		{"fork new (..)", "NAME TEXT", ""},
		{"chain new abab", "NAME TEXT", ""},
		{"list new 3 1;2", "NAME LIST LISTS", ""},
		{"pile new 2,1", "NAME LIST", ""},
		{"table new 1,2;3,4", "NAME LISTS", ""},
		{"miles new 0,1;1,0", "NAME LISTS", ""},
		{"line new 2 0,1", "NAME N LISTS", ""},
		{"machine new 0,0", "NAME LISTS", ""},
		{"mark new abc", "NAME TEXT", ""},
		{"dense g", "NAME", "graph"},
		{"height g", "NAME", "graph"},
		{"cores g", "NAME", "graph"},
		{"tree n", "NAME", "net"},
		{"slack n", "NAME", "net"},
		{"trees n", "NAME", "net"},
		{"narrow n 0 3", "NAME U V", "net"},
		{"vector f", "NAME", "fork"},
		{"below f f", "NAME OTHER", "fork"},
		{"turns f f", "NAME OTHER", "fork"},
		{"cuts c", "NAME", "chain"},
		{"ring c", "NAME", "chain"},
		{"zero l", "NAME", "list"},
		{"bound l", "NAME", "list"},
		{"numbers p", "NAME", "pile"},
		{"index p", "NAME", "pile"},
		{"permanent t", "NAME", "table"},
		{"choose t", "NAME", "table"},
		{"best m", "NAME", "miles"},
		{"bounded m 3", "NAME STEPS", "miles"},
		{"metric m", "NAME", "miles"},
		{"time z 0", "NAME FROM", "line"},
		{"centers z", "NAME", "line"},
		{"reset r", "NAME", "machine"},
		{"rank r", "NAME", "machine"},
		{"square w", "NAME", "mark"},
		{"greatest w", "NAME", "mark"},
		{"second p new", "NAME NEW", "pile"},
		{"mirror f new", "NAME NEW", "fork"},
		{"meet f f new", "NAME OTHER NEW", "fork"},
		{"join f f new", "NAME OTHER NEW", "fork"},
		{"spread n new", "NAME NEW", "net"},
		{"ways n new", "NAME NEW", "net"},
		{"shown p new", "NAME NEW", "pile"},
		{"drop g", "NAME", ""},
	}
}

// played is an office in which all lines of a text are acts without an error.
func played(t *testing.T, text string) *office.Office {
	t.Helper()
	o := office.New()
	for _, line := range strings.Split(strings.TrimSuffix(text, "\n"), "\n") {
		if _, err := o.Do(line); err != api.OK {
			t.Fatalf("%.100q: error %d", line, err)
		}
	}
	return o
}

// filled is an office with as many files as it can have: those of oneOfEach, and trees with one fork.
func filled(t *testing.T) *office.Office {
	t.Helper()
	o := played(t, oneOfEach)
	for i := len(o.Names()); i < 32; i++ {
		wantDo(t, o, "fork more"+string(rune('a'+i-11))+" (..)", "made more"+string(rune('a'+i-11)))
	}
	return o
}

// state is all that an office shows.
func state(o *office.Office) string {
	text := fmt.Sprintf("%q %q %q", o.Text(), o.Names(), o.Log())
	for _, name := range o.Names() {
		text += " " + o.Kind(name)
	}
	return text
}

// wantDo fails if an act does not return this result, or does not enter it in the log.
func wantDo(t *testing.T, o *office.Office, line, want string) {
	t.Helper()
	if got, err := o.Do(line); got != want || err != api.OK {
		t.Fatalf("%.100q: %q %d, want %q", line, got, err, want)
	}
	if log := o.Log(); len(log) == 0 || log[len(log)-1] != want {
		t.Fatalf("%.100q: log %q", line, log)
	}
}

// wantError fails if an act does not return this error, or changes anything.
func wantError(t *testing.T, o *office.Office, line string, want api.Errno) {
	t.Helper()
	before := state(o)
	if got, err := o.Do(line); got != "" || err != want {
		t.Fatalf("%.100q: %q %d, want error %d", line, got, err, want)
	}
	if after := state(o); after != before {
		t.Fatalf("%.100q: error %d, but %s became %s", line, want, before, after)
	}
}

// wantText fails if the last file of an office is not made by this line.
func wantText(t *testing.T, o *office.Office, want string) {
	t.Helper()
	if text := o.Text(); text != want+"\n" && !strings.HasSuffix(text, "\n"+want+"\n") {
		t.Fatalf("text %q, want %q at its end", text, want)
	}
}

// written writes numbers as the chapter says, by other means than the program.
func written(numbers []int) string {
	if len(numbers) == 0 {
		return "-"
	}
	return strings.ReplaceAll(strings.Trim(fmt.Sprint(numbers), "[]"), " ", ",")
}

func writtenLists(lists [][]int) string {
	if len(lists) == 0 {
		return "-"
	}
	text := ""
	for i, list := range lists {
		if i > 0 {
			text += ";"
		}
		text += written(list)
	}
	return text
}

// given are the arguments of an act that makes a file, after its name.
func given(line string) []string {
	return strings.Split(line, " ")[2:]
}

func number(text string) int {
	value, err := strconv.Atoi(text)
	if err != nil {
		panic(err)
	}
	return value
}

// listIn reads a list that is written in a correct line.
func listIn(text string) []int {
	var list []int
	if text != "-" {
		for _, part := range strings.Split(text, ",") {
			list = append(list, number(part))
		}
	}
	return list
}

func listsIn(text string) [][]int {
	var lists [][]int
	if text != "-" {
		for _, part := range strings.Split(text, ";") {
			lists = append(lists, listIn(part))
		}
	}
	return lists
}

func randomLists(r *rand.Rand, many, length, below int) [][]int {
	var lists [][]int
	for range many {
		var list []int
		for range length {
			list = append(list, r.IntN(below))
		}
		lists = append(lists, list)
	}
	return lists
}

func randomFork(r *rand.Rand, n int) string {
	if n == 0 {
		return "."
	}
	left := r.IntN(n)
	return "(" + randomFork(r, left) + randomFork(r, n-1-left) + ")"
}

func randomGraph(r *rand.Rand) string {
	n := 1 + r.IntN(16)
	var edges [][]int
	often := 1 + r.IntN(4)
	for b := range n {
		for a := range b {
			if r.IntN(often+1) == 0 {
				edges = append(edges, []int{a, b})
			}
		}
	}
	return fmt.Sprint(n, " ", writtenLists(edges))
}

// randomNet has streets of few weights, often with the same ends, and is often not connected.
func randomNet(r *rand.Rand, most int) string {
	n := 1 + r.IntN(most)
	var streets [][]int
	for range r.IntN(3 * n) {
		if a, b := r.IntN(n), r.IntN(n); a != b {
			streets = append(streets, []int{a, b, r.IntN(20)})
		}
	}
	return fmt.Sprint(n, " ", writtenLists(streets))
}

func randomChain(r *rand.Rand) string {
	chain := []byte{}
	for range 1 + r.IntN(6) {
		letter := 'a' + byte(r.IntN(4))
		chain = append(chain, letter, letter)
	}
	r.Shuffle(len(chain), func(i, j int) { chain[i], chain[j] = chain[j], chain[i] })
	return string(chain)
}

func randomList(r *rand.Rand) string {
	if r.IntN(2) == 0 {
		m := 2 + r.IntN(23)
		return fmt.Sprint(m, " ", writtenLists(randomLists(r, r.IntN(8), 1, m)))
	}
	m := 2 + r.IntN(3)
	return written([]int{m, 2 * m}) + " " + writtenLists(randomLists(r, r.IntN(8), 2, m))
}

func randomPile(r *rand.Rand) string {
	pile := r.Perm(r.IntN(13))
	for i := range pile {
		pile[i]++
	}
	return written(pile)
}

func randomTable(r *rand.Rand) string {
	n := r.IntN(7)
	return writtenLists(randomLists(r, n, n, 1+r.IntN(10)))
}

func randomMiles(r *rand.Rand) string {
	n := 1 + r.IntN(7)
	lists := randomLists(r, n, n, 1+r.IntN(1000))
	for i := range n {
		lists[i][i] = 0
		for j := range i {
			lists[i][j] = lists[j][i]
		}
	}
	return writtenLists(lists)
}

func randomLine(r *rand.Rand) string {
	n := 1 + r.IntN(30)
	houses := r.Perm(n)
	var pairs [][]int
	for i := 1; i < n; i++ {
		pairs = append(pairs, []int{houses[r.IntN(i)], houses[i]})
	}
	return fmt.Sprint(n, " ", writtenLists(pairs))
}

func randomMachine(r *rand.Rand) string {
	n := 1 + r.IntN(9)
	return writtenLists(randomLists(r, 1+r.IntN(4), n, n))
}

func randomMark(r *rand.Rand) string {
	word := make([]byte, 1+r.IntN(40))
	for i := range word {
		word[i] = 'a' + byte(r.IntN(4))
	}
	return string(word)
}

// randomFile is a kind, and what the act that makes such a file is given after the name.
func randomFile(r *rand.Rand) (string, string) {
	kind := []string{"graph", "net", "fork", "chain", "list", "pile", "table", "miles", "line", "machine", "mark"}[r.IntN(11)]
	switch kind {
	case "graph":
		return kind, randomGraph(r)
	case "net":
		return kind, randomNet(r, 16)
	case "fork":
		return kind, randomFork(r, r.IntN(11))
	case "chain":
		return kind, randomChain(r)
	case "list":
		return kind, randomList(r)
	case "pile":
		return kind, randomPile(r)
	case "table":
		return kind, randomTable(r)
	case "miles":
		return kind, randomMiles(r)
	case "line":
		return kind, randomLine(r)
	case "machine":
		return kind, randomMachine(r)
	}
	return kind, randomMark(r)
}

// replaced is a line with another word at a position.
func replaced(line string, at int, word string) string {
	words := slices.Clone(strings.Split(line, " "))
	words[at] = word
	return strings.Join(words, " ")
}
