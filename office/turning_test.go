package office_test

import (
	"fmt"
	"math/rand/v2"
	"strings"
	"testing"

	"lampbox/api"
	"lampbox/forks"
	"lampbox/office"
	"lampbox/order"
)

// P12.5: what is made is the last file.
func TestKnownTurnings(t *testing.T) {
	for _, x := range []struct{ files, line, want string }{
		{"pile p 1,3,2", "second p q", "pile q 3,1,2"},
		{"pile p -", "second p q", "pile q -"},
		{"pile p 1", "second p q", "pile q 1"},
		{"fork f ((..).)", "mirror f q", "fork q (.(..))"},
		{"fork f .", "mirror f q", "fork q ."},
		{"fork f ((.(..)).)\nfork g ((..)(..))", "meet f g q", "fork q (((..).).)"},
		{"fork f ((.(..)).)\nfork g ((..)(..))", "join f g q", "fork q (.(.(..)))"},
		{"fork f ((.(..)).)\nfork g (.((..).))", "meet f g q", "fork q ((.(..)).)"},
		{"fork f ((.(..)).)\nfork g (.((..).))", "join f g q", "fork q (.((..).))"},
		{"fork f ((..).)", "meet f f q", "fork q ((..).)"},
		{"fork f .", "join f f q", "fork q ."},
		{"net n 4 3,2,1;1,0,2;0,1,3;2,0,4;3,2,1", "spread n q", "graph q 4 0,1;0,2;2,3"},
		{"net n 16 15,14,1", "spread n q", "graph q 16 14,15"},
		{"net n 1 -", "spread n q", "graph q 1 -"},
		{"net n 3 -", "spread n q", "graph q 3 -"},
		{"net n 3 0,1,5;2,1,7;0,2,9", "ways n q", "miles q 0,5,7;5,0,7;7,7,0"},
		{"net n 2 1,0,1000;0,1,999", "ways n q", "miles q 0,999;999,0"},
		{"net n 1 -", "ways n q", "miles q 0"},
		{"net n 2 1,0,0", "ways n q", "miles q 0,0;0,0"},
		{"pile p 2,3,1", "shown p q", "table q 0,1,0;0,0,1;1,0,0"},
		{"pile p 1", "shown p q", "table q 1"},
		{"pile p -", "shown p q", "table q -"},
	} {
		o := played(t, x.files)
		wantDo(t, o, x.line, "made q")
		if o.Text() != x.files+"\n"+x.want+"\n" {
			t.Errorf("%s: text %q, want %q at its end", x.line, o.Text(), x.want)
		}
		if kind, _, _ := strings.Cut(x.want, " "); o.Kind("q") != kind {
			t.Errorf("%s: kind %q", x.line, o.Kind("q"))
		}
	}
}

// P12.5: files of every kind are removed, and nothing else.
func TestDrop(t *testing.T) {
	lines := strings.SplitAfter(oneOfEach, "\n")
	for i := range 11 {
		o := played(t, oneOfEach)
		name := strings.Split(lines[i], " ")[1]
		wantDo(t, o, "drop "+name, "dropped "+name)
		if want := strings.Replace(oneOfEach, lines[i], "", 1); o.Text() != want || o.Kind(name) != "" || len(o.Names()) != 10 {
			t.Errorf("drop %s: %s", name, state(o))
		}
		wantError(t, o, "drop "+name, api.ErrNone)
		wantError(t, o, "second "+name+" new", api.ErrNone)
		wantDo(t, o, strings.TrimSuffix(lines[i], "\n"), "made "+name)
		wantText(t, o, strings.TrimSuffix(lines[i], "\n"))
	}
	o := office.New()
	wantError(t, o, "drop a", api.ErrNone)
}

// path is a net of n vertices one after the other.
func path(n int) string {
	var streets [][]int
	for i := range n - 1 {
		streets = append(streets, []int{i, i + 1, 1})
	}
	return fmt.Sprint(n, " ", writtenLists(streets))
}

// P12.5: the errors of the functions, and what is too great for its layer.
func TestTurningsWithErrors(t *testing.T) {
	o := played(t, "fork one (..)\nfork two (.(..))\nnet apart 3 0,1,5\nnet far 12 "+strings.TrimPrefix(path(11), "11 ")+"\nnet long 12 "+strings.TrimPrefix(path(12), "12 "))
	// The greatest ones that are not too great.
	played(t, "net n 11 "+strings.TrimPrefix(path(11), "11 ")+"\nways n q\npile p 10,9,8,7,6,5,4,3,2,1\nshown p t\nnet m 16 "+strings.TrimPrefix(path(16), "16 ")+"\nspread m g")
	wantError(t, o, "meet one two new", api.ErrArg)
	wantError(t, o, "join two one new", api.ErrArg)
	wantError(t, o, "ways apart new", api.ErrNone)
	wantError(t, o, "ways far new", api.ErrNone)
	wantError(t, o, "ways long new", api.ErrArg)
	wantDo(t, o, "pile eleven 11,10,9,8,7,6,5,4,3,2,1", "made eleven")
	wantError(t, o, "shown eleven new", api.ErrArg)
	wantDo(t, o, "pile twelve 12,11,10,9,8,7,6,5,4,3,2,1", "made twelve")
	wantError(t, o, "shown twelve new", api.ErrArg)
	wantDo(t, o, "second twelve new", "made new")
}

// P12.5: that NEW is a file, then that there is no place, come before the errors of the functions and of what would be made.
func TestOrderOfErrorsOfTurnings(t *testing.T) {
	text := "fork one (..)\nfork two (.(..))\nnet apart 3 0,1,5\nnet long 12 " + strings.TrimPrefix(path(12), "12 ") + "\npile eleven 11,10,9,8,7,6,5,4,3,2,1\nnet n 2 0,1,1\n"
	turnings := []string{
		"meet one two X", "join one two X", "ways apart X", "ways long X", "shown eleven X",
		"second eleven X", "mirror one X", "meet one one X", "join two two X", "spread n X", "spread long X", "ways n X",
	}
	o := played(t, text)
	for _, line := range turnings {
		for _, name := range o.Names() {
			wantError(t, o, strings.Replace(line, "X", name, 1), api.ErrArg)
		}
	}
	wantError(t, o, "ways apart new", api.ErrNone)
	wantError(t, o, "ways apart one", api.ErrArg)
	for i := range 26 {
		wantDo(t, o, "pile more"+string(rune('a'+i))+" 1", "made more"+string(rune('a'+i)))
	}
	for _, line := range turnings {
		for _, name := range o.Names() {
			wantError(t, o, strings.Replace(line, "X", name, 1), api.ErrArg)
		}
		wantError(t, o, strings.Replace(line, "X", "new", 1), api.ErrFull)
	}
	wantError(t, o, "second nobody one", api.ErrNone)
	wantError(t, o, "second one new", api.ErrArg)
	wantError(t, o, "meet one moreb new", api.ErrArg)
}

// joinedBy are the edges of streets, in lexicographic order.
func joinedBy(net string) string {
	var edges [][]int
	lists := listsIn(strings.Split(net, " ")[1])
	for a := range 16 {
		for b := a + 1; b < 16; b++ {
			for _, l := range lists {
				if l[0] == a && l[1] == b || l[0] == b && l[1] == a {
					edges = append(edges, []int{a, b})
					break
				}
			}
		}
	}
	return strings.Split(net, " ")[0] + " " + writtenLists(edges)
}

// narrowest are the smallest greatest weights between all vertices, by going through one vertex after the other.
func narrowest(net string) ([][]int, bool) {
	const far = 1000000
	n := number(strings.Split(net, " ")[0])
	var least [][]int
	for u := range n {
		least = append(least, make([]int, n))
		for v := range n {
			least[u][v] = far
		}
		least[u][u] = 0
	}
	for _, l := range listsIn(strings.Split(net, " ")[1]) {
		least[l[0]][l[1]] = min(least[l[0]][l[1]], l[2])
		least[l[1]][l[0]] = least[l[0]][l[1]]
	}
	connected := true
	for w := range n {
		for u := range n {
			for v := range n {
				least[u][v] = min(least[u][v], max(least[u][w], least[w][v]))
			}
		}
	}
	for v := range n {
		connected = connected && least[0][v] < far
	}
	return least, connected
}

// P12.5, P6.
func TestTurningsOfRandomNets(t *testing.T) {
	r := rand.New(rand.NewPCG(12, 3))
	made := 0
	for range 600 {
		net := randomNet(r, 13)
		o := played(t, "net n "+net)
		wantDo(t, o, "spread n g", "made g")
		wantText(t, o, "graph g "+joinedBy(net))
		least, connected := narrowest(net)
		switch {
		case !connected:
			wantError(t, o, "ways n m", api.ErrNone)
		case len(least) > 11:
			wantError(t, o, "ways n m", api.ErrArg)
		default:
			wantDo(t, o, "ways n m", "made m")
			wantText(t, o, "miles m "+writtenLists(least))
			made++
		}
	}
	if made < 100 {
		t.Errorf("only %d miles", made)
	}
}

// P12.5, P6.
func TestTurningsOfRandomPilesAndForks(t *testing.T) {
	r := rand.New(rand.NewPCG(12, 4))
	for range 300 {
		pile := randomPile(r)
		n := r.IntN(11)
		a, b := randomFork(r, n), randomFork(r, n)
		o := played(t, "pile p "+pile+"\nfork a "+a+"\nfork b "+b)
		second, _ := order.Second(listIn(pile))
		mirrored, _ := forks.Mirror(a)
		met, _ := forks.Meet(a, b)
		joined, _ := forks.Join(a, b)
		for _, x := range [][2]string{
			{"second p q", "pile q " + written(second)}, {"mirror a q", "fork q " + mirrored}, {"meet a b q", "fork q " + met}, {"join a b q", "fork q " + joined},
		} {
			wantDo(t, o, x[0], "made q")
			wantText(t, o, x[1])
			wantDo(t, o, "drop q", "dropped q")
		}
	}
}
