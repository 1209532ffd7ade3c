package office_test

import (
	"fmt"
	"math/rand/v2"
	"strings"
	"testing"

	"lampbox/api"
	"lampbox/bags"
	"lampbox/clock"
	"lampbox/forks"
	"lampbox/marks"
	"lampbox/office"
	"lampbox/order"
	"lampbox/posts"
	"lampbox/relay"
	"lampbox/round"
	"lampbox/seals"
	"lampbox/streets"
	"lampbox/sums"
)

// P12.2 to P12.5: the examples of the chapter.
func TestExamples(t *testing.T) {
	o := office.New()
	wantDo(t, o, "pile p 1,3,2", "made p")
	wantDo(t, o, "numbers p", "numbers 1 2 1 1 2 2")
	wantDo(t, o, "second p q", "made q")
	wantDo(t, o, "index q", "index 4")
	wantDo(t, o, "graph g 4 0,1;0,2;1,2;2,3", "made g")
	wantDo(t, o, "dense g", "dense 0,1,2,3 1/1")
	wantDo(t, o, "chain c aabb", "made c")
	wantDo(t, o, "cuts c", "cuts 1,3")
	wantError(t, o, "words", api.ErrSyntax)
}

// answered is a file, a question, and what is said.
type answered struct {
	file, question, want string
}

// wantAnswers asks for each file, under the name x.
func wantAnswers(t *testing.T, all []answered) {
	t.Helper()
	for _, a := range all {
		o := played(t, named("x", a.file))
		before := o.Text()
		wantDo(t, o, a.question, a.want)
		if o.Text() != before {
			t.Errorf("%s: %s has changed %s", a.question, a.file, o.Text())
		}
	}
}

// P12.4: answers of the layers 1 to 5 that are known, empty ones among them.
func TestKnownAnswersOfLowerLayers(t *testing.T) {
	wantAnswers(t, []answered{
		{"graph 4 0,1;0,2;0,3;1,2;1,3;2,3", "dense x", "dense 0,1,2,3 3/2"},
		{"graph 5 0,1;0,2;0,3;1,2;1,3;2,3", "dense x", "dense 0,1,2,3 3/2"},
		{"graph 2 -", "dense x", "dense 0,1 0/1"},
		{"graph 4 0,1;0,2;0,3;1,2;1,3;2,3", "height x", "height 2"},
		{"graph 2 -", "height x", "height 0"},
		{"graph 4 0,1;0,2;1,2;2,3", "cores x", "cores 2,2,2,1"},
		{"graph 1 -", "cores x", "cores 0"},
		{"net 4 0,1,1;1,2,2;2,3,3;3,0,4", "tree x", "tree 0,1,2 6"},
		{"net 4 0,1,4;1,2,3;2,3,2;3,0,1", "tree x", "tree 1,2,3 6"},
		{"net 1 -", "tree x", "tree - 0"},
		{"net 4 0,1,1;1,2,2;2,3,3;3,0,4", "slack x", "slack 3,2,1,1"},
		{"net 2 1,0,7", "slack x", "slack -1"},
		{"net 1 -", "slack x", "slack -"},
		{"net 3 0,1,5;1,2,5;2,0,5", "trees x", "trees 3"},
		{"net 3 0,1,5", "trees x", "trees 0"},
		{"net 4 0,1,1;1,2,2;2,3,3;3,0,4", "narrow x 0 3", "narrow 3"},
		{"net 4 0,1,1", "narrow x 2 2", "narrow 0"},
		{"net 2 0,1,1000", "narrow x 1 0", "narrow 1000"},
		{"fork (.(..))", "vector x", "vector 1,0"},
		{"fork .", "vector x", "vector -"},
		{"fork .", "below x x", "below 1"},
		{"fork .", "turns x x", "turns 0"},
		{"chain abab", "cuts x", "cuts 2"},
		{"chain aa", "cuts x", "cuts 1"},
		{"chain aabb", "ring x", "ring 1,3"},
		{"chain aa", "ring x", "ring 0,1"},
		{"list 3 1;1;1", "zero x", "zero 0,1,2"},
		{"list 2,2 1,1;0,0", "zero x", "zero 1"},
		{"list 3 -", "bound x", "bound 3"},
		{"list 2,2 -", "bound x", "bound 3"},
		{"list 6,12 1,1", "bound x", "bound 17"},
	})
}

// P12.4: the same of the layers 6 to 11.
func TestKnownAnswersOfUpperLayers(t *testing.T) {
	wantAnswers(t, []answered{
		{"pile 3,1,2", "numbers x", "numbers 2 1 1 1 1 1"},
		{"pile -", "numbers x", "numbers 0 0 0 0 0 0"},
		{"pile 1", "numbers x", "numbers 0 0 0 0 1 1"},
		{"pile -", "index x", "index 0"},
		{"pile 12,11,10,9,8,7,6,5,4,3,2,1", "index x", "index 479001599"},
		{"table 1,2;3,4", "permanent x", "permanent 10"},
		{"table -", "permanent x", "permanent 1"},
		{"table 1,0;1,0", "permanent x", "permanent 0"},
		{"table " + ones(ones("9", ",", 10), ";", 10), "permanent x", "permanent " + fmt.Sprint(3628800*3486784401)},
		{"table 1,1;1,1", "choose x", "choose 1 0,1"},
		{"table 0,1;1,1", "choose x", "choose 1 1,0"},
		{"table 1,0;1,0", "choose x", "choose 0 0,1"},
		{"table 0", "choose x", "choose 0 0"},
		{"table -", "choose x", "choose 1 -"},
		{"miles 0,1,2,1;1,0,1,2;2,1,0,1;1,2,1,0", "best x", "best 0,1,2,3 4"},
		{"miles 0,1,5;1,0,1;5,1,0", "best x", "best 0,1,2 7"},
		{"miles 0", "best x", "best 0 0"},
		{"miles 0,1,2,1;1,0,1,2;2,1,0,1;1,2,1,0", "bounded x 0", "bounded 4"},
		{"miles 0,5;5,0", "bounded x 100", "bounded 10"},
		{"miles 0,1,5;1,0,1;5,1,0", "metric x", "metric 0"},
		{"miles 0,1,2;1,0,1;2,1,0", "metric x", "metric 1"},
		{"line 4 0,1;0,2;0,3", "time x 0", "time 3"},
		{"line 4 0,1;1,2;2,3", "time x 1", "time 2"},
		{"line 4 0,1;1,2;2,3", "time x 0", "time 3"},
		{"line 1 -", "time x 0", "time 0"},
		{"line 4 0,1;1,2;2,3", "centers x", "centers 1,2 2"},
		{"line 4 0,1;0,2;0,3", "centers x", "centers 0,1,2,3 3"},
		{"line 1 -", "centers x", "centers 0 0"},
		{"machine 1,2,0;0,1,0", "reset x", "reset baab 0"},
		{"machine 1,1;0,0", "reset x", "reset a 1"},
		{"machine 0", "reset x", "reset - 0"},
		{"machine 1,0", "rank x", "rank 2"},
		{"machine 1,2,0;0,1,0", "rank x", "rank 1"},
		{"mark abcbc", "square x", "square 1 2"},
		{"mark dd", "square x", "square 0 1"},
		{"mark abaab", "greatest x", "greatest 2/1"},
		{"mark abcab", "greatest x", "greatest 5/3"},
		{"mark a", "greatest x", "greatest 1/1"},
	})
}

// P12.4: questions with two trees.
func TestAnswersAboutTwoTrees(t *testing.T) {
	o := played(t, "fork left (((..).).)\nfork right (.(.(..)))\nfork one (.((..).))\nfork other ((..)(..))")
	wantDo(t, o, "below left right", "below 1")
	wantDo(t, o, "below right left", "below 0")
	wantDo(t, o, "below one other", "below 0")
	wantDo(t, o, "below other right", "below 1")
	wantDo(t, o, "below left left", "below 1")
	wantDo(t, o, "turns left right", "turns 2")
	wantDo(t, o, "turns right left", "turns 2")
	wantDo(t, o, "turns left left", "turns 0")
	wantDo(t, o, "turns one right", "turns 1")
}

// P12.4: the errors of the functions.
func TestQuestionsWithoutAnswer(t *testing.T) {
	apart, one, two := "net 3 0,1,5", "fork (..)", "fork (.(..))"
	long := "fork " + strings.Repeat("(", 8) + "." + strings.Repeat(".)", 8)
	for _, x := range []struct {
		x, y, question string
		want           api.Errno
	}{
		{apart, one, "tree x", api.ErrNone},
		{apart, one, "slack x", api.ErrNone},
		{apart, one, "narrow x 0 2", api.ErrNone},
		{apart, one, "narrow x 0 3", api.ErrArg},
		{apart, one, "narrow x -1 2", api.ErrArg},
		{apart, one, "narrow x 3 3", api.ErrArg},
		{two, one, "below x y", api.ErrArg},
		{two, one, "below y x", api.ErrArg},
		{two, one, "turns x y", api.ErrArg},
		{long, one, "turns x y", api.ErrArg},
		{long, one, "turns x x", api.ErrFull},
		{"list 3 1;1", one, "zero x", api.ErrNone},
		{"list 3 -", one, "zero x", api.ErrNone},
		{"miles 0,1;1,0", one, "bounded x -1", api.ErrArg},
		{"miles 0,1;1,0", one, "bounded x 101", api.ErrArg},
		{"line 2 0,1", one, "time x 2", api.ErrArg},
		{"line 2 0,1", one, "time x -1", api.ErrArg},
		{"machine 1,0", one, "reset x", api.ErrNone},
		{"mark abc", one, "square x", api.ErrNone},
	} {
		o := played(t, named("x", x.x)+"\n"+named("y", x.y))
		wantError(t, o, x.question, x.want)
		if said := o.Say(x.question); said != fmt.Sprintf("error %d\n", x.want) {
			t.Errorf("Say(%q) = %q", x.question, said)
		}
	}
}

// expected is what a question says, or the error that it has, by the functions of the layers.
func expected(err api.Errno, word string, parts ...any) (string, api.Errno) {
	if err != api.OK {
		return "", err
	}
	text := word
	for _, part := range parts {
		switch x := part.(type) {
		case []int:
			text += " " + written(x)
		case api.Frac:
			text += fmt.Sprintf(" %d/%d", x.Num, x.Den)
		case bool:
			text += map[bool]string{true: " 1", false: " 0"}[x]
		case string:
			text += " " + map[bool]string{true: "-", false: x}[x == ""]
		default:
			text += fmt.Sprint(" ", x)
		}
	}
	return text, api.OK
}

func edgesIn(text string) []api.Edge {
	var edges []api.Edge
	for _, l := range listsIn(text) {
		edges = append(edges, api.Edge{A: l[0], B: l[1]})
	}
	return edges
}

func streetsIn(text string) []api.Street {
	var all []api.Street
	for _, l := range listsIn(text) {
		all = append(all, api.Street{A: l[0], B: l[1], Weight: l[2]})
	}
	return all
}

func pairsIn(text string) [][2]int {
	var pairs [][2]int
	for _, l := range listsIn(text) {
		pairs = append(pairs, [2]int{l[0], l[1]})
	}
	return pairs
}

// byLayers is what a question says of a file, twice if it needs two, and of further numbers.
func byLayers(word string, file []string, u, v int) (string, api.Errno) {
	text := file[len(file)-1]
	switch word {
	case "dense":
		set, density, _, err := bags.Densest(number(file[0]), edgesIn(text))
		return expected(err, word, set, density)
	case "height":
		heads, _, _ := bags.Orient(number(file[0]), edgesIn(text))
		height, err := bags.Height(number(file[0]), edgesIn(text), heads)
		return expected(err, word, height)
	case "cores":
		cores, err := bags.Cores(number(file[0]), edgesIn(text))
		return expected(err, word, cores)
	case "tree":
		tree, weight, err := streets.Tree(number(file[0]), streetsIn(text))
		return expected(err, word, tree, weight)
	case "slack":
		slack, err := streets.Slack(number(file[0]), streetsIn(text))
		return expected(err, word, slack)
	case "trees":
		many, err := streets.Count(number(file[0]), streetsIn(text))
		return expected(err, word, many)
	case "narrow":
		narrow, err := streets.Narrow(number(file[0]), streetsIn(text), u, v)
		return expected(err, word, narrow)
	case "vector":
		vector, err := forks.Vector(text)
		return expected(err, word, vector)
	case "below":
		below, err := forks.Below(text, text)
		return expected(err, word, below)
	case "turns":
		way, err := forks.Way(text, text)
		return expected(err, word, len(way)-1)
	case "cuts":
		cuts, err := seals.Least(text)
		return expected(err, word, cuts)
	case "ring":
		cuts, err := seals.Ring(text)
		return expected(err, word, cuts)
	case "zero":
		part, err := sums.Zero(listIn(file[0]), listsIn(text))
		return expected(err, word, part)
	case "bound":
		bound, err := sums.Bound(listIn(file[0]))
		return expected(err, word, bound)
	}
	return byUpperLayers(word, file, u)
}

func byUpperLayers(word string, file []string, u int) (string, api.Errno) {
	text := file[len(file)-1]
	switch word {
	case "numbers":
		n, err := order.Numbers(listIn(text))
		return expected(err, word, n.Inv, n.Maj, n.Des, n.Exc, n.Cycles, n.Records)
	case "index":
		index, err := order.Index(listIn(text))
		return expected(err, word, index)
	case "permanent":
		permanent, err := posts.Permanent(listsIn(text))
		return expected(err, word, permanent)
	case "choose":
		choice, block, err := posts.Choose(listsIn(text))
		if len(block) > 0 {
			return expected(err, word, 0, block)
		}
		return expected(err, word, 1, choice)
	case "best":
		tour, length, err := round.Best(listsIn(text))
		return expected(err, word, tour, length)
	case "bounded":
		_, bound, err := round.Climb(listsIn(text), u)
		return expected(err, word, bound)
	case "metric":
		_, metric, err := round.Metric(listsIn(text))
		return expected(err, word, metric)
	case "time":
		time, err := relay.Time(number(file[0]), pairsIn(text), u)
		return expected(err, word, time)
	case "centers":
		centers, time, err := relay.Centers(number(file[0]), pairsIn(text))
		return expected(err, word, centers, time)
	case "reset":
		reset, state, err := clock.Reset(listsIn(text))
		return expected(err, word, reset, state)
	case "rank":
		rank, _, err := clock.Rank(listsIn(text))
		return expected(err, word, rank)
	case "square":
		position, period, err := marks.Square(text)
		return expected(err, word, position, period)
	case "greatest":
		exponent, _, _, err := marks.Greatest(text)
		return expected(err, word, exponent)
	}
	panic(word)
}

// P12.4, P6: questions return what the layers do, for files of all kinds, and change no file.
func TestQuestionsAskTheLayers(t *testing.T) {
	r := rand.New(rand.NewPCG(12, 1))
	asked := map[string]int{}
	for range 1200 {
		kind, rest := randomFile(r)
		line := kind + " x " + rest
		o := played(t, line)
		for _, s := range samples() {
			if s.kind != kind || strings.HasSuffix(s.form, "NEW") {
				continue
			}
			word := strings.Split(s.line, " ")[0]
			question, u, v := word+" x", r.IntN(12)-1, r.IntN(12)-1
			switch s.form {
			case "NAME OTHER":
				question += " x"
			case "NAME U V":
				question += fmt.Sprint(" ", u, " ", v)
			case "NAME STEPS", "NAME FROM":
				question += fmt.Sprint(" ", u)
			}
			want, err := byLayers(word, given(line), u, v)
			if err != api.OK {
				wantError(t, o, question, err)
			} else {
				wantDo(t, o, question, want)
				asked[word]++
			}
		}
		if o.Text() != line+"\n" {
			t.Fatalf("%s became %s", line, o.Text())
		}
	}
	if len(asked) != 27 {
		t.Errorf("answers to %d questions: %v", len(asked), asked)
	}
	for word, many := range asked {
		if many < 20 {
			t.Errorf("%d answers to %s", many, word)
		}
	}
}

// P12.4, P6: both trees, in their order.
func TestQuestionsAboutRandomTrees(t *testing.T) {
	r := rand.New(rand.NewPCG(12, 2))
	for range 300 {
		n := r.IntN(6)
		a, b := randomFork(r, n), randomFork(r, n+r.IntN(8)/7)
		o := played(t, "fork a "+a+"\nfork b "+b)
		below, err := forks.Below(a, b)
		want, err := expected(err, "below", below)
		wantResult(t, o, "below a b", want, err)
		way, err := forks.Way(a, b)
		want, err = expected(err, "turns", len(way)-1)
		wantResult(t, o, "turns a b", want, err)
	}
}

// wantResult fails if an act does not return this result, or this error.
func wantResult(t *testing.T, o *office.Office, line, want string, err api.Errno) {
	t.Helper()
	if err != api.OK {
		wantError(t, o, line, err)
		return
	}
	wantDo(t, o, line, want)
}
