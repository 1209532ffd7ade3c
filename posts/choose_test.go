package posts_test

import (
	"math/rand/v2"
	"slices"
	"testing"

	"lampbox/api"
	"lampbox/posts"
)

// firstChoice is the lexicographically smallest possible choice, found row by row.
func firstChoice(table [][]int) ([]int, bool) {
	if choicesOf(table) == 0 {
		return nil, false
	}
	var choice []int
	free := make([]int, len(table))
	for column := range free {
		free[column] = column
	}
	for len(table) > 0 {
		at := 0
		for table[0][at] == 0 || choicesOf(minor(table, 0, at)) == 0 {
			at++
		}
		choice = append(choice, free[at])
		free = slices.Delete(free, at, at+1)
		table = minor(table, 0, at)
	}
	return choice, true
}

// P7.2, P3: the first possible choice, or a block; CheckChoice takes what Choose returns.
func TestChoose(t *testing.T) {
	for _, table := range someTables() {
		choice, block := choose(t, table)
		want, ok := firstChoice(table)
		if !slices.Equal(choice, want) || ok == (len(block) > 0) {
			t.Fatalf("Choose(%v) = %v %v, want %v", table, choice, block, want)
		}
		wantErr(t, table, posts.CheckChoice(table, choice, block), api.OK)
	}
}

// P7.2: the chapter's example, no rows, and tables with just one block.
func TestKnownChoices(t *testing.T) {
	for _, x := range []struct {
		table         [][]int
		choice, block []int
	}{
		{nil, nil, nil},
		{[][]int{}, nil, nil},
		{[][]int{{4}}, []int{0}, nil},
		{[][]int{{0}}, nil, []int{0}},
		{[][]int{{1, 0}, {1, 0}}, nil, []int{0, 1}},
		{[][]int{{1, 1}, {1, 0}}, []int{1, 0}, nil},
		{[][]int{{1, 1}, {0, 0}}, nil, []int{1}},
		{[][]int{{0, 0}, {1, 1}}, nil, []int{0}},
		{[][]int{{1, 1, 1}, {0, 2, 0}, {0, 3, 0}}, nil, []int{1, 2}},
		{[][]int{{0, 2, 0}, {1, 1, 1}, {0, 3, 0}}, nil, []int{0, 2}},
		{[][]int{{1, 1, 0}, {1, 1, 0}, {1, 1, 0}}, nil, []int{0, 1, 2}},
		{full(10, 9), []int{0, 1, 2, 3, 4, 5, 6, 7, 8, 9}, nil},
		{transposed(cycle(10)), []int{0, 1, 2, 3, 4, 5, 6, 7, 8, 9}, nil},
		{derangements(10), []int{1, 0, 3, 2, 5, 4, 7, 6, 9, 8}, nil},
		{derangements(3), []int{1, 2, 0}, nil},
	} {
		choice, block := choose(t, x.table)
		if !slices.Equal(choice, x.choice) || !slices.Equal(block, x.block) {
			t.Errorf("Choose(%v) = %v %v, want %v %v", x.table, choice, block, x.choice, x.block)
		}
	}
}

// wantChecked compares CheckChoice with the terms.
func wantChecked(t *testing.T, table [][]int, choice, block []int) {
	t.Helper()
	want := api.ErrAnswer
	if len(block) == 0 && isPossible(table, choice) || len(table) > 0 && len(choice) == 0 && isBlock(table, block) {
		want = api.OK
	}
	if got := posts.CheckChoice(table, choice, block); got != want {
		t.Fatalf("CheckChoice(%v, %v, %v) = %d, want %d", table, choice, block, got, want)
	}
}

// lists are all lists of at most so many numbers from -1 to n.
func lists(n, most int) [][]int {
	all := [][]int{nil}
	begun := [][]int{{}}
	for range most {
		var longer [][]int
		for _, list := range begun {
			for number := -1; number <= n; number++ {
				longer = append(longer, slices.Concat(list, []int{number}))
			}
		}
		all = append(all, longer...)
		begun = longer
	}
	return all
}

// P7.2, P3: all short lists as choices and as blocks.
func TestCheckChoiceOfShortLists(t *testing.T) {
	for n := range 3 {
		short := lists(n, n+1)
		for _, table := range allTables(n, 1) {
			for _, choice := range short {
				for _, block := range short {
					wantChecked(t, table, choice, block)
				}
			}
		}
	}
	short := lists(3, 3)
	for _, table := range allTables(3, 1) {
		for _, list := range short {
			wantChecked(t, table, list, nil)
			wantChecked(t, table, nil, list)
			wantChecked(t, table, list, []int{})
			wantChecked(t, table, []int{}, list)
			wantChecked(t, table, list, list)
		}
	}
}

// P7.2: choices and blocks of greater tables, and ones that are nearly right.
func TestCheckChoiceOfRandomLists(t *testing.T) {
	r := rand.New(rand.NewPCG(7, 3))
	for _, table := range slices.Concat(namedTables(), randomTables()) {
		n := len(table)
		for range 30 {
			wantChecked(t, table, r.Perm(n), nil)
			block := r.Perm(n)[:r.IntN(n+1)]
			wantChecked(t, table, nil, block)
			slices.Sort(block)
			wantChecked(t, table, nil, block)
		}
		choice, block := choose(t, table)
		for _, list := range nearly(choice, n) {
			wantChecked(t, table, list, nil)
			wantChecked(t, table, choice, list)
		}
		for _, list := range nearly(block, n) {
			wantChecked(t, table, nil, list)
			wantChecked(t, table, list, block)
		}
	}
}

// nearly changes a list at each place.
func nearly(list []int, n int) [][]int {
	all := [][]int{slices.Concat(list, list), append(slices.Clone(list), n), append(slices.Clone(list), 0), make([]int, 1000)}
	for i := range list {
		all = append(all, slices.Delete(slices.Clone(list), i, i+1), slices.Insert(slices.Clone(list), i, list[i]))
		for _, number := range []int{-1, 0, n - 1, n, n + 1, 10, 16, 64, 1 << 32, list[i] + 1<<32, list[i] + 16, list[i] + 64, huge, -huge - 1} {
			other := slices.Clone(list)
			other[i] = number
			all = append(all, other)
		}
		for j := range i {
			other := slices.Clone(list)
			other[i], other[j] = other[j], other[i]
			all = append(all, other)
		}
	}
	return all
}

// P7.2: every ascending list of rows is a block exactly if it has too few columns.
func TestAllBlocks(t *testing.T) {
	for _, table := range slices.Concat(namedTables(), randomTables()) {
		n := len(table)
		if n > 7 {
			continue
		}
		for some := range 1 << n {
			var block []int
			for row := range n {
				if some>>row&1 == 1 {
					block = append(block, row)
				}
			}
			wantChecked(t, table, nil, block)
		}
	}
}

// P7.2: no rows have the empty choice, and no block.
func TestCheckChoiceOfNoRows(t *testing.T) {
	for _, table := range [][][]int{nil, {}} {
		for _, empty := range [][]int{nil, {}} {
			wantErr(t, "nothing", posts.CheckChoice(table, empty, empty), api.OK)
			for _, list := range [][]int{{0}, {-1}, {1}, {0, 1}, make([]int, 1000)} {
				wantErr(t, list, posts.CheckChoice(table, list, empty), api.ErrAnswer)
				wantErr(t, list, posts.CheckChoice(table, empty, list), api.ErrAnswer)
				wantErr(t, list, posts.CheckChoice(table, list, list), api.ErrAnswer)
			}
		}
	}
}

// P1: lists of any length are no choices, blocks or layers of ten rows.
func TestCheckLongLists(t *testing.T) {
	table := full(10, 1)
	for _, list := range [][]int{make([]int, 10000000), slices.Repeat([]int{0, 1, 2, 3, 4, 5, 6, 7, 8, 9}, 1000000)} {
		wantErr(t, "long", posts.CheckChoice(table, list, nil), api.ErrAnswer)
		wantErr(t, "long", posts.CheckChoice(table, nil, list), api.ErrAnswer)
		wantErr(t, "long", posts.CheckChoice(table, list, list), api.ErrAnswer)
		wantErr(t, "long", posts.CheckSplit(table, []api.Layer{{Weight: 1, Choice: list}}), api.ErrAnswer)
	}
	wantErr(t, "long", posts.CheckSplit(table, make([]api.Layer, 1000000)), api.ErrAnswer)
}
