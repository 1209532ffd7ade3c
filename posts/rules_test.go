package posts_test

import (
	"reflect"
	"slices"
	"testing"

	"lampbox/api"
	"lampbox/posts"
)

// results calls every function of the package, and returns all that they return.
func results(table [][]int, choice, block []int, layers []api.Layer, row, column, k int) ([]any, []api.Errno) {
	r1, e1 := posts.Permanent(table)
	r2, s2, e2 := posts.Choose(table)
	e3 := posts.CheckChoice(table, choice, block)
	r4, s4, t4, e4 := posts.Most(table)
	r5, e5 := posts.Split(table)
	e6 := posts.CheckSplit(table, layers)
	r7, s7, e7 := posts.Level(table)
	r8, e8 := posts.Without(table, row, column)
	r9, e9 := posts.Item(table, k)
	return []any{r1, r2, s2, r4, s4, t4, r5, r7, s7, r8, r9}, []api.Errno{e1, e2, e3, e4, e5, e6, e7, e8, e9}
}

// notTables are lists of lists that are no tables.
func notTables() [][][]int {
	all := [][][]int{
		full(11, 1), full(12, 0), full(64, 1), diagonal(11, 1), make([][]int, 11), make([][]int, 1000000),
		{nil}, {{}}, {{1, 1}}, {{0, 0}}, make([][]int, 2), make([][]int, 10), {make([]int, 1000000)},
		{{1, 0}}, {{1}, {1}}, {{1, 0}, {1}}, {{1}, {1, 0}}, {{1, 0}, nil}, {nil, {1, 0}}, {{1, 0, 0}, {0, 1, 0}},
	}
	for n := 1; n <= 10; n++ {
		for _, table := range [][][]int{full(n, 1), diagonal(n, 9), full(n, 0)} {
			for row := range n {
				shorter, longer, gone := copied(table), copied(table), copied(table)
				shorter[row] = shorter[row][1:]
				longer[row] = append(longer[row], 1)
				gone = slices.Delete(gone, row, row+1)
				more := append(copied(table), make([]int, n))
				all = append(all, shorter, longer, more)
				if n > 1 {
					all = append(all, gone)
				}
				for column := range n {
					for _, number := range []int{-1, 10, 11, 256, 1 << 32, 1<<32 + 1, 1<<8 + 1, -9, huge, -huge, -huge - 1} {
						other := copied(table)
						other[row][column] = number
						all = append(all, other)
					}
				}
			}
		}
	}
	return all
}

// P7.1 to P7.4: what is not a table is an error of every function, whatever the other arguments are.
func TestNotTables(t *testing.T) {
	for i, table := range notTables() {
		for _, list := range [][]int{nil, {0}, {0, 1}, {-1}} {
			layers := []api.Layer{{Weight: 1, Choice: list}}
			if list == nil {
				layers = nil
			}
			for _, k := range []int{0, -1} {
				rs, errs := results(table, list, nil, layers, k, k, k)
				wantZero(t, i, rs, errs)
				rs, errs = results(table, nil, list, layers, k, 0, k)
				wantZero(t, i, rs, errs)
			}
		}
	}
}

// wantZero fails if not all errors are ErrArg, or one comes with a result.
func wantZero(t *testing.T, what any, rs []any, errs []api.Errno) {
	t.Helper()
	for i, err := range errs {
		if err != api.ErrArg {
			t.Fatalf("%v: function %d: error %d", what, i, err)
		}
	}
	for i, r := range rs {
		if v := reflect.ValueOf(r); v.Kind() == reflect.Slice && v.Len() > 0 || v.Kind() != reflect.Slice && !v.IsZero() {
			t.Fatalf("%v: result %d is %v with an error", what, i, r)
		}
	}
}

// The limits themselves are allowed: ten rows, and numbers from 0 to 9.
func TestGreatestTables(t *testing.T) {
	for number := range 10 {
		for n := range 11 {
			_, errs := results(full(n, number), nil, nil, nil, 0, n-1, 0)
			for i, err := range errs {
				mayFail := i == 2 || i == 5 || i == 7 && n == 0 || i == 8 && number == 0
				if err != api.OK && !mayFail {
					t.Errorf("%d rows of %d: function %d: error %d", n, number, i, err)
				}
			}
		}
	}
}

// scratch writes over a result, also in the room behind its end.
func scratch(result any) {
	switch list := result.(type) {
	case []int:
		for i := range list[:cap(list)] {
			list[:cap(list)][i] = -7
		}
	case [][]int:
		for i := range list {
			scratch(list[i])
			list[i] = nil
		}
	case [][2]int:
		for i := range list {
			list[i] = [2]int{-7, -7}
		}
	case []api.Layer:
		for i := range list {
			scratch(list[i].Choice)
			list[i] = api.Layer{Weight: -7}
		}
	}
}

// P2, rule 5: a second call returns the same; arguments stay as they are; results are new memory.
func TestCallsLeaveNothingBehind(t *testing.T) {
	level, layers := levelTables()
	tables := slices.Concat(namedTables(), randomTables(), level)
	for i, table := range tables {
		choice, block := choose(t, table)
		var has []api.Layer
		if j := i - len(tables) + len(level); j >= 0 {
			has = layers[j]
		}
		choiceBefore, blockBefore, hasBefore, tableBefore := slices.Clone(choice), slices.Clone(block), copiedLayers(has), copied(table)
		all := func() []any {
			rs, errs := results(table, choice, block, has, len(table)/2, len(table)/3, i)
			return append(rs, errs)
		}
		first, kept := all(), all()
		if !reflect.DeepEqual(first, kept) {
			t.Fatalf("two calls differ: %v, %v", first, kept)
		}
		for _, r := range first {
			scratch(r)
		}
		if again := all(); !reflect.DeepEqual(again, kept) {
			t.Fatalf("results share memory: %v, %v", again, kept)
		}
		if !slices.Equal(choice, choiceBefore) || !slices.Equal(block, blockBefore) || !reflect.DeepEqual(has, hasBefore) || !reflect.DeepEqual(table, tableBefore) {
			t.Fatalf("an argument of %v has changed", tableBefore)
		}
	}
}

// Rule 5: no two lists of one result share memory, nor does a row of Without with the table.
func TestListsShareNoMemory(t *testing.T) {
	level, _ := levelTables()
	for _, table := range level {
		layers := split(t, table)
		for i := range layers {
			others := slices.Delete(copiedLayers(layers), i, i+1)
			scratch(layers[i].Choice)
			if rest := slices.Delete(slices.Clone(layers), i, i+1); !reflect.DeepEqual(rest, others) {
				t.Fatalf("a choice of Split(%v) shares its memory", table)
			}
			copy(layers[i:i+1], []api.Layer{{}})
		}
	}
	for _, table := range slices.Concat(namedTables(), randomTables()) {
		if len(table) == 0 {
			continue
		}
		before := copied(table)
		rest, _ := posts.Without(table, 0, 0)
		for i := range rest {
			others := slices.Delete(copied(rest), i, i+1)
			scratch(rest[i])
			if left := slices.Delete(slices.Clone(rest), i, i+1); !reflect.DeepEqual(left, others) {
				t.Fatalf("a row of Without(%v) shares its memory", before)
			}
		}
		if !reflect.DeepEqual(table, before) {
			t.Fatalf("Without shares memory with %v", before)
		}
	}
}

// Rule 5: the room behind the end of an argument's lists is left alone.
func TestRoomBehindArguments(t *testing.T) {
	room := []int{1, 1, 91, 92}
	rows := [][]int{room[:2], {1, 1}, {93}, {94}}
	list := []int{0, 1, 95, 96}
	layers := []api.Layer{{Weight: 1, Choice: list[:2]}, {Weight: 1, Choice: []int{1, 0}}, {Weight: 97}}
	for row := range 2 {
		for column := range 2 {
			results(rows[:2], list[:2], nil, layers[:2], row, column, 1)
			results(rows[:2], nil, list[:2], layers[:2], row, column, 0)
		}
	}
	if !slices.Equal(room, []int{1, 1, 91, 92}) || !slices.Equal(list, []int{0, 1, 95, 96}) || layers[2].Weight != 97 || rows[2][0] != 93 || rows[3][0] != 94 {
		t.Errorf("written behind an argument: %v %v %v %v", room, rows, list, layers)
	}
}
