package posts_test

import (
	"math/rand/v2"
	"slices"
	"testing"

	"lampbox/api"
	"lampbox/posts"
)

// levelByTerms adds each row and each column.
func levelByTerms(table [][]int) (int, bool) {
	var sums []int
	for i := range table {
		row, column := 0, 0
		for j := range table {
			row += table[i][j]
			column += table[j][i]
		}
		sums = append(sums, row, column)
	}
	if len(sums) == 0 {
		return 0, true
	}
	if slices.Min(sums) != slices.Max(sums) {
		return 0, false
	}
	return sums[0], true
}

func wantLevel(t *testing.T, table [][]int, want int, ok bool) {
	t.Helper()
	if level, is, err := posts.Level(table); err != api.OK || level != want || is != ok {
		t.Fatalf("Level(%v) = %d %t %d, want %d %t", table, level, is, err, want, ok)
	}
}

// areLayers holds the terms: at most 100 choices with weights of at least 1, which together are the table.
func areLayers(table [][]int, layers []api.Layer) bool {
	rest := copied(table)
	for _, layer := range layers {
		if layer.Weight < 1 || len(layer.Choice) != len(table) {
			return false
		}
		for row, column := range layer.Choice {
			if column < 0 || column >= len(table) || slices.Contains(layer.Choice[:row], column) || rest[row][column] < layer.Weight {
				return false
			}
			rest[row][column] -= layer.Weight
		}
	}
	for _, numbers := range rest {
		if slices.Max(numbers) > 0 {
			return false
		}
	}
	return len(layers) <= api.MaxLayers
}

// split returns layers of a level table, and fails if they are wrong or too many.
func split(t *testing.T, table [][]int) []api.Layer {
	t.Helper()
	layers, err := posts.Split(table)
	n := len(table)
	most := 1
	if n >= 2 {
		most = n*n - 2*n + 2
	}
	if err != api.OK || len(layers) > most || !areLayers(table, layers) {
		t.Fatalf("Split(%v) = %v %d", table, layers, err)
	}
	wantErr(t, table, posts.CheckSplit(table, layers), api.OK)
	return layers
}

// P7.4.
func TestLevel(t *testing.T) {
	level, _ := levelTables()
	for _, table := range slices.Concat(someTables(), level) {
		want, ok := levelByTerms(table)
		wantLevel(t, table, want, ok)
	}
}

// P7.4: no rows have the level 0; rows alone, or columns alone, are not enough.
func TestKnownLevels(t *testing.T) {
	wantLevel(t, nil, 0, true)
	wantLevel(t, [][]int{}, 0, true)
	wantLevel(t, [][]int{{0}}, 0, true)
	wantLevel(t, [][]int{{7}}, 7, true)
	wantLevel(t, full(10, 9), 90, true)
	wantLevel(t, full(10, 0), 0, true)
	wantLevel(t, [][]int{{1, 0}, {1, 0}}, 0, false)
	wantLevel(t, [][]int{{1, 1}, {0, 0}}, 0, false)
	wantLevel(t, [][]int{{2, 1}, {1, 2}}, 3, true)
	wantLevel(t, [][]int{{2, 1}, {1, 1}}, 0, false)
	wantLevel(t, [][]int{{1, 2, 3}, {2, 3, 1}, {3, 1, 2}}, 6, true)
	wantLevel(t, [][]int{{2, 7, 6}, {9, 5, 1}, {4, 3, 8}}, 15, true)
}

// P7.4: one number more or less, anywhere, and a table is not level any more.
func TestNearlyLevel(t *testing.T) {
	level, layers := levelTables()
	for i, table := range level {
		for row := range table {
			for column := range table {
				for _, number := range []int{table[row][column] - 1, table[row][column] + 1} {
					if number < 0 || number > 9 || len(table) == 1 {
						continue
					}
					other := copied(table)
					other[row][column] = number
					wantLevel(t, other, 0, false)
					if got, err := posts.Split(other); err != api.ErrArg || len(got) != 0 {
						t.Fatalf("Split(%v) = %v %d", other, got, err)
					}
					wantErr(t, other, posts.CheckSplit(other, layers[i]), api.ErrArg)
				}
			}
		}
	}
}

// P7.4, P3.
func TestSplit(t *testing.T) {
	level, layers := levelTables()
	for i, table := range level {
		split(t, table)
		if len(layers[i]) > 0 && !areLayers(table, layers[i]) {
			t.Fatalf("the test's layers of %v are wrong", table)
		}
		wantErr(t, table, posts.CheckSplit(table, layers[i]), api.OK)
	}
}

// P7.4: all level tables among short ones, and the others.
func TestSplitOfShortTables(t *testing.T) {
	for _, table := range slices.Concat(shortTables(), allTables(3, 2)) {
		if _, ok := levelByTerms(table); ok {
			split(t, table)
			continue
		}
		layers, err := posts.Split(table)
		if err != api.ErrArg || len(layers) != 0 {
			t.Fatalf("Split(%v) = %v %d", table, layers, err)
		}
		for _, layers := range [][]api.Layer{nil, {}, {{Weight: 1, Choice: []int{0, 1}}}, {{Weight: 0, Choice: nil}}} {
			wantErr(t, table, posts.CheckSplit(table, layers), api.ErrArg)
		}
	}
}

// P7.4: known numbers of layers.
func TestKnownSplits(t *testing.T) {
	for _, x := range []struct {
		table       [][]int
		least, most int
	}{
		{nil, 0, 1},
		{[][]int{}, 0, 1},
		{[][]int{{0}}, 0, 0},
		{[][]int{{9}}, 1, 1},
		{[][]int{{1, 1}, {1, 1}}, 2, 2},
		{[][]int{{2, 0}, {0, 2}}, 1, 1},
		{[][]int{{9, 4}, {4, 9}}, 2, 2},
		{full(10, 0), 0, 0},
		{diagonal(10, 9), 1, 1},
		{full(3, 9), 3, 5},
		{full(10, 9), 10, 82},
		{full(10, 1), 10, 10},
	} {
		if many := len(split(t, x.table)); many < x.least || many > x.most {
			t.Errorf("Split(%v) has %d layers", x.table, many)
		}
	}
	for _, layer := range split(t, [][]int{{4, 3}, {3, 4}}) {
		want := 4 - layer.Choice[0]
		if layer.Weight != want {
			t.Errorf("the layer %v", layer)
		}
	}
}

// cyclicLayers are the n layers of weight 1 of a table of ones, each so many times.
func cyclicLayers(n, times int) []api.Layer {
	var layers []api.Layer
	for range times {
		for first := range n {
			layer := api.Layer{Weight: 1}
			for row := range n {
				layer.Choice = append(layer.Choice, (row+first)%n)
			}
			layers = append(layers, layer)
		}
	}
	return layers
}

// P7.4: the same choice may come several times, and layers in any order.
func TestCheckSplitOfOtherLayers(t *testing.T) {
	r := rand.New(rand.NewPCG(7, 4))
	for n := 1; n <= 10; n++ {
		for number := 1; number <= 9; number++ {
			layers := cyclicLayers(n, number)
			r.Shuffle(len(layers), func(i, j int) { layers[i], layers[j] = layers[j], layers[i] })
			wantErr(t, n, posts.CheckSplit(full(n, number), layers), api.OK)
			wantErr(t, n, posts.CheckSplit(full(n, number), layers[1:]), api.ErrAnswer)
			wantErr(t, n, posts.CheckSplit(full(n, number), append(layers, layers[0])), api.ErrAnswer)
			wantErr(t, n, posts.CheckSplit(full(n, number-1), layers), api.ErrAnswer)
		}
	}
}

// P7.4: no rows have any layers of the empty choice, at most 100, with positive weights.
func TestCheckSplitOfNoRows(t *testing.T) {
	empty := api.Layer{Weight: 1}
	for _, table := range [][][]int{nil, {}} {
		for _, x := range []struct {
			layers []api.Layer
			want   api.Errno
		}{
			{nil, api.OK},
			{[]api.Layer{}, api.OK},
			{[]api.Layer{empty}, api.OK},
			{[]api.Layer{{Weight: huge, Choice: []int{}}, {Weight: huge}}, api.OK},
			{slices.Repeat([]api.Layer{empty}, 100), api.OK},
			{slices.Repeat([]api.Layer{empty}, 101), api.ErrAnswer},
			{slices.Repeat([]api.Layer{empty}, 1000000), api.ErrAnswer},
			{[]api.Layer{{}}, api.ErrAnswer},
			{[]api.Layer{{Weight: -1}}, api.ErrAnswer},
			{[]api.Layer{{Weight: 1, Choice: []int{0}}}, api.ErrAnswer},
			{[]api.Layer{{Weight: 1, Choice: []int{-1}}}, api.ErrAnswer},
			{append(slices.Repeat([]api.Layer{empty}, 99), api.Layer{}), api.ErrAnswer},
		} {
			wantErr(t, x.layers[:min(len(x.layers), 3)], posts.CheckSplit(table, x.layers), x.want)
		}
	}
}

// copiedLayers shares no choice with the layers.
func copiedLayers(layers []api.Layer) []api.Layer {
	other := slices.Clone(layers)
	for i := range other {
		other[i].Choice = slices.Clone(other[i].Choice)
	}
	return other
}

// P7.4, P3: layers that are nearly right.
func TestCheckSplitOfWrongLayers(t *testing.T) {
	tables, _ := levelTables()
	for _, table := range tables {
		n := len(table)
		layers := split(t, table)
		for i, layer := range layers {
			wantErr(t, table, posts.CheckSplit(table, slices.Delete(copiedLayers(layers), i, i+1)), api.ErrAnswer)
			for _, weight := range []int{0, -1, -layer.Weight, layer.Weight - 1, layer.Weight + 1, 10, layer.Weight + 1<<32, huge, -huge - 1} {
				other := copiedLayers(layers)
				other[i].Weight = weight
				wantErr(t, weight, posts.CheckSplit(table, other), api.ErrAnswer)
			}
			for row, column := range layer.Choice {
				for _, wrong := range []int{-1, n, n + 1, 10, column + 1<<32, column + 16, column + 64, huge, -huge - 1, (column + 1) % n} {
					other := copiedLayers(layers)
					other[i].Choice[row] = wrong
					if wrong != column {
						wantErr(t, other, posts.CheckSplit(table, other), api.ErrAnswer)
					}
				}
			}
			for _, choice := range [][]int{nil, {}, layer.Choice[1:], layer.Choice[:n-1], append(slices.Clone(layer.Choice), 0), append(slices.Clone(layer.Choice), n), make([]int, 1000)} {
				other := copiedLayers(layers)
				other[i].Choice = choice
				wantErr(t, table, posts.CheckSplit(table, other), api.ErrAnswer)
			}
			if n < 2 {
				continue
			}
			other := copiedLayers(layers)
			other[i].Choice[0], other[i].Choice[n-1] = other[i].Choice[n-1], other[i].Choice[0]
			wantErr(t, other, posts.CheckSplit(table, other), api.ErrAnswer)
		}
	}
}

// P7.4: weights that are right only together, or only because their sum wraps around.
func TestCheckSplitOfWrongWeights(t *testing.T) {
	one := func(weights ...int) []api.Layer {
		var layers []api.Layer
		for _, weight := range weights {
			layers = append(layers, api.Layer{Weight: weight, Choice: []int{0}})
		}
		return layers
	}
	for _, x := range []struct {
		number  int
		weights []int
		want    api.Errno
	}{
		{0, nil, api.OK},
		{1, []int{1}, api.OK},
		{9, []int{9}, api.OK},
		{9, []int{4, 5}, api.OK},
		{9, []int{1, 1, 1, 1, 1, 1, 1, 1, 1}, api.OK},
		{0, []int{0}, api.ErrAnswer},
		{1, []int{1, 0}, api.ErrAnswer},
		{1, []int{0, 1}, api.ErrAnswer},
		{1, []int{2, -1}, api.ErrAnswer},
		{1, []int{-1, 2}, api.ErrAnswer},
		{1, nil, api.ErrAnswer},
		{9, []int{8}, api.ErrAnswer},
		{9, []int{9, 9}, api.ErrAnswer},
		{0, []int{1 << 62, 1 << 62, 1 << 62, 1 << 62}, api.ErrAnswer},
		{5, []int{5, 1 << 62, 1 << 62, 1 << 62, 1 << 62}, api.ErrAnswer},
		{5, []int{1 << 62, 1 << 62, 1 << 62, 1 << 62, 5}, api.ErrAnswer},
		{8, []int{huge, huge, 10}, api.ErrAnswer},
	} {
		wantErr(t, x, posts.CheckSplit([][]int{{x.number}}, one(x.weights...)), x.want)
	}
	// The rows and columns have the right sums, but at the wrong places.
	wantErr(t, "swapped", posts.CheckSplit([][]int{{2, 1}, {1, 2}}, []api.Layer{{Weight: 1, Choice: []int{0, 1}}, {Weight: 2, Choice: []int{1, 0}}}), api.ErrAnswer)
	wantErr(t, "level 0", posts.CheckSplit(full(2, 0), []api.Layer{{Weight: 1, Choice: []int{0, 1}}}), api.ErrAnswer)
}
