package office_test

import (
	"slices"
	"strconv"
	"testing"

	"lampbox/api"
	"lampbox/office"
)

// P12.1.
func TestNew(t *testing.T) {
	o := office.New()
	if o == nil || len(o.Names()) > 0 || len(o.Log()) > 0 || o.Text() != "" || o.Kind("a") != "" || o.Kind("") != "" {
		t.Fatalf("a new office is not empty: %s", state(o))
	}
	played(t, oneOfEach)
	if other := office.New(); other == o || state(other) != state(o) {
		t.Fatalf("a second new office is not empty: %s", state(other))
	}
}

// P12.1.
func TestNames(t *testing.T) {
	o := played(t, oneOfEach)
	want := []string{"g", "n", "f", "c", "l", "p", "t", "m", "z", "r", "w"}
	if !slices.Equal(o.Names(), want) {
		t.Fatalf("Names = %q, want %q", o.Names(), want)
	}
	wantDo(t, o, "second p a", "made a")
	wantDo(t, o, "drop n", "dropped n")
	wantDo(t, o, "drop g", "dropped g")
	wantDo(t, o, "drop w", "dropped w")
	wantDo(t, o, "mark g a", "made g")
	want = []string{"f", "c", "l", "p", "t", "m", "z", "r", "a", "g"}
	if !slices.Equal(o.Names(), want) {
		t.Fatalf("Names = %q, want %q", o.Names(), want)
	}
}

// P12.1.
func TestKind(t *testing.T) {
	o := played(t, oneOfEach)
	for name, kind := range kinds() {
		if o.Kind(name) != kind {
			t.Errorf("Kind(%s) = %q, want %q", name, o.Kind(name), kind)
		}
	}
	for _, name := range []string{"", "a", "gg", "G", "graph", "g ", "-", "\n"} {
		if o.Kind(name) != "" {
			t.Errorf("Kind(%q) = %q", name, o.Kind(name))
		}
	}
	wantDo(t, o, "drop g", "dropped g")
	if o.Kind("g") != "" {
		t.Errorf("Kind of a file that was removed: %q", o.Kind("g"))
	}
	wantDo(t, o, "mark g a", "made g")
	if o.Kind("g") != "mark" {
		t.Errorf("Kind(g) = %q", o.Kind("g"))
	}
}

// P12.1: errors are not in the log; the oldest results disappear.
func TestLog(t *testing.T) {
	o := played(t, "pile p 3,1,2\nmark w aa")
	want := []string{"made p", "made w"}
	for i := range 250 {
		if !slices.Equal(o.Log(), want[max(0, len(want)-100):]) {
			t.Fatalf("after %d acts: log %q", len(want), o.Log())
		}
		switch i % 5 {
		case 0:
			wantDo(t, o, "index p", "index 4")
			want = append(want, "index 4")
		case 1:
			wantError(t, o, "index q", api.ErrNone)
			wantError(t, o, "words", api.ErrSyntax)
		case 2:
			o.Say("square w")
			want = append(want, "square 0 1")
		case 3:
			name := "n" + string(rune('a'+i%26)) + string(rune('a'+i/26))
			wantDo(t, o, "fork "+name+" .", "made "+name)
			wantDo(t, o, "drop "+name, "dropped "+name)
			want = append(want, "made "+name, "dropped "+name)
		}
	}
}

// P12.1: there are just MaxLog results.
func TestLogAtItsLimit(t *testing.T) {
	o := played(t, "line z 30 "+writtenLists(star(30)))
	wantDo(t, o, "time z 0", "time 29")
	wantDo(t, o, "centers z", "centers "+written(upTo(30))+" 29")
	for i := range 97 {
		wantDo(t, o, "time z "+strconv.Itoa(i%29+1), "time 29")
	}
	log := o.Log()
	if len(log) != 100 || log[0] != "made z" || log[1] != "time 29" {
		t.Fatalf("%d results: %q", len(log), log)
	}
	wantDo(t, o, "drop z", "dropped z")
	log = o.Log()
	if len(log) != 100 || log[0] != "time 29" || log[99] != "dropped z" {
		t.Fatalf("%d results: %q", len(log), log)
	}
}

// star has the middle 0.
func star(n int) [][]int {
	var pairs [][]int
	for i := 1; i < n; i++ {
		pairs = append(pairs, []int{0, i})
	}
	return pairs
}

func upTo(n int) []int {
	var list []int
	for i := range n {
		list = append(list, i)
	}
	return list
}

// P12.1, P12.2, P12.6, rule 3.
func TestUnusableOffices(t *testing.T) {
	var none *office.Office
	for _, o := range []*office.Office{none, {}, new(office.Office)} {
		for _, line := range []string{"pile p 1,3,2", "index p", "drop p", "words", "", "\n"} {
			if result, err := o.Do(line); result != "" || err != api.ErrUnusable {
				t.Errorf("Do(%q) = %q %d", line, result, err)
			}
			if said := o.Say(line); said != "" {
				t.Errorf("Say(%q) = %q", line, said)
			}
		}
		if o.Text() != "" || len(o.Names()) > 0 || o.Kind("p") != "" || len(o.Log()) > 0 {
			t.Errorf("an unusable office has %s", state(o))
		}
	}
}

// Rule 3: New did not return a pointer to a copy.
func TestCopiesOfOffices(t *testing.T) {
	o := played(t, oneOfEach)
	before := state(o)
	c := *o
	if result, err := c.Do("drop g"); result != "" || err != api.ErrUnusable || c.Say("drop g") != "" || c.Text() != "" || len(c.Names()) > 0 {
		t.Fatalf("a copy is usable: %q %d %s", result, err, state(&c))
	}
	if state(o) != before {
		t.Fatalf("%s became %s", before, state(o))
	}
}

// Rule 5: results are new memory.
func TestListsOfAnOfficeAreNew(t *testing.T) {
	o := played(t, oneOfEach)
	before := state(o)
	for range 2 {
		for _, list := range [][]string{o.Names(), o.Log()} {
			list = list[:cap(list)]
			for i := range list {
				list[i] = "scratched"
			}
		}
		if state(o) != before {
			t.Fatalf("%s became %s", before, state(o))
		}
	}
	names, log := o.Names(), o.Log()
	wantDo(t, o, "drop g", "dropped g")
	wantDo(t, o, "mark g a", "made g")
	if names[0] != "g" || names[1] != "n" || log[0] != "made g" || len(log) != 11 {
		t.Fatalf("earlier results have changed: %q %q", names, log)
	}
}
