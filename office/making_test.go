package office_test

import (
	"strings"
	"testing"

	"lampbox/api"
	"lampbox/office"
)

// P12.3.
func TestMaking(t *testing.T) {
	o := office.New()
	for _, line := range strings.Split(strings.TrimSuffix(oneOfEach, "\n"), "\n") {
		words := strings.Split(line, " ")
		wantDo(t, o, line, "made "+words[1])
		wantText(t, o, line)
		if o.Kind(words[1]) != words[0] {
			t.Errorf("%s: kind %q", line, o.Kind(words[1]))
		}
	}
	if o.Text() != oneOfEach {
		t.Errorf("text %q", o.Text())
	}
}

// ones are many times the same text, with another one between.
func ones(text, between string, many int) string {
	return strings.TrimSuffix(strings.Repeat(text+between, many), between)
}

// rightFiles are the smallest and the greatest files that layers call so, and others, without the names.
func rightFiles() []string {
	return []string{
		"graph 1 -", "graph 16 -", "graph 16 0,15;14,15", "graph 2 0,1", "graph 3 1,2;0,1;0,2",
		"net 1 -", "net 16 -", "net 2 0,1,0;1,0,1000;0,1,0", "net 2 " + ones("1,0,7", ";", 60), "net 16 15,0,1;0,15,1",
		"fork .", "fork (..)", "fork " + strings.Repeat("(", 10) + "." + strings.Repeat(".)", 10), "fork ((..)(..))",
		"chain aa", "chain abcdabcd", "chain dd", "chain " + strings.Repeat("abcd", 6),
		"list 2 -", "list 24 23", "list 2,4 1,3", "list 12,12 11,11;0,0", "list 6,24 5,23", "list 3 " + ones("1", ";", 60),
		"pile -", "pile 1", "pile 2,1", "pile 12,11,10,9,8,7,6,5,4,3,2,1",
		"table -", "table 0", "table 9", "table 0,0;0,0", "table " + ones(ones("9", ",", 10), ";", 10),
		"miles 0", "miles 0,1000;1000,0", "miles " + ones(ones("0", ",", 11), ";", 11),
		"line 1 -", "line 2 1,0", "line 3 2,0;1,2", "line 30 " + writtenLists(star(30)),
		"machine 0", "machine 0;0;0;0", "machine 0,1,2,3,4,5,6,7,8", "machine 8,8,8,8,8,8,8,8,8;0,0,0,0,0,0,0,0,0",
		"mark a", "mark dcba", "mark " + strings.Repeat("d", 120),
	}
}

// named is the line that makes a file under a name.
func named(name, file string) string {
	return strings.Replace(file, " ", " "+name+" ", 1)
}

// P12.3.
func TestRightFiles(t *testing.T) {
	for _, file := range rightFiles() {
		o := office.New()
		wantDo(t, o, named("a", file), "made a")
		wantDo(t, o, named("b", file), "made b")
		if want := named("a", file) + "\n" + named("b", file) + "\n"; o.Text() != want {
			t.Errorf("%s: text %q", file, o.Text())
		}
	}
}

// wrongFiles are no files, because their layers do not call them so.
func wrongFiles() []string {
	return []string{
		"graph 0 -", "graph -1 -", "graph 17 -", "graph 2 1,0", "graph 2 0,0", "graph 2 0,2", "graph 2 -1,0", "graph 3 0,1;0,1", "graph 0 0,1",
		"graph 2 0", "graph 2 0,1,1", "graph 2 -;0,1", "graph 2 0,1;-", "graph 3 0,1;1,2,0", "graph 3 0,1;1", "graph 2 -;-",
		"net 0 -", "net -1 -", "net 17 -", "net 2 0,0,1", "net 2 0,2,1", "net 2 -1,1,1", "net 2 0,1,-1", "net 2 0,1,1001", "net 2 " + ones("1,0,7", ";", 61),
		"net 2 0,1", "net 2 0,1,1,1", "net 2 -;0,1,1", "net 2 0,1,1;-", "net 2 0", "net 3 0,1,1;1,2",
		"fork -", "fork ..", "fork (.)", "fork (...)", "fork (..", "fork ..)", "fork (..)(..)", "fork x", "fork ()", "fork (..)x", "fork " + strings.Repeat("(", 11) + "." + strings.Repeat(".)", 11), "fork " + strings.Repeat("(", 4000),
		"chain a", "chain aab", "chain abc", "chain -", "chain ee", "chain AA", "chain 11", "chain " + strings.Repeat("a", 26), "chain aaa", "chain aabbc", "chain a\xffa\xff",
		"list - -", "list 1 -", "list 25 -", "list 0 -", "list -2 -", "list 2,3 -", "list 4,2 -", "list 2,2,2 -", "list 12,24 -", "list 1,2 -", "list 3 3", "list 3 -1", "list 3 1,1", "list 2,2 1", "list 2,2 0,2", "list 3 -;1", "list 3 1;-", "list 2,2 0,1;0,1,1", "list 3 " + ones("1", ";", 61),
		"pile 0", "pile 2", "pile 1,1", "pile 1,3", "pile 0,1", "pile -1", "pile 1,2,2", "pile 13,12,11,10,9,8,7,6,5,4,3,2,1",
		"table 10", "table -1", "table 1,2", "table 1;2", "table 1,2;3", "table 1,2;3,4;5,6", "table 1,2,3;4,5,6", "table -;-", "table 1;-", "table " + ones(ones("9", ",", 11), ";", 11), "table 1,2;3,10",
		"miles -", "miles 1", "miles 0,1", "miles 0,1;2,0", "miles 0,1;1,1", "miles 0,1001;1001,0", "miles 0,-1;-1,0", "miles 0;0", "miles -;-", "miles " + ones(ones("0", ",", 12), ";", 12), "miles 0,1;1",
		"line 0 -", "line 2 -", "line 1 0,0", "line 2 0,0", "line 2 0,2", "line 2 -1,0", "line 3 0,1;0,1", "line 3 0,1", "line 3 0,1;1,2;0,2", "line 4 0,1;1,2;0,2", "line 31 " + writtenLists(star(31)), "line -1 -",
		"line 2 0", "line 2 0,1,1", "line 2 -", "line 3 0,1;1", "line 3 0,1;-", "line 3 -;0,1", "line 3 1,2,0;0,1",
		"machine -", "machine 1", "machine -1", "machine 0,2", "machine 0,1;0", "machine 0;0,1", "machine -;-", "machine 0;-", "machine 0;0;0;0;0", "machine 0,1,2,3,4,5,6,7,8,9", "machine 0,1;1,2",
		"mark e", "mark A", "mark -", "mark abe", "mark eba", "mark 1", "mark " + strings.Repeat("d", 121), "mark a\x00", "mark \xff",
	}
}

// P12.3: what is given is not what its layer calls so, in an empty office and in a full one, in which this comes first.
func TestWrongFiles(t *testing.T) {
	empty, full := office.New(), filled(t)
	for _, file := range wrongFiles() {
		for _, o := range []*office.Office{empty, full} {
			wantError(t, o, named("a", file), api.ErrArg)
			wantError(t, o, named("g", file), api.ErrArg)
		}
	}
	if len(empty.Names()) > 0 || len(full.Names()) != 32 {
		t.Errorf("files %q, and %q", empty.Names(), full.Names())
	}
}

// P12.3: a name has one file, of whatever kind.
func TestNamesOfFilesThatExist(t *testing.T) {
	for _, o := range []*office.Office{played(t, oneOfEach), filled(t)} {
		for name := range kinds() {
			for _, file := range rightFiles() {
				wantError(t, o, named(name, file), api.ErrArg)
			}
		}
	}
}

// P12.3, P12.5: MaxFiles files.
func TestFullOffice(t *testing.T) {
	o := filled(t)
	if len(o.Names()) != 32 {
		t.Fatalf("%d files", len(o.Names()))
	}
	for _, file := range rightFiles() {
		wantError(t, o, named("a", file), api.ErrFull)
	}
	for _, line := range []string{"second p a", "mirror f a", "meet f f a", "join f f a", "spread n a", "ways n a", "shown p a"} {
		wantError(t, o, line, api.ErrFull)
	}
	wantDo(t, o, "drop g", "dropped g")
	wantDo(t, o, "pile a 1", "made a")
	wantError(t, o, "pile b 1", api.ErrFull)
	wantError(t, o, "pile g 1", api.ErrFull)
	wantDo(t, o, "drop a", "dropped a")
	wantDo(t, o, "second p g", "made g")
	wantError(t, o, "second p a", api.ErrFull)
	wantError(t, o, "second p g", api.ErrArg)
	wantDo(t, o, "index g", "index 4")
}
