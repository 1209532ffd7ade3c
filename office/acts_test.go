package office_test

import (
	"strings"
	"testing"

	"lampbox/api"
	"lampbox/office"
)

// P12.2: the samples are acts, so that what is wrong below is so for the reason that is tried.
func TestSamplesAreActs(t *testing.T) {
	words := map[string]bool{}
	for _, s := range samples() {
		o := played(t, oneOfEach)
		result, err := o.Do(s.line)
		if err != api.OK || result == "" || strings.Contains(result, "\n") {
			t.Errorf("%q: %q %d", s.line, result, err)
		}
		words[strings.Split(s.line, " ")[0]] = true
	}
	if len(words) != 46 {
		t.Errorf("%d acts, want 46", len(words))
	}
}

// P12.2: an act is a word and as many arguments as it needs, with one blank between.
func TestBlanksAndNumbersOfArguments(t *testing.T) {
	o := played(t, oneOfEach)
	for _, s := range samples() {
		words := strings.Split(s.line, " ")
		for _, line := range []string{
			words[0], words[0] + " ", strings.Join(words[:len(words)-1], " "), s.line + " ", " " + s.line, s.line + " 0", s.line + " a", s.line + " -",
			s.line + " " + words[len(words)-1], s.line + "  0", strings.Replace(s.line, " ", "  ", 1), strings.Replace(s.line, " ", "\t", 1), words[0] + strings.Repeat(" ", len(words)-1),
			strings.ReplaceAll(s.line, " ", ""), s.line + "\n", "\n" + s.line, strings.Replace(s.line, " ", "\n", 1), s.line + "\n" + s.line, strings.Replace(s.line, " ", " \n", 1),
		} {
			wantError(t, o, line, api.ErrSyntax)
		}
		for at := range words {
			wantError(t, o, replaced(s.line, at, ""), api.ErrSyntax)
			wantError(t, o, replaced(s.line, at, words[at]+"\n"), api.ErrSyntax)
		}
	}
}

// P12.2.
func TestWordsThatAreNoActs(t *testing.T) {
	o := played(t, oneOfEach)
	for _, line := range []string{
		"", " ", "  ", "-", "words", "words p", "NAME", "pile", "Pile q 1", "PILE q 1", "pil q 1", "piles q 1", "pile\x00 q 1", "\x00", "\xff", "ä", "first p q",
		"make p", "names", "kind p", "log", "text", "say p", "play p", "density g", "count n", "way f f", "meet f f", "kinds", "0", "p", "drop", "new",
	} {
		wantError(t, o, line, api.ErrSyntax)
	}
	for _, s := range samples() {
		word, rest, _ := strings.Cut(s.line, " ")
		for _, other := range []string{strings.ToUpper(word), strings.ToUpper(word[:1]) + word[1:], word + "x", word[:len(word)-1] + "_", "-" + word, "\xef\xbb\xbf" + word} {
			wantError(t, o, other+" "+rest, api.ErrSyntax)
		}
	}
}

// wrongTexts are texts that are no arguments of a sort.
func wrongTexts(sort string) []string {
	numbers := []string{
		"", "+1", "01", "00", "-0", "-01", "--1", "1-", "1.0", "1e3", "0x1", "1_0", "a", "x1", "1x", "ä", "1\t", "\x00", "\xff", "'1'", "½", "٣", "1 ",
		"9223372036854775808", "-9223372036854775809", "18446744073709551616", "99999999999999999999", strings.Repeat("1", 1000), "0" + strings.Repeat("0", 30), "1/1",
	}
	switch sort {
	case "NAME", "OTHER", "NEW":
		return []string{"", "A", "aB", "a1", "1", "-", "a-b", "a_b", "a.b", "ä", "a\x00", "\xff", "`", "{", "a{", "@a", "abcdefghijklmnopq", strings.Repeat("a", 17), strings.Repeat("a", 1000), "a,b", "a\r"}
	case "LIST":
		lists := append(numbers, "1,", ",1", ",", "1,,2", "-,1", "1,-", "-,-", "--", "1;2", ";", "1,2;", "-;", "1, 2", "(1)", "[]")
		for _, n := range numbers {
			lists = append(lists, "1,"+n, n+",1", "3,"+n+",1")
		}
		return lists
	case "LISTS":
		var lists []string
		for _, l := range wrongTexts("LIST") {
			if !strings.Contains(l, ";") {
				lists = append(lists, l, "0,1;"+l, l+";0,1", "1;"+l+";2")
			}
		}
		return append(lists, ";", "-;", ";-", "1;;2", "1,2;", ";1,2", "-;;-", "1:2", "-;--")
	case "TEXT":
		return []string{"", "a b", "\n", "a\nb"}
	}
	return append(numbers, "-", "1,2", "1,", "1;2", "-,-")
}

// P12.2: names, number texts, lists and texts.
func TestWrongArguments(t *testing.T) {
	o := played(t, oneOfEach)
	for _, s := range samples() {
		for i, sort := range strings.Split(s.form, " ") {
			for _, text := range wrongTexts(sort) {
				wantError(t, o, replaced(s.line, 1+i, text), api.ErrSyntax)
			}
		}
	}
}

// P12.2: a syntax that is wrong is named before everything else, wherever it is.
func TestSyntaxIsFirst(t *testing.T) {
	o := filled(t)
	for _, s := range samples() {
		sorts := strings.Split(s.form, " ")
		for i, sort := range sorts {
			if sort == "TEXT" {
				continue
			}
			for k := range sorts {
				for _, text := range []string{"nobody", "p", "g", "100000", "-7", "-", "7;7"} {
					line := replaced(s.line, 1+k, text)
					wantError(t, o, replaced(line, 1+i, wrongTexts(sort)[1]), api.ErrSyntax)
				}
			}
		}
		wantError(t, o, s.line+" nobody", api.ErrSyntax)
	}
	for _, line := range []string{"narrow nobody 0 x", "narrow p 99 01", "below nobody P", "below p A", "meet nobody p N", "pile p 1,1,x", "pile p 7,x", "graph g 99 0,1;0,x", "list l 1 0;;1", "net n x 1", "bounded g 1e9"} {
		wantError(t, o, line, api.ErrSyntax)
	}
}

// P12.2: the least and the greatest ints are number texts.
func TestGreatestNumbers(t *testing.T) {
	o := played(t, oneOfEach)
	for _, n := range []string{"9223372036854775807", "-9223372036854775808", "-1", "1000000"} {
		for _, line := range []string{
			"narrow n 0 X", "narrow n X 0", "bounded m X", "time z X", "pile q X", "pile q 1,X", "table q X", "table q 1,2;3,X", "graph q X -", "graph q 4 0,X", "graph q 4 X,1",
			"net q X -", "net q 2 0,1,X", "net q 2 X,1,1", "line q X -", "line q 2 X,0", "line q 2 0,1;X,0", "miles q X", "miles q 0,X;X,0", "machine q X", "machine q 0,X", "list q X -", "list q X,X -", "list q 3 X", "list q 2,2 0,X",
		} {
			wantError(t, o, strings.ReplaceAll(line, "X", n), api.ErrArg)
		}
	}
}

// P12.2: names of 1 and of 16 letters.
func TestNamesOfFiles(t *testing.T) {
	o := office.New()
	for _, name := range []string{"a", "z", "abcdefghijklmnop", "qrstuvwxyzzzzzzz", "pile", "drop", "name"} {
		wantDo(t, o, "pile "+name+" 1", "made "+name)
		wantDo(t, o, "index "+name, "index 0")
		if o.Kind(name) != "pile" {
			t.Errorf("Kind(%s) = %q", name, o.Kind(name))
		}
	}
	wantDo(t, o, "second abcdefghijklmnop ponmlkjihgfedcba", "made ponmlkjihgfedcba")
	wantDo(t, o, "drop abcdefghijklmnop", "dropped abcdefghijklmnop")
}

// P12.2: a text may have all bytes but blanks and line feeds, so that its layer says what is wrong.
func TestTextsOfAllBytes(t *testing.T) {
	o := office.New()
	for b := range 256 {
		want := api.ErrArg
		if b == ' ' || b == '\n' {
			want = api.ErrSyntax
		}
		for _, act := range []string{"fork q ", "chain q ", "mark q "} {
			wantError(t, o, act+"aab"+string([]byte{byte(b)})+"(", want)
		}
	}
	for _, text := range []string{"\r", "a\r", "\t", "ä", "\xff\xfe", "-", "\x00"} {
		wantError(t, o, "mark q "+text, api.ErrArg)
	}
}

// P12.2: a line of MaxAct bytes may be an act, so that its layer says what is wrong.
func TestLongLines(t *testing.T) {
	o := played(t, oneOfEach)
	for _, start := range []string{"mark q ", "fork q ", "chain q "} {
		line := start + strings.Repeat("a", 4096-len(start))
		wantError(t, o, line, api.ErrArg)
		wantError(t, o, line+"a", api.ErrSyntax)
	}
	numbers := strings.Repeat(",1", 2044)
	wantError(t, o, "pile q 1"+numbers, api.ErrArg)
	wantError(t, o, "pile qq 1"+numbers, api.ErrSyntax)
	wantError(t, o, "pile q 12"+numbers, api.ErrSyntax)
	for _, many := range []int{4097, 5000, 1000000} {
		for _, text := range []string{" ", "a", "\n", "1", ",1", ";", "-"} {
			wantError(t, o, strings.Repeat(text, many), api.ErrSyntax)
			wantError(t, o, "mark q "+strings.Repeat(text, many), api.ErrSyntax)
			wantError(t, o, "index p"+strings.Repeat(text, many), api.ErrSyntax)
		}
	}
}

// P12.2: a file that is missing is named before one of a wrong kind, and this before everything that is stated.
func TestMissingFilesAndWrongKinds(t *testing.T) {
	for _, o := range []*office.Office{played(t, oneOfEach), filled(t)} {
		for _, s := range samples() {
			if s.kind == "" {
				continue
			}
			for i, sort := range strings.Split(s.form, " ") {
				if sort != "NAME" && sort != "OTHER" {
					continue
				}
				wantError(t, o, replaced(s.line, 1+i, "nobody"), api.ErrNone)
				for name, kind := range kinds() {
					if kind != s.kind {
						wantError(t, o, replaced(s.line, 1+i, name), api.ErrArg)
					}
					if sort == "OTHER" {
						wantError(t, o, replaced(replaced(s.line, 1, name), 1+i, "nobody"), api.ErrNone)
						wantError(t, o, replaced(replaced(s.line, 1, "nobody"), 1+i, name), api.ErrNone)
					}
				}
			}
		}
		for _, line := range []string{"narrow nobody 0 99", "bounded nobody -1", "time nobody 99", "second nobody p", "meet nobody nobody g", "meet p nobody f", "join nobody p f", "ways nobody g", "drop nobody", "drop new"} {
			wantError(t, o, line, api.ErrNone)
		}
		for _, line := range []string{"second g new", "mirror p f", "meet f p new", "meet p f new", "join g g new", "spread g n", "ways m new", "shown t new", "narrow g 0 1", "tree f", "trees f", "vector p", "turns f t", "index l", "dense n"} {
			wantError(t, o, line, api.ErrArg)
		}
	}
}
