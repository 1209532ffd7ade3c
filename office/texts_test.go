package office_test

import (
	"math/rand/v2"
	"strconv"
	"strings"
	"testing"

	"lampbox/api"
	"lampbox/office"
)

// P12.6.
func TestSay(t *testing.T) {
	o := filled(t)
	for _, x := range [][2]string{
		{"index p", "index 1\n"},
		{"drop p", "dropped p\n"},
		{"pile p 2,1", "made p\n"},
		{"pile p 1", "error 2\n"},
		{"pile q 1", "error 5\n"},
		{"index q", "error 6\n"},
		{"index  p", "error 4\n"},
		{"", "error 4\n"},
		{"\n", "error 4\n"},
		{"index p\n", "error 4\n"},
		{strings.Repeat("a", 5000), "error 4\n"},
		{"below f nobody", "error 6\n"},
		{"index p", "index 1\n"},
	} {
		before := state(o)
		said := o.Say(x[0])
		if said != x[1] {
			t.Errorf("Say(%.50q) = %q, want %q", x[0], said, x[1])
		}
		if strings.HasPrefix(said, "error") && state(o) != before {
			t.Errorf("Say(%.50q) changed the office", x[0])
		}
	}
	if log := o.Log(); log[len(log)-1] != "index 1" || log[len(log)-2] != "made p" || log[len(log)-3] != "dropped p" {
		t.Errorf("log %q", log)
	}
}

// P12.6: lines without anything are left out, wherever they are; the last line may have no line feed.
func TestPlay(t *testing.T) {
	for _, x := range [][2]string{
		{"", ""},
		{"\n", ""},
		{"\n\n\n\n", ""},
		{"pile p 1,3,2", "made p\n"},
		{"pile p 1,3,2\n", "made p\n"},
		{"\n\npile p 1,3,2\n\n\nindex p\n\n", "made p\nindex 1\n"},
		{"pile p 1,3,2\nnumbers p\nsecond p q\nindex q", "made p\nnumbers 1 2 1 1 2 2\nmade q\nindex 4\n"},
		{"index p\npile p 1\nindex p\ndrop p\nindex p\n", "error 6\nmade p\nindex 0\ndropped p\nerror 6\n"},
		{" \nwords\n\t\n", "error 4\nerror 4\nerror 4\n"},
		{"pile p 1\r\nindex p\r\nmark m a\r\n", "error 4\nerror 4\nerror 2\n"},
		{"\r\n\x00\n\xff", "error 4\nerror 4\nerror 4\n"},
		{strings.Repeat("x", 100000) + "\nmark m aa\nsquare m", "error 4\nmade m\nsquare 0 1\n"},
		{"fork f (..)\n" + strings.Repeat("vector f\n", 300), "made f\n" + strings.Repeat("vector 0\n", 300)},
	} {
		if said := office.Play(x[0]); said != x[1] {
			t.Errorf("Play(%.100q) = %.100q, want %.100q", x[0], said, x[1])
		}
	}
}

// P12.6: every Play has an office of its own.
func TestPlaysAreApart(t *testing.T) {
	for range 3 {
		if said := office.Play("index p\npile p 1"); said != "error 6\nmade p\n" {
			t.Fatalf("said %q", said)
		}
	}
}

// P12.6: the text has a line for each file, in the order in which they were made.
func TestText(t *testing.T) {
	o := office.New()
	if o.Text() != "" {
		t.Errorf("text %q", o.Text())
	}
	o = played(t, "pile p 2,1\nnet n 3 2,0,7;0,1,5\nlist l 2,4 1,3;0,0\nline z 3 2,0;1,2\nmachine r 0,0;1,1\ntable t -\nsecond p q\ndrop n\nindex q\nnet n 1 -\nlist m 5 -")
	wantError(t, o, "words", api.ErrSyntax)
	want := "pile p 2,1\nlist l 2,4 1,3;0,0\nline z 3 2,0;1,2\nmachine r 0,0;1,1\ntable t -\npile q 2,1\nnet n 1 -\nlist m 5 -\n"
	if o.Text() != want {
		t.Errorf("text %q, want %q", o.Text(), want)
	}
}

// wantReplayed fails if the text of an office does not make the same files again.
func wantReplayed(t *testing.T, o *office.Office) {
	t.Helper()
	again := office.New()
	for _, line := range strings.Split(o.Text(), "\n") {
		if line != "" {
			name := strings.Split(line, " ")[1]
			wantDo(t, again, line, "made "+name)
			if again.Kind(name) != o.Kind(name) {
				t.Fatalf("%s is of the kind %q, and %q", name, o.Kind(name), again.Kind(name))
			}
		}
	}
	if again.Text() != o.Text() || strings.Join(again.Names(), " ") != strings.Join(o.Names(), " ") {
		t.Fatalf("%q became %q", o.Text(), again.Text())
	}
	said := ""
	for _, name := range o.Names() {
		said += "made " + name + "\n"
	}
	if office.Play(o.Text()) != said {
		t.Fatalf("played again, %q said %q", o.Text(), office.Play(o.Text()))
	}
}

// P12.3, P12.6, P12.7: files of all kinds are made again as they were given.
func TestTextsOfRandomFiles(t *testing.T) {
	r := rand.New(rand.NewPCG(12, 5))
	for range 60 {
		o := office.New()
		want := ""
		for i := range r.IntN(33) {
			kind, rest := randomFile(r)
			name := "file" + string(rune('a'+i/26)) + string(rune('a'+i%26))
			line := kind + " " + name + " " + rest
			wantDo(t, o, line, "made "+name)
			want += line + "\n"
		}
		if o.Text() != want {
			t.Fatalf("text %q, want %q", o.Text(), want)
		}
		wantReplayed(t, o)
	}
	for _, file := range rightFiles() {
		wantReplayed(t, played(t, named("a", file)))
	}
}

// P12.6: Play says what an office says to one line after the other.
func TestPlayIsSay(t *testing.T) {
	r := rand.New(rand.NewPCG(12, 6))
	for range 40 {
		o := office.New()
		text, want := "", ""
		for i := range r.IntN(200) {
			line := randomAct(r, i)
			text += line + strings.Repeat("\n", 1+r.IntN(2))
			want += o.Say(line)
		}
		if said := office.Play(text); said != want {
			t.Fatalf("Play(%q) = %q, want %q", text, said, want)
		}
	}
}

// randomAct is an act on few names, often one with an error, and now and then none at all.
func randomAct(r *rand.Rand, i int) string {
	name := func() string { return string(rune('a'+r.IntN(26))) + strings.Repeat("x", r.IntN(2)) }
	if r.IntN(5) > 2 {
		kind, rest := randomFile(r)
		return kind + " " + name() + " " + rest
	}
	all := samples()
	s := all[11+r.IntN(len(all)-11)]
	line := strings.Split(s.line, " ")[0]
	for _, sort := range strings.Split(s.form, " ") {
		switch sort {
		case "NAME", "OTHER", "NEW":
			line += " " + name()
		default:
			line += " " + strconv.Itoa(r.IntN(8))
		}
	}
	if i%20 == 19 {
		line += " "
	}
	return line
}
