package office_test

import (
	"math/rand/v2"
	"strings"
	"testing"
	"time"

	"lampbox/api"
	"lampbox/office"
)

// P1: lines of random bytes, and acts of which some bytes are others, return a result or an error of the chapter.
func TestRandomLines(t *testing.T) {
	r := rand.New(rand.NewPCG(12, 11))
	o := played(t, oneOfEach)
	bytes := " ,;-\n0123456789abcdxyzgnfclptmzrw.()\x00\xff/"
	for i := range 40000 {
		line := []byte(samples()[r.IntN(46)].line)
		if i%3 == 0 {
			line = make([]byte, r.IntN(60))
			for k := range line {
				line[k] = bytes[r.IntN(len(bytes))]
			}
		}
		for range r.IntN(4) {
			if len(line) > 0 {
				line[r.IntN(len(line))] = bytes[r.IntN(len(bytes))]
			}
		}
		result, err := o.Do(string(line))
		switch err {
		case api.OK:
			if result == "" || strings.Contains(result, "\n") {
				t.Fatalf("%q: %q", line, result)
			}
		case api.ErrArg, api.ErrSyntax, api.ErrFull, api.ErrNone:
			if result != "" {
				t.Fatalf("%q: %q %d", line, result, err)
			}
		default:
			t.Fatalf("%q: error %d", line, err)
		}
		if len(o.Names()) > 25 {
			o = played(t, oneOfEach)
		}
	}
}

// P1: acts on the greatest files end soon.
func TestGreatestFiles(t *testing.T) {
	o := office.New()
	names := map[string][]string{}
	for i, file := range rightFiles() {
		if len(o.Names()) == 30 {
			wantAnswersOrErrors(t, o, names)
			o, names = office.New(), map[string][]string{}
		}
		name := "f" + string(rune('a'+i/26)) + string(rune('a'+i%26))
		kind, _, _ := strings.Cut(file, " ")
		wantDo(t, o, named(name, file), "made "+name)
		names[kind] = append(names[kind], name)
	}
	wantAnswersOrErrors(t, o, names)
}

func wantAnswersOrErrors(t *testing.T, o *office.Office, names map[string][]string) {
	t.Helper()
	for _, s := range samples() {
		for _, name := range names[s.kind] {
			line := replaced(s.line, 1, name)
			if strings.Contains(s.form, "OTHER") {
				line = replaced(line, 2, names[s.kind][0])
			}
			begin := time.Now()
			if _, err := o.Do(line); err == api.OK && strings.HasSuffix(line, " new") {
				wantDo(t, o, "drop new", "dropped new")
			}
			if taken := time.Since(begin); taken > 20*time.Second {
				t.Errorf("%q took %v", line, taken)
			}
		}
	}
}

// P2: offices do not know of each other, and the same acts lead to the same office.
func TestOfficesAreApart(t *testing.T) {
	r := rand.New(rand.NewPCG(12, 12))
	one, other, quiet := office.New(), office.New(), played(t, oneOfEach)
	before := state(quiet)
	for range 1500 {
		line := randomAct(r, 0)
		first, err := one.Do(line)
		second, err2 := other.Do(line)
		if first != second || err != err2 {
			t.Fatalf("%q: %q %d, and %q %d", line, first, err, second, err2)
		}
	}
	if state(one) != state(other) || state(quiet) != before {
		t.Fatalf("%s\n%s\n%s\n%s", state(one), state(other), state(quiet), before)
	}
}
