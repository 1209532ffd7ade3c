package office_test

import (
	"math/rand/v2"
	"slices"
	"strings"
	"testing"

	"lampbox/api"
	"lampbox/office"
)

// diary is what an office must show, by the results of its acts alone.
type diary struct {
	names, log []string
	kinds      map[string]string
}

// enter enters the result of an act that had no error.
func (d *diary) enter(line, result string) {
	d.log = append(d.log, result)
	act, name, _ := strings.Cut(result, " ")
	switch act {
	case "made":
		d.names = append(d.names, name)
		kind := strings.Split(line, " ")[0]
		if made := map[string]string{"second": "pile", "mirror": "fork", "meet": "fork", "join": "fork", "spread": "graph", "ways": "miles", "shown": "table"}[kind]; made != "" {
			kind = made
		}
		d.kinds[name] = kind
	case "dropped":
		d.names = slices.DeleteFunc(d.names, func(other string) bool { return other == name })
		delete(d.kinds, name)
	}
}

// refused is the error of a right act for its files, or OK if there is none that depends on them alone.
func (d *diary) refused(line string) api.Errno {
	words := strings.Split(line, " ")
	at := slices.IndexFunc(samples(), func(s sample) bool { return strings.HasPrefix(s.line, words[0]+" ") })
	s := samples()[at]
	makes, target, drop := at < 11, words[1], words[0] == "drop"
	for _, wrongKind := range []bool{false, true} {
		for i, sort := range strings.Split(s.form, " ") {
			if sort == "NEW" {
				makes, target = true, words[1+i]
			}
			if at < 11 || sort != "NAME" && sort != "OTHER" {
				continue
			}
			if kind, exists := d.kinds[words[1+i]]; !exists {
				return api.ErrNone
			} else if wrongKind && kind != s.kind && !drop {
				return api.ErrArg
			}
		}
	}
	if _, exists := d.kinds[target]; makes && exists {
		return api.ErrArg
	}
	if makes && len(d.names) >= 32 {
		return api.ErrFull
	}
	return api.OK
}

// P12.1 to P12.7, P2: long plays, in which the files, the log and the errors are kept by hand.
func TestRandomPlays(t *testing.T) {
	r := rand.New(rand.NewPCG(12, 7))
	seen := map[api.Errno]int{}
	for range 30 {
		o, d := office.New(), diary{kinds: map[string]string{}}
		for range 400 {
			line := randomAct(r, 0)
			refused, before := d.refused(line), o.Text()
			result, err := o.Do(line)
			seen[err]++
			if refused != api.OK && err != refused || err != api.OK && result != "" {
				t.Fatalf("%q: %q %d, want error %d, with the files %v", line, result, err, refused, d.kinds)
			}
			if err == api.OK {
				d.enter(line, result)
			}
			word, _, _ := strings.Cut(result, " ")
			if word != "made" && word != "dropped" && o.Text() != before {
				t.Fatalf("%q: %q became %q", line, before, o.Text())
			}
			if !slices.Equal(o.Names(), d.names) || !slices.Equal(o.Log(), d.log[max(0, len(d.log)-100):]) {
				t.Fatalf("%q: names %q and log %q, want %q and %q", line, o.Names(), o.Log(), d.names, d.log)
			}
			for name, kind := range d.kinds {
				if o.Kind(name) != kind {
					t.Fatalf("%q: %s is of the kind %q, want %q", line, name, o.Kind(name), kind)
				}
			}
		}
		wantReplayed(t, o)
	}
	for _, err := range []api.Errno{api.OK, api.ErrArg, api.ErrFull, api.ErrNone} {
		if seen[err] < 50 {
			t.Errorf("error %d only %d times", err, seen[err])
		}
	}
}

// P12.7.
func TestShownPilesHaveThePermanentOne(t *testing.T) {
	r := rand.New(rand.NewPCG(12, 8))
	for range 300 {
		pile := randomPile(r)
		if len(listIn(pile)) > 10 {
			continue
		}
		o := played(t, "pile p "+pile)
		wantDo(t, o, "shown p t", "made t")
		wantDo(t, o, "permanent t", "permanent 1")
		choice := listIn(pile)
		for i := range choice {
			choice[i]--
		}
		wantDo(t, o, "choose t", "choose 1 "+written(choice))
	}
}

// P12.7: the first number of a second order is the second one of the order.
func TestInversionsOfSecondAreDescentsBefore(t *testing.T) {
	r := rand.New(rand.NewPCG(12, 9))
	for range 300 {
		o := played(t, "pile p "+randomPile(r))
		wantDo(t, o, "second p q", "made q")
		before, err := o.Do("numbers p")
		after, err2 := o.Do("numbers q")
		if err != api.OK || err2 != api.OK || strings.Split(before, " ")[2] != strings.Split(after, " ")[1] {
			t.Fatalf("%s: %s, and then %s", o.Text(), before, after)
		}
	}
}

// P12.7.
func TestNoDetourIsNarrower(t *testing.T) {
	r := rand.New(rand.NewPCG(12, 10))
	made := 0
	for range 300 {
		o := played(t, "net n "+randomNet(r, 11))
		if _, err := o.Do("ways n m"); err != api.OK {
			continue
		}
		made++
		text := o.Text()
		miles := listsIn(strings.TrimSuffix(text[strings.LastIndex(text, " ")+1:], "\n"))
		for i := range miles {
			for j := range miles {
				for k := range miles {
					if max(miles[i][j], miles[j][k]) < miles[i][k] {
						t.Fatalf("%s: the detour from %d by %d to %d is narrower", text, i, j, k)
					}
				}
			}
		}
		wantDo(t, o, "metric m", "metric 1")
	}
	if made < 50 {
		t.Errorf("only %d miles", made)
	}
}
