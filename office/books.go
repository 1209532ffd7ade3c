package office

import (
	"slices"
	"strings"

	"lampbox/api"
)

// books are what an office keeps from act to act.
type books struct {
	entries []entry // in the order in which they were made
	log     []string
}

// entry is a file under its name.
type entry struct {
	name string
	file file
}

// at returns the position of a file, or -1.
func (b *books) at(name string) int {
	return slices.IndexFunc(b.entries, func(e entry) bool { return e.name == name })
}

func (b *books) has(name string) bool {
	return b.at(name) >= 0
}

// file returns the file with a name; an act that needs it is wrong if there is none.
func (b *books) file(name string) file {
	demand(b.has(name), api.ErrNone)
	return b.entries[b.at(name)].file
}

func (b *books) isFull() bool {
	return len(b.entries) >= api.MaxFiles
}

func (b *books) add(name string, f file) {
	b.entries = append(b.entries, entry{name, f})
}

func (b *books) remove(name string) {
	at := b.at(name)
	b.entries = slices.Delete(b.entries, at, at+1)
}

func (b *books) names() []string {
	var names []string
	for _, e := range b.entries {
		names = append(names, e.name)
	}
	return names
}

// text returns the lines that make the files.
func (b *books) text() string {
	var lines strings.Builder
	for _, e := range b.entries {
		lines.WriteString(e.file.kind() + " " + e.name + " " + e.file.given() + "\n")
	}
	return lines.String()
}

// note enters a result in the log, from which the oldest one disappears if there are too many.
func (b *books) note(result string) {
	b.log = append(b.log, result)
	if len(b.log) > api.MaxLog {
		b.log = slices.Delete(b.log, 0, 1)
	}
}

func (b *books) results() []string {
	return slices.Clone(b.log)
}
