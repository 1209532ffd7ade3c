package office

import (
	"strconv"
	"strings"

	"lampbox/api"
)

// longestName is the greatest number of letters of a name.
const longestName = 16

// arguments are those of an act, after its word.
type arguments struct {
	word                string
	name, other, target string // NAME, OTHER and NEW
	numbers             []int
	list                []int
	lists               [][]int
	text                string
}

// readArguments reads the words of an act whose arguments have a form.
func readArguments(form string, words []string) arguments {
	wanted := strings.Split(form, " ")
	demand(len(words) == 1+len(wanted), api.ErrSyntax)
	a := arguments{word: words[0]}
	for i, sort := range wanted {
		a.read(sort, words[1+i])
	}
	return a
}

// read reads an argument, of the sort that the chapter has in capitals.
func (a *arguments) read(sort, text string) {
	switch sort {
	case "NAME":
		a.name = readName(text)
	case "OTHER":
		a.other = readName(text)
	case "NEW":
		a.target = readName(text)
	case "LIST":
		a.list = readList(text)
	case "LISTS":
		a.lists = readLists(text)
	case "TEXT":
		demand(text != "", api.ErrSyntax)
		a.text = text
	default:
		a.numbers = append(a.numbers, readNumber(text))
	}
}

func readName(text string) string {
	demand(len(text) >= 1 && len(text) <= longestName, api.ErrSyntax)
	for i := range len(text) {
		demand(text[i] >= 'a' && text[i] <= 'z', api.ErrSyntax)
	}
	return text
}

// readNumber reads a number text. There is just one for each number: the one by which it is written.
func readNumber(text string) int {
	number, err := strconv.Atoi(text)
	demand(err == nil && strconv.Itoa(number) == text, api.ErrSyntax)
	return number
}

func readList(text string) []int {
	return readAll(text, ",", readNumber)
}

func readLists(text string) [][]int {
	return readAll(text, ";", readList)
}

// readAll reads items with a text between, or none from "-".
func readAll[T any](text, between string, read func(string) T) []T {
	if text == "-" {
		return nil
	}
	var items []T
	for _, item := range strings.Split(text, between) {
		items = append(items, read(item))
	}
	return items
}
