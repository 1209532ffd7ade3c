package office

import (
	"strconv"
	"strings"

	"lampbox/api"
)

// answer returns what a question says: its word and parts. The question is wrong if the function that it asks has an error.
func (a arguments) answer(err api.Errno, parts ...string) string {
	expect(err)
	return a.word + " " + strings.Join(parts, " ")
}

func writeNumber(number int) string {
	return strconv.Itoa(number)
}

func writeTruth(truth bool) string {
	if truth {
		return "1"
	}
	return "0"
}

func writeFraction(f api.Frac) string {
	return writeNumber(f.Num) + "/" + writeNumber(f.Den)
}

// writeWord returns a word of a machine, which may be empty.
func writeWord(word string) string {
	if word == "" {
		return "-"
	}
	return word
}

func writeList(list []int) string {
	return writeAll(list, ",", writeNumber)
}

func writeLists(lists [][]int) string {
	return writeAll(lists, ";", writeList)
}

// writeAll writes items with a text between, or "-" if there are none.
func writeAll[T any](items []T, between string, write func(T) string) string {
	if len(items) == 0 {
		return "-"
	}
	var texts []string
	for _, item := range items {
		texts = append(texts, write(item))
	}
	return strings.Join(texts, between)
}
