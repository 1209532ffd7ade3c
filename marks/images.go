package marks

import (
	"strings"

	"lampbox/api"
)

// mapped is the number of letters that have an image.
const mapped = 3

// longestFirst is at least the length of the first square-free word whose image is not square-free.
// By Crochemore's theorem, all images of square-free words are square-free if those of the words of k letters are, where
// k is 3, or 1 + (M - 3) / m, rounded up, if that is greater; M and m are the lengths of the longest and the shortest
// image of a letter.
const longestFirst = 1 + api.MaxImage - 3

// images are the images of the letters a, b and c.
type images [mapped]string

// readMap reads a map, and reports whether the list is one.
func readMap(list []string) (images, bool) {
	if len(list) != mapped {
		return images{}, false
	}
	var im images
	for i, image := range list {
		if image == "" || len(image) > api.MaxImage || !isWord(image) {
			return images{}, false
		}
		im[i] = image
	}
	return im, true
}

// isMapped reports whether each letter of a word has an image.
func isMapped(word string) bool {
	return !strings.Contains(word, letters[mapped:])
}

// of returns the image of a word.
func (im images) of(word string) string {
	var image strings.Builder
	for i := range len(word) {
		image.WriteString(im[word[i]-'a'])
	}
	return image.String()
}

// firstBroken returns the first square-free word whose image is not square-free, and reports whether there is one.
func (im images) firstBroken() (string, bool) {
	for n := range longestFirst + 1 {
		for word := range squareFree(n, mapped) {
			if !isSquareFree(im.of(word)) {
				return word, true
			}
		}
	}
	return "", false
}
