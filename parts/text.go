package parts

import (
	"strconv"
	"strings"

	"bonehouse/api"
)

// Print returns the text of a partition.
func Print(l []int) (string, api.Errno) {
	if err := Check(l); err != api.OK {
		return "", err
	}
	var words []string
	for _, person := range l {
		words = append(words, strconv.Itoa(person))
	}
	return strings.Join(words, " "), api.OK
}

// Parse returns the partition with the text s; ErrParse if there is none.
func Parse(s string) ([]int, api.Errno) {
	var l []int
	for _, word := range strings.SplitN(s, " ", api.MaxNodes) {
		// Whatever a word is taken for that is no number, or several, it has another text.
		person, _ := strconv.Atoi(word)
		l = append(l, person)
	}
	if text, err := Print(l); err != api.OK || text != s {
		return nil, api.ErrParse
	}
	return l, api.OK
}
