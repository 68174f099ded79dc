package court

import (
	"strconv"
	"strings"

	"bonehouse/api"
)

const (
	headWords = 4             // of a text: From, No, Day and the word of the kind
	maxWords  = headWords + 3 // of any text: no kind names more fields
)

// Print returns the text of m, a line without its end.
func Print(m api.Message) (string, api.Errno) {
	if err := CheckMessage(m); err != api.OK {
		return "", err
	}
	k, x := kindOf(m.Kind), fieldsOf(m)
	words := []string{strconv.Itoa(m.From), strconv.Itoa(m.No), strconv.Itoa(m.Day), k.word}
	for i, most := range k.most {
		if most > 0 {
			words = append(words, strconv.Itoa(x[i]))
		}
	}
	return strings.Join(words, " "), api.OK
}

// Parse returns the message with the text s; ErrParse if there is none.
func Parse(s string) (api.Message, api.Errno) {
	m := read(s)
	if text, err := Print(m); err != api.OK || text != s {
		return api.Message{}, api.ErrParse
	}
	return m, api.OK
}

// read reads a message. Of a text of none it may read another one, or one that is not valid: that Parse tells by what it prints.
func read(s string) api.Message {
	words := strings.SplitN(s, " ", maxWords)
	if len(words) < headWords {
		return api.Message{}
	}
	m := api.Message{From: decimal(words[0]), No: decimal(words[1]), Day: decimal(words[2]), Kind: kindWith(words[3])}
	rest := words[headWords:]
	places := []*int{&m.Claim, &m.Find, &m.Family, &m.Grave, &m.Value}
	for i, most := range kindOf(m.Kind).most {
		if most > 0 && len(rest) > 0 {
			*places[i] = decimal(rest[0])
			rest = rest[1:]
		}
	}
	return m
}

// decimal returns the number that is a word; of another word some number, whose text is not this word.
func decimal(word string) int {
	n, _ := strconv.Atoi(word)
	return n
}

// kindWith returns the number of the kind with a word; 0 if there is none.
func kindWith(word string) int {
	for n := api.KeepM; n <= api.BuryM; n++ {
		if kindOf(n).word == word {
			return n
		}
	}
	return 0
}
