package vault

import (
	"strings"

	"bonehouse/api"
	"bonehouse/court"
	"bonehouse/finds"
	"bonehouse/rules"
)

const maxForm = 2300 // bytes of a form

// untie is a form: the reviewed tie with this number is taken back.
type untie struct{ no int }

// reader reads a form: an api.Event, an api.Rule, an api.Tie, an untie or an api.Message, without its number and its day.
type reader func(text string) (any, bool)

// readers returns what reads forms, by their first words.
func readers() map[string]reader {
	return map[string]reader{
		"enter": readEvent, "join": readEvent, "split": readEvent, "measure": readEvent, "date": readEvent, "assign": readEvent, "withdraw": readEvent,
		"rule": readRule, "gone": readRule,
		"tie": readTie, "untie": readUntie,
		"keep": readMessage, "claim": readMessage, "object": readMessage, "sample": readMessage, "drop": readMessage, "lease": readMessage, "give": readMessage, "bury": readMessage,
	}
}

// readForm returns the form with a text, and whether there is one.
func readForm(text string) (any, bool) {
	if len(text) > maxForm {
		return nil, false
	}
	first, _, _ := strings.Cut(text, " ")
	for word, read := range readers() {
		if word == first {
			return read(text)
		}
	}
	return nil, false
}

// readEvent reads an event of finds.
func readEvent(text string) (any, bool) {
	word, rest, _ := strings.Cut(text, " ")
	e, err := finds.ParseEvent(word + " 0 0 " + rest)
	return e, err == api.OK
}

// readRule reads a rule.
func readRule(text string) (any, bool) {
	word, rest, _ := strings.Cut(text, " ")
	name, rest, _ := strings.Cut(rest, " ")
	r, err := rules.ParseRule(word + " 0 " + name + " 0 " + rest)
	return r, err == api.OK && r.Name <= maxRuleName
}

// readTie reads a reviewed tie, of finds.
func readTie(text string) (any, bool) {
	x, is := match("tie NO FIND FIND KIND STRENGTH REVIEWER", text)
	if !is {
		return nil, false
	}
	n := x.numbers
	return api.Tie{A: n[1], B: n[2], Kind: n[3], Strength: n[4], Source: n[0]}, n[1] != n[2]
}

// readUntie reads that a reviewed tie is taken back.
func readUntie(text string) (any, bool) {
	x, is := match("untie NO", text)
	if !is {
		return nil, false
	}
	return untie{x.numbers[0]}, true
}

// readMessage reads a message of the court.
func readMessage(text string) (any, bool) {
	m, err := court.Parse("0 0 0 " + text)
	return m, err == api.OK
}
