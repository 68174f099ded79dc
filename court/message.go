package court

import (
	"slices"

	"bonehouse/api"
)

const numbers = api.MaxOffices * api.MaxEntries // of messages, from 0 on

// fields is those fields of a message that its kind is about.
type fields [5]int

// The places of these fields, in the order of a text.
const (
	claimField = iota
	findField
	familyField
	graveField
	valueField
)

// fieldsOf returns these fields of m.
func fieldsOf(m api.Message) fields { return fields{m.Claim, m.Find, m.Family, m.Grave, m.Value} }

// kind is a kind of messages: its word, and the most that a field can be; one that it does not name is 0.
type kind struct {
	word string
	most fields
}

// kindOf returns the kind with a number; one without a word if there is none.
func kindOf(n int) kind {
	const about, no = numbers - 1, api.MaxNo
	switch n {
	case api.KeepM:
		return kind{"keep", fields{}}
	case api.ClaimM:
		return kind{"claim", fields{findField: no, familyField: no}}
	case api.ObjectM:
		return kind{"object", fields{claimField: about, familyField: no}}
	case api.SampleM:
		return kind{"sample", fields{claimField: about, familyField: no, valueField: api.MaxStrength}}
	case api.DropM:
		return kind{"drop", fields{claimField: about, familyField: no}}
	case api.LeaseM:
		return kind{"lease", fields{findField: no, graveField: no}}
	case api.GiveM:
		return kind{"give", fields{claimField: about}}
	case api.BuryM:
		return kind{"bury", fields{claimField: about}}
	}
	return kind{}
}

// CheckMessage returns ErrMessage unless m is valid.
func CheckMessage(m api.Message) api.Errno {
	k := kindOf(m.Kind)
	if k.word == "" || !isFromTo(m.From, 0, api.MaxOffices-1) || !isFromTo(m.No, 0, api.MaxEntries-1) || !isDay(m.Day) {
		return api.ErrMessage
	}
	for i, n := range fieldsOf(m) {
		if !isFromTo(n, 0, k.most[i]) {
			return api.ErrMessage
		}
	}
	return api.OK
}

// isOf reports whether m is a valid message of one of so many offices.
func isOf(m api.Message, offices int) bool { return CheckMessage(m) == api.OK && m.From < offices }

// number returns the number of a valid message.
func number(m api.Message) int { return api.MaxEntries*m.From + m.No }

// isNumber reports whether a message can have the number n.
func isNumber(n int) bool { return isFromTo(n, 0, numbers-1) }

// Number returns the number of a message among those of all offices.
func Number(m api.Message) (int, api.Errno) {
	if err := CheckMessage(m); err != api.OK {
		return 0, err
	}
	return number(m), api.OK
}

// Compare compares messages as they are ordered in a record.
func Compare(a, b api.Message) int {
	k, l := keyOf(a), keyOf(b)
	return slices.Compare(k[:], l[:])
}

// keyOf returns all fields of m, in the order in which messages are compared by them.
func keyOf(m api.Message) [9]int {
	return [9]int{m.Day, m.From, m.No, m.Kind, m.Claim, m.Find, m.Family, m.Grave, m.Value}
}
