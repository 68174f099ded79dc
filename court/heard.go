package court

import (
	"iter"
	"slices"

	"bonehouse/api"
)

// heard yields the messages of a valid court that are heard, by their numbers.
func heard(c api.Court) iter.Seq[api.Message] {
	return func(yield func(api.Message) bool) {
		from, no, day := 0, 0, 0 // the office, and the No and the least Day of its next message; behind one that is not heard no other one has this No
		for _, m := range c.Log {
			if m.From != from {
				from, no, day = m.From, 0, 0
			}
			if m.No != no || m.Day < day {
				continue
			}
			if !yield(m) {
				return
			}
			no, day = no+1, m.Day
		}
	}
}

// heardWith returns the heard message with a number, and whether there is one of this kind.
func heardWith(c api.Court, no, kind int) (api.Message, bool) {
	for m := range heard(c) {
		if number(m) == no && m.Kind == kind {
			return m, true
		}
	}
	return api.Message{}, false
}

// closed returns the last day of which all messages are known.
func closed(c api.Court) int {
	last := make([]int, c.Offices) // with nothing heard, as with the day 0, no day is closed
	for m := range heard(c) {
		last[m.From] = m.Day
	}
	return slices.Min(last) - 1
}

// record returns the heard messages up to that day, in their order.
func record(c api.Court) []api.Message {
	var l []api.Message
	day := closed(c)
	for m := range heard(c) {
		if m.Day <= day {
			l = append(l, m)
		}
	}
	slices.SortFunc(l, Compare)
	return l
}

// Heard returns the messages of all offices without a gap, by office, then by number.
func Heard(c api.Court) ([]api.Message, api.Errno) {
	if err := Check(c); err != api.OK {
		return nil, err
	}
	return slices.Collect(heard(c)), api.OK
}

// Tally returns how many these are of each office.
func Tally(c api.Court) ([]int, api.Errno) {
	if err := Check(c); err != api.OK {
		return nil, err
	}
	l := make([]int, c.Offices)
	for m := range heard(c) {
		l[m.From]++
	}
	return l, api.OK
}

// Wanted returns the messages that an office with a tally does not have.
func Wanted(c api.Court, have []int) ([]api.Message, api.Errno) {
	if err := Check(c); err != api.OK {
		return nil, err
	}
	if len(have) != c.Offices || !areTallies(have) {
		return nil, api.ErrArg
	}
	var l []api.Message
	for m := range heard(c) {
		if m.No >= have[m.From] {
			l = append(l, m)
		}
	}
	return l, api.OK
}

// areTallies reports whether offices can have so many messages.
func areTallies(l []int) bool {
	return !slices.ContainsFunc(l, func(n int) bool { return !isFromTo(n, 0, api.MaxEntries) })
}

// Closed returns the last day of which all messages are known; -1 if there is none.
func Closed(c api.Court) (int, api.Errno) {
	if err := Check(c); err != api.OK {
		return 0, err
	}
	return closed(c), api.OK
}

// Record returns the messages up to that day, in their order.
func Record(c api.Court) ([]api.Message, api.Errno) {
	if err := Check(c); err != api.OK {
		return nil, err
	}
	return record(c), api.OK
}

// Same reports whether two courts have heard the same.
func Same(a, b api.Court) (bool, api.Errno) {
	if err := checkBoth(a, b); err != api.OK {
		return false, err
	}
	return isSameCase(a, b) && slices.Equal(slices.Collect(heard(a)), slices.Collect(heard(b))), api.OK
}
