package vault

import (
	"strings"

	"bonehouse/api"
)

const maxTold = 2000 // lines of a transcript that is checked

const commandHead = "> " // how the line of a command begins

// statements returns what is stated behind the line of a command.
func statements(x reply, err api.Errno) []statement {
	if err != api.OK {
		return []statement{{head: "? ", text: decimal(int(err))}}
	}
	var l []statement
	for _, line := range x.lines {
		l = append(l, statement{head: "< ", text: line})
	}
	return append(l, x.certificates...)
}

// Accept returns ErrTranscript unless text is the transcript of a history; an int tells the first line that is wrong.
func Accept(text string) (int, api.Errno) {
	if len(text) > api.MaxText {
		return 0, api.ErrLimit
	}
	lines := strings.Split(text, "\n")
	loose := lines[len(lines)-1] // what is behind the last line feed
	if loose == "" {
		lines = lines[:len(lines)-1]
	}
	if len(lines) > maxTold {
		return 0, api.ErrLimit
	}
	if at, is := replayAll(lines); !is || loose != "" {
		return at, api.ErrTranscript
	}
	return 0, api.OK
}

// replayAll reports whether lines are the transcript of a history; and the first one with which none begins, or how many lines there are.
func replayAll(lines []string) (int, bool) {
	y := New()
	at := 0
	for at < len(lines) {
		l, is := y.replay(lines[at])
		if !is {
			return at, false
		}
		at++
		for _, s := range l {
			if at == len(lines) || !s.isLine(lines[at]) {
				return at, false
			}
			at++
		}
	}
	return at, true
}

// replay executes the command of a line, and returns what is stated behind it, and whether the line is one of a command that is possible.
func (y *Model) replay(line string) ([]statement, bool) {
	text, is := strings.CutPrefix(line, commandHead)
	if !is {
		return nil, false
	}
	c, is := readCommand(text)
	if !is || !y.isPossible(c) {
		return nil, false
	}
	return statements(c.do(y, c.words)), true
}
