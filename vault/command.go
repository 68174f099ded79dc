package vault

import "bonehouse/api"

// command is a command that was read.
type command struct {
	pattern string
	do      deed
	words
}

// deed is what a command does. With an error it prints nothing.
type deed func(y *Model, x words) (reply, api.Errno)

// reply is what a command prints, with the certificates of that.
type reply struct {
	lines        []string
	certificates []statement
}

// prints returns the reply of one line.
func prints(line string) reply { return reply{lines: []string{line}} }

// tells returns the reply of a line of numbers, unless there is an error.
func tells(err api.Errno, l ...int) (reply, api.Errno) {
	if err != api.OK {
		return reply{}, err
	}
	return prints(lineOf(l...)), api.OK
}

// lineOf returns the line of numbers.
func lineOf(l ...int) string { return joined(l, " ") }

// The patterns of commands that are not possible as the others are.
const (
	beginPattern = "begin OFFICES TERM TERM TERM"
	sendPattern  = "send P Q PATTERN"
	talkPattern  = "talk P Q"
	openPattern  = "open P KEEP"
)

// commands returns what commands do, by their patterns.
func commands() map[string]deed {
	return map[string]deed{
		beginPattern:                   (*Model).begin,
		"day DAYS":                     (*Model).pass,
		"write P FORM":                 (*Model).write,
		sendPattern:                    (*Model).send,
		talkPattern:                    (*Model).talk,
		"sendall":                      (*Model).sendAll,
		"crash P CALLS":                (*Model).crash,
		openPattern:                    (*Model).open,
		"compact P":                    (*Model).compact,
		"refused P":                    (*Model).refused,
		"finds P":                      (*Model).finds,
		"strength P":                   (*Model).strength,
		"least P":                      (*Model).least,
		"repeat P":                     (*Model).repeat,
		"relate P FIND FIND MOST":      (*Model).relate,
		"plan P FIND FIND MOST TRIALS": (*Model).plan,
		"claims P":                     (*Model).claims,
		"rulings P":                    (*Model).rulings,
		"buried P":                     (*Model).buried,
		"agree P Q":                    (*Model).agree,
	}
}

// readCommand returns the command that a line is, and whether it is one. No line fits two patterns: they differ in their first words.
func readCommand(line string) (command, bool) {
	for pattern, do := range commands() {
		if x, is := match(pattern, line); is {
			return command{pattern, do, x}, true
		}
	}
	return command{}, false
}

// isPossible reports whether c can be executed now.
func (y *Model) isPossible(c command) bool {
	hasBegun := len(y.offices) > 0
	if hasBegun == (c.pattern == beginPattern) {
		return false
	}
	for _, p := range c.offices {
		if p >= len(y.offices) || c.pattern != openPattern && !y.offices[p].isOpen() {
			return false
		}
	}
	needsTwo := c.pattern == sendPattern || c.pattern == talkPattern
	return !needsTwo || c.offices[0] != c.offices[1]
}
