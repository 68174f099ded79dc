package bits

import (
	"strconv"
	"strings"

	"bonehouse/api"
)

// Print returns the text of s.
func Print(s api.Set) string {
	var parts []string
	for _, run := range runs(s) {
		part := strconv.Itoa(run.Lo)
		if run.Hi > run.Lo {
			part += "-" + strconv.Itoa(run.Hi)
		}
		parts = append(parts, part)
	}
	if len(parts) == 0 {
		return "-"
	}
	return strings.Join(parts, ",")
}

// Parse returns the set with the text t; ErrParse if there is none.
func Parse(t string) (api.Set, api.Errno) {
	if t == "-" {
		return api.Set{}, api.OK
	}
	var s api.Set
	least, more := 0, true
	for more {
		var part string
		part, t, more = strings.Cut(t, ",")
		run, is := parseRun(part)
		if !is || run.Lo < least {
			return api.Set{}, api.ErrParse
		}
		for n := run.Lo; n <= run.Hi; n++ {
			s, _ = With(s, n)
		}
		least = run.Hi + 2 // with the number between them both would be one run
	}
	return s, api.OK
}

// runs returns the runs of s, in increasing order.
func runs(s api.Set) []api.Span {
	var l []api.Span
	last := -1
search:
	for {
		first, is := Next(s, last)
		if !is {
			return l
		}
		for last = first; ; last++ {
			if !Has(s, last+1) {
				l = append(l, api.Span{Lo: first, Hi: last})
				continue search
			}
		}
	}
}

// parseRun returns the run with the text t, and whether there is one.
func parseRun(t string) (api.Span, bool) {
	first, last, several := strings.Cut(t, "-")
	lo, is := parseNumber(first)
	if !is || !several {
		return api.Span{Lo: lo, Hi: lo}, is
	}
	hi, is := parseNumber(last)
	return api.Span{Lo: lo, Hi: hi}, is && lo < hi
}

// parseNumber returns the number from 0 to 255 with the text t, and whether there is one.
func parseNumber(t string) (int, bool) {
	n, err := strconv.Atoi(t)
	return n, err == nil && isMember(n) && strconv.Itoa(n) == t
}
