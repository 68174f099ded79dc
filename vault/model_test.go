package vault_test

import (
	"fmt"
	"regexp"
	"slices"
	"strconv"
	"strings"
	"testing"

	"bonehouse/api"
	"bonehouse/count"
	"bonehouse/court"
	"bonehouse/finds"
	"bonehouse/journal"
	"bonehouse/rules"
	"bonehouse/vault"
)

// noise is a row of numbers that is the same in each run.
type noise uint64

func (x *noise) next() uint64 {
	*x += 0x9e3779b97f4a7c15
	z := uint64(*x)
	z = (z ^ z>>30) * 0xbf58476d1ce4e5b9
	z = (z ^ z>>27) * 0x94d049bb133111eb
	return z ^ z>>31
}

// below returns a number from 0 to n - 1.
func (x *noise) below(n int) int { return int(x.next() % uint64(n)) }

// from returns a number from lo to hi.
func (x *noise) from(lo, hi int) int { return lo + x.below(hi-lo+1) }

// one returns an element of a list.
func one[T any](x *noise, l ...T) T { return l[x.below(len(l))] }

// numberForm is the form of numbers.
var numberForm = regexp.MustCompile(`^(0|[1-9][0-9]*)$`)

// isNumber reports whether a word is a number from lo to hi.
func isNumber(word string, lo, hi int) bool {
	n, err := strconv.Atoi(word)
	return numberForm.MatchString(word) && err == nil && lo <= n && n <= hi
}

// areNumbers reports whether words are as many numbers, from 0 to the given ones.
func areNumbers(l []string, most ...int) bool {
	for i, word := range l {
		if i >= len(most) || !isNumber(word, 0, most[i]) {
			return false
		}
	}
	return len(l) == len(most)
}

// behind returns a text with words put behind its first n words.
func behind(text string, n int, words ...string) string {
	l := strings.Split(text, " ")
	return strings.Join(slices.Insert(l, min(n, len(l)), words...), " ")
}

// The three kinds of forms that layers below know: with a number and a day that are as good as any.

func eventOf(form string) (api.Event, bool) {
	e, err := finds.ParseEvent(behind(form, 1, "0", "77"))
	return e, err == api.OK
}

func ruleOf(form string) (api.Rule, bool) {
	r, err := rules.ParseRule(behind(behind(form, 2, "77"), 1, "0"))
	return r, err == api.OK && r.Name < 2048
}

func messageOf(form string) (api.Message, bool) {
	m, err := court.Parse("1 2 77 " + form)
	return m, err == api.OK
}

// isForm reports whether a text is a form, by the chapter's words.
func isForm(text string) bool {
	if len(text) > 2300 {
		return false
	}
	w := strings.Split(text, " ")
	switch w[0] {
	case "tie":
		return len(w) == 7 && isNumber(w[1], 2048, 4095) && areNumbers(w[2:4], 4095, 4095) && w[2] != w[3] && (w[4] == "apart" || w[4] == "together") && isNumber(w[5], 1, 100) && isNumber(w[6], 0, 4095)
	case "untie":
		return len(w) == 2 && isNumber(w[1], 2048, 4095)
	}
	_, isEvent := eventOf(text)
	_, isRule := ruleOf(text)
	_, isMessage := messageOf(text)
	return isEvent || isRule || isMessage
}

// isCommand reports whether a line is a command, by the chapter's words.
func isCommand(line string) bool {
	w := strings.Split(line, " ")
	rest := w[1:]
	switch w[0] {
	case "begin":
		return len(rest) == 4 && isNumber(rest[0], 1, 8) && isNumber(rest[1], 1, 1000) && isNumber(rest[2], 1, 1000) && isNumber(rest[3], 1, 1000)
	case "day":
		return len(rest) == 1 && isNumber(rest[0], 1, 1048576)
	case "write":
		return len(rest) > 1 && isNumber(rest[0], 0, 7) && isForm(strings.Join(rest[1:], " "))
	case "send":
		return len(rest) == 3 && areNumbers(rest[:2], 7, 7) && regexp.MustCompile(`^[0-3]+$`).MatchString(rest[2])
	case "talk", "agree":
		return areNumbers(rest, 7, 7)
	case "sendall":
		return len(rest) == 0
	case "crash":
		return len(rest) == 2 && isNumber(rest[0], 0, 7) && isNumber(rest[1], 1, 1000)
	case "open":
		return len(rest) == 2 && isNumber(rest[0], 0, 7) && regexp.MustCompile(`^[0-9]+$`).MatchString(rest[1])
	case "compact", "refused", "finds", "strength", "least", "repeat", "claims", "rulings", "buried":
		return areNumbers(rest, 7)
	case "relate":
		return areNumbers(rest, 7, 4095, 4095, 32)
	case "plan":
		if len(rest) < 5 || len(rest) > 12 || !areNumbers(rest[:4], 7, 4095, 4095, 32) {
			return false
		}
		for _, trial := range rest[4:] {
			if !areNumbers(strings.Split(trial, "/"), 4095, 4095, 10000) {
				return false
			}
		}
		return true
	}
	return false
}

// paper is a model by the chapter's words.
type paper struct {
	day    int
	terms  api.Terms
	disks  []*journal.Disk
	books  []*journal.Book
	isOpen []bool
	// What was made of books so far, by what is in these.
	scraps map[string]scrap
	graphs map[string]api.Graph
}

// isPossible reports whether a command can be executed, by its words.
func (p *paper) isPossible(w []string) bool {
	if len(p.books) == 0 || w[0] == "begin" {
		return len(p.books) == 0 && w[0] == "begin"
	}
	var named []int
	switch w[0] {
	case "day", "sendall":
	case "send", "talk", "agree":
		named = []int{at(w[1]), at(w[2])}
	default:
		named = []int{at(w[1])}
	}
	for _, office := range named {
		if office >= len(p.books) || w[0] != "open" && !p.isOpen[office] {
			return false
		}
	}
	return w[0] != "send" && w[0] != "talk" || w[1] != w[2]
}

// at returns the number that a word is.
func at(word string) int {
	n, err := strconv.Atoi(word)
	if err != nil {
		panic(word)
	}
	return n
}

// do executes a line.
func (p *paper) do(line string) (string, api.Errno) {
	if !isCommand(line) {
		return "", api.ErrCommand
	}
	w := strings.Split(line, " ")
	if !p.isPossible(w) {
		return "", api.ErrNotNow
	}
	out, err := p.execute(w)
	for i, d := range p.disks {
		p.isOpen[i] = p.isOpen[i] && d.Up()
	}
	if err != api.OK {
		return "", err
	}
	return out, api.OK
}

// execute executes a command that is possible.
func (p *paper) execute(w []string) (string, api.Errno) {
	switch w[0] {
	case "begin":
		p.terms = api.Terms{Notice: at(w[2]), Sampling: at(w[3]), Lease: at(w[4])}
		for range at(w[1]) {
			d, _ := journal.NewDisk(1024)
			b, _ := journal.Make(d, at(w[1]))
			p.disks, p.books, p.isOpen = append(p.disks, d), append(p.books, b), append(p.isOpen, true)
		}
		return "", api.OK
	case "day":
		if p.day+at(w[1]) > 1048576 {
			return "", api.ErrArg
		}
		p.day += at(w[1])
		return strconv.Itoa(p.day), api.OK
	case "write":
		return p.write(at(w[1]), strings.Join(w[2:], " "))
	case "send":
		n, err := p.send(at(w[1]), at(w[2]), w[3])
		return strconv.Itoa(n), err
	case "talk":
		return p.talk(p.books[at(w[1])], p.books[at(w[2])])
	case "sendall":
		return p.sendAll()
	case "crash":
		p.disks[at(w[1])].Arm(at(w[2]))
		return "", api.OK
	case "open":
		var keep []byte
		for _, digit := range w[2] {
			keep = append(keep, byte(digit-'0')*8)
		}
		p.disks[at(w[1])].Restart(string(keep))
		b, err := journal.Open(p.disks[at(w[1])])
		p.books[at(w[1])], p.isOpen[at(w[1])] = b, err == api.OK
		return "", err
	case "compact":
		n, err := p.books[at(w[1])].Compact()
		return strconv.Itoa(n), err
	}
	return p.tell(w)
}

// write has an office write.
func (p *paper) write(office int, form string) (string, api.Errno) {
	if m, is := messageOf(form); is {
		if _, _, err := court.Say(p.court(office), m); err != api.OK {
			return "", err
		}
	}
	no := p.books[office].Tally().Have[office]
	err := p.books[office].Add(api.Entry{Office: office, No: no, Body: fmt.Sprint(p.day, " ", form)})
	return fmt.Sprintf("%d.%d", office, no), err
}

// send has an office send another one what it lacks.
func (p *paper) send(from, to int, pattern string) (int, api.Errno) {
	wanted, err := p.books[from].Wanted(p.books[to].Tally())
	if err != api.OK {
		return 0, err
	}
	var come []api.Entry
	for i, e := range wanted {
		for range map[byte]int{'1': 1, '2': 2}[pattern[i%len(pattern)]] {
			come = append(come, e)
		}
	}
	for i, e := range wanted {
		if pattern[i%len(pattern)] == '3' {
			come = append(come, e)
		}
	}
	return p.books[to].Take(come)
}

// talk is a dialogue.
func (p *paper) talk(a, b *journal.Book) (string, api.Errno) {
	books := []*journal.Book{a, b}
	sent := make([][]api.Entry, 2) // to these
	asks := a.Begin()
	for turn := 1; len(asks) > 0; turn = 1 - turn {
		next, l, err := books[turn].Answer(asks)
		if err != api.OK {
			return "", err
		}
		asks = next
		sent[1-turn] = append(sent[1-turn], l...)
	}
	n, err := b.Take(sent[1])
	if err != api.OK {
		return "", err
	}
	m, err := a.Take(sent[0])
	return fmt.Sprint(m, n), err
}

// sendAll has all send all.
func (p *paper) sendAll() (string, api.Errno) {
	all := 0
	for again := true; again; {
		again = false
		for from := range p.books {
			for to := range p.books {
				if from == to || !p.isOpen[from] || !p.isOpen[to] {
					continue
				}
				n, err := p.send(from, to, "1")
				if err != api.OK {
					return "", err
				}
				all += n
				again = again || n > 0
			}
		}
	}
	return strconv.Itoa(all), api.OK
}

// scrap is what an office makes of its book.
type scrap struct {
	register api.Register
	code     api.Code
	ties     []api.Tie // reviewed
	refused  int
}

// scrap returns what an office makes of its book.
func (p *paper) scrap(office int) scrap {
	l := p.books[office].All()
	key := fmt.Sprint(l)
	s, is := p.scraps[key]
	if !is {
		s = scrapOf(l)
		if p.scraps == nil {
			p.scraps = map[string]scrap{}
		}
		p.scraps[key] = s
	}
	return s
}

// scrapOf returns what entries make: all that would not do is left out.
func scrapOf(l []api.Entry) scrap {
	day := func(e api.Entry) int { return at(strings.SplitN(e.Body, " ", 2)[0]) }
	slices.SortFunc(l, func(a, b api.Entry) int {
		return slices.Compare([]int{day(a), a.Office, a.No}, []int{day(b), b.Office, b.No})
	})
	var s scrap
	gone := map[int]bool{}
	for _, e := range l {
		form := strings.SplitN(e.Body, " ", 2)[1]
		w := strings.Split(form, " ")
		if x, is := eventOf(form); is {
			x.No, x.Known = len(s.register.Events), day(e)
			longer := api.Register{Events: append(slices.Clone(s.register.Events), x)}
			if finds.Check(longer) == api.OK {
				s.register = longer
			} else {
				s.refused++
			}
		} else if x, is := ruleOf(form); is {
			x.No, x.Known = len(s.code.Rules), day(e)
			longer := api.Code{Rules: append(slices.Clone(s.code.Rules), x)}
			if rules.CheckCode(longer) == api.OK {
				s.code = longer
			} else {
				s.refused++
			}
		} else if w[0] == "tie" || w[0] == "untie" {
			no := at(w[1])
			i := slices.IndexFunc(s.ties, func(t api.Tie) bool { return t.Source == no })
			switch {
			case w[0] == "tie" && i < 0 && !gone[no]:
				kind := map[string]int{"apart": api.ApartT, "together": api.TogetherT}[w[4]]
				s.ties = append(s.ties, api.Tie{A: at(w[2]), B: at(w[3]), Kind: kind, Strength: at(w[5]), Source: no})
			case w[0] == "untie" && i >= 0:
				gone[no] = true
				s.ties = slices.Delete(s.ties, i, i+1)
			default:
				s.refused++
			}
		}
	}
	slices.SortFunc(s.ties, func(a, b api.Tie) int { return a.Source - b.Source })
	return s
}

// court returns the court of an office.
func (p *paper) court(office int) api.Court {
	c := api.Court{Offices: len(p.books), Me: office, Day: p.day, Terms: p.terms}
	for _, e := range p.books[office].All() {
		w := strings.SplitN(e.Body, " ", 2)
		m, is := messageOf(w[1])
		if !is {
			m = api.Message{Kind: api.KeepM}
		}
		m.From, m.No, m.Day = e.Office, e.No, at(w[0])
		c.Log = append(c.Log, m)
	}
	return c
}

// finds returns the finds that stand.
func (p *paper) finds(office int) []api.Find {
	l, err := finds.Standing(p.scrap(office).register, p.day)
	if err != api.OK {
		panic(err)
	}
	return l
}

// nodes returns, for each find that has one, its node: a find that stands and all its parts have one.
func (p *paper) nodes(office int) map[int]int {
	nodes := map[int]int{}
	r := p.scrap(office).register
	for i, f := range p.finds(office) {
		for l := []int{f.No}; len(l) > 0; l = l[1:] {
			nodes[l[0]] = i
			if two, made, _ := finds.Parts(r, l[0], p.day); made {
				l = append(l, two[:]...)
			}
		}
	}
	return nodes
}

// whole returns the whole graph of an office.
func (p *paper) whole(office int) (api.Graph, api.Errno) {
	key := fmt.Sprint(p.day, p.books[office].All())
	if g, is := p.graphs[key]; is {
		return g, api.OK
	}
	g, err := p.draw(office)
	if err == api.OK {
		if p.graphs == nil {
			p.graphs = map[string]api.Graph{}
		}
		p.graphs[key] = g
	}
	return g, err
}

// draw returns the whole graph of an office, unless it has no finds, or too many.
func (p *paper) draw(office int) (api.Graph, api.Errno) {
	s, l, nodes := p.scrap(office), p.finds(office), p.nodes(office)
	if len(l) == 0 {
		return api.Graph{}, api.ErrNone
	}
	if len(l) > 32 {
		return api.Graph{}, api.ErrLimit
	}
	g := api.Graph{Nodes: len(l)}
	for i := range l {
		for k := i + 1; k < len(l); k++ {
			said, _ := rules.Says(s.code, l[i], l[k], p.day, p.day)
			for _, no := range said {
				r := s.code.Rules[no]
				g.Ties = append(g.Ties, api.Tie{A: i, B: k, Kind: r.Effect, Strength: r.Strength, Source: r.Name})
			}
		}
	}
	for _, t := range s.ties {
		a, isA := nodes[t.A]
		b, isB := nodes[t.B]
		if isA && isB && a != b {
			t.A, t.B = a, b
			g.Ties = append(g.Ties, t)
		}
	}
	if len(g.Ties) > 512 {
		return api.Graph{}, api.ErrLimit
	}
	return g, api.OK
}

// strongest returns the graph that counts, and how strong its ties are at least: the least number with which it allows a partition.
func strongest(g api.Graph) (api.Graph, int) {
	for n := 1; ; n++ {
		h := api.Graph{Nodes: g.Nodes}
		for _, t := range g.Ties {
			if t.Strength >= n {
				h.Ties = append(h.Ties, t)
			}
		}
		if isSound(h) {
			return h, n
		}
	}
}

// isSound reports whether a graph does not contradict itself: with joined nodes marked alike no cut is between equal marks.
func isSound(g api.Graph) bool {
	mark := make([]int, g.Nodes)
	for n := range mark {
		mark[n] = n
	}
	for range g.Nodes {
		for _, t := range g.Ties {
			if t.Kind == api.TogetherT {
				least := min(mark[t.A], mark[t.B])
				mark[t.A], mark[t.B] = least, least
			}
		}
	}
	return !slices.ContainsFunc(g.Ties, func(t api.Tie) bool { return t.Kind == api.ApartT && mark[t.A] == mark[t.B] })
}

// allParted returns all partitions in normal form that a graph allows, for at most so many people (0: any number), in order.
func allParted(g api.Graph, most int) [][]int {
	var all [][]int
	var give func(l []int, people int)
	give = func(l []int, people int) {
		for _, t := range g.Ties {
			if max(t.A, t.B) == len(l)-1 && (l[t.A] == l[t.B]) != (t.Kind == api.TogetherT) {
				return
			}
		}
		if most > 0 && people > most {
			return
		}
		if len(l) == g.Nodes {
			all = append(all, slices.Clone(l))
			return
		}
		for person := range people + 1 {
			give(append(l, person), max(people, person+1))
		}
	}
	give(nil, 0)
	return all
}

// peopleOf returns how many people a partition in normal form has.
func peopleOf(l []int) int { return slices.Max(l) + 1 }

// leastOf returns the least number of people, and whether so many nodes are all of different people in all partitions.
func leastOf(g api.Graph) (int, bool) {
	all := allParted(g, 0)
	least := g.Nodes
	for _, l := range all {
		least = min(least, peopleOf(l))
	}
	areApart := func(a, b int) bool {
		return !slices.ContainsFunc(all, func(l []int) bool { return l[a] == l[b] })
	}
	for nodes := range 1 << g.Nodes {
		var clique []int
		for n := range g.Nodes {
			if nodes>>n&1 == 1 && !slices.ContainsFunc(clique, func(m int) bool { return !areApart(m, n) }) {
				clique = append(clique, n)
			}
		}
		if len(clique) == least {
			return least, true
		}
	}
	return least, false
}

// costOf returns what it costs at least to decide a claim in some worlds with some trials, whose outcomes are by worlds; -1 if it cannot be decided.
func costOf(claim []bool, worlds []int, outcomes [][]bool, costs []int) int {
	if !slices.ContainsFunc(worlds, func(i int) bool { return claim[i] != claim[worlds[0]] }) {
		return 0
	}
	least := -1
	for n := range outcomes {
		var yes, no []int
		for _, i := range worlds {
			if outcomes[n][i] {
				yes = append(yes, i)
			} else {
				no = append(no, i)
			}
		}
		if len(yes) == 0 || len(no) == 0 {
			continue
		}
		x, y := costOf(claim, yes, outcomes, costs), costOf(claim, no, outcomes, costs)
		if cost := costs[n] + max(x, y); x >= 0 && y >= 0 && (least < 0 || cost < least) {
			least = cost
		}
	}
	return least
}

// tell answers a question.
func (p *paper) tell(w []string) (string, api.Errno) {
	office := at(w[1])
	var lines []string
	switch w[0] {
	case "refused":
		return strconv.Itoa(p.scrap(office).refused), api.OK
	case "finds":
		var l []any
		for _, f := range p.finds(office) {
			l = append(l, f.No)
		}
		return strings.TrimSpace(fmt.Sprintln(l...)), api.OK
	case "claims":
		c := p.court(office)
		l, _ := court.Claims(c)
		for _, x := range l {
			state, day, _ := court.Status(c, x.No)
			lines = append(lines, fmt.Sprint(x.No, state, day))
		}
	case "rulings":
		l, _ := court.Rulings(p.court(office))
		for _, x := range l {
			lines = append(lines, fmt.Sprint(x.Claim, x.Day, x.Find, x.Family))
		}
	case "buried":
		l, _ := court.Buried(p.court(office))
		for _, x := range l {
			lines = append(lines, fmt.Sprint(x.Find, x.Grave, x.Lease, x.Day))
		}
	case "agree":
		other := at(w[2])
		same, _ := court.Same(p.court(office), p.court(other))
		if same && fmt.Sprint(p.scrap(office).register, p.scrap(office).code, p.scrap(office).ties) == fmt.Sprint(p.scrap(other).register, p.scrap(other).code, p.scrap(other).ties) {
			return "yes", api.OK
		}
		return "no", api.OK
	default:
		return p.ask(w)
	}
	return strings.Join(lines, "\n"), api.OK
}

// ask answers a question about the finds.
func (p *paper) ask(w []string) (string, api.Errno) {
	office := at(w[1])
	g, err := p.whole(office)
	if w[0] == "repeat" && len(p.finds(office)) > 0 && len(p.finds(office)) <= 32 {
		return repeatOf(p.finds(office)), api.OK
	}
	if err != api.OK {
		return "", err
	}
	g, strength := strongest(g)
	switch w[0] {
	case "strength":
		return strconv.Itoa(strength), api.OK
	case "least":
		least, sharp := leastOf(g)
		return strings.TrimSpace(fmt.Sprint(least, map[bool]string{true: " sharp"}[sharp])), api.OK
	}
	nodes := p.nodes(office)
	a, isA := nodes[at(w[2])]
	b, isB := nodes[at(w[3])]
	if !isA || !isB {
		return "", api.ErrNone
	}
	var trials [][3]int
	for _, word := range w[min(5, len(w)):] {
		l := strings.Split(word, "/")
		u, isU := nodes[at(l[0])]
		v, isV := nodes[at(l[1])]
		if !isU || !isV {
			return "", api.ErrNone
		}
		trials = append(trials, [3]int{u, v, at(l[2])})
	}
	all := allParted(g, at(w[4]))
	if len(all) == 0 {
		return "", api.ErrNone
	}
	if w[0] == "relate" {
		return relationOf(all, a, b), api.OK
	}
	if len(all) > 12 {
		return "", api.ErrLimit
	}
	return planOf(all, a, b, trials), api.OK
}

// repeatOf returns the element and the zone of which there are the most, and how many people have it.
func repeatOf(l []api.Find) string {
	best, lo := "", 0
	for element := range 32 {
		for zone := range 16 {
			if s, _ := count.Repeat(l, element, zone); s.Lo > lo {
				best, lo = fmt.Sprint(element, zone, s.Lo, s.Hi), s.Lo
			}
		}
	}
	return best
}

// relationOf returns how two nodes are related over partitions.
func relationOf(all [][]int, a, b int) string {
	n := 0
	for _, l := range all {
		if l[a] == l[b] {
			n++
		}
	}
	switch n {
	case 0:
		return "never"
	case len(all):
		return "surely"
	}
	return "possibly"
}

// planOf returns what it costs to find out whether two nodes are of one person.
func planOf(all [][]int, a, b int, trials [][3]int) string {
	var claim []bool
	var worlds []int
	for i, l := range all {
		claim, worlds = append(claim, l[a] == l[b]), append(worlds, i)
	}
	var outcomes [][]bool
	var costs []int
	for _, t := range trials {
		var outcome []bool
		for _, l := range all {
			outcome = append(outcome, l[t[0]] == l[t[1]])
		}
		outcomes, costs = append(outcomes, outcome), append(costs, t[2])
	}
	if cost := costOf(claim, worlds, outcomes, costs); cost >= 0 {
		return strconv.Itoa(cost)
	}
	return "none"
}

// do does lines that have to return OK, and returns the last output.
func do(t *testing.T, y *vault.Model, l ...string) string {
	t.Helper()
	out := ""
	for _, line := range l {
		x, err := y.Do(line)
		if err != api.OK {
			t.Fatal(line, err)
		}
		out = x
	}
	return out
}

// prints does a line that has to print this.
func prints(t *testing.T, y *vault.Model, line, want string) {
	t.Helper()
	if out, err := y.Do(line); out != want || err != api.OK {
		t.Errorf("%s: %q %d, not %q", line, out, err, want)
	}
}

// fails does a line that has to return an error.
func fails(t *testing.T, y *vault.Model, line string, want api.Errno) {
	t.Helper()
	if out, err := y.Do(line); out != "" || err != want {
		t.Errorf("%s: %q %d, not %d", line, out, err, want)
	}
}
