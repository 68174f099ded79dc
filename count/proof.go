package count

import "bonehouse/api"

// critical returns some of these groups, for which so many people are too few, but not any more without any one of them. For all of them they are too few.
func (c *state) critical(some set, people int) set {
	for group := range some.all() {
		if _, is := c.fit(some&^one(group), people); !is {
			some &^= one(group)
		}
	}
	return some
}

// outOfClique returns two of some groups of which it is not known whether they are of one person: one of a greatest clique, and one that is kept apart from as many of this clique as possible.
func (c *state) outOfClique(some set) (int, int) {
	clique := c.clique(some)
	next, most := 0, -1
	for group := range (some &^ clique).all() {
		near := (c.apart[group]&clique).size()*maxGroups + (c.apart[group] & some).size()
		if near > most {
			next, most = group, near
		}
	}
	return (clique &^ c.apart[next]).first(), next
}

// alike returns two of some groups of which it is not known whether they are of one person: those that are kept apart from as many of the same groups as possible.
func (c *state) alike(some set) (int, int) {
	a, b, most := 0, 0, -1
	for first := range some.all() {
		for other := range (some &^ c.apart[first] &^ one(first)).all() {
			near := (c.apart[first]&c.apart[other]&some).size()*maxGroups + (c.apart[first] & some).size() + (c.apart[other] & some).size()
			if near > most {
				a, b, most = first, other, near
			}
		}
	}
	return a, b
}

// prover writes a proof that there are more people.
type prover struct {
	*grouped
	people   int
	question func(c *state, some set) (int, int)
	steps    []api.Step
}

// prove writes the steps that prove it for some groups that stand in a case, and returns the index of the first one.
func (p *prover) prove(c state, some set) int {
	at := len(p.steps)
	p.steps = append(p.steps, api.Step{})
	if clique := c.clique(some); clique.size() > p.people {
		p.steps[at].Clique = p.nodes(clique)[:p.people+1]
		return at
	}
	// What is not needed would be asked again in each case of what is.
	some = c.critical(some, p.people)
	a, b := p.question(&c, some)
	var next [2]int
	for i, ask := range []func(a, b int) state{c.joined, c.parted} {
		answer := ask(a, b)
		next[i] = p.prove(answer, some&answer.stand)
	}
	p.steps[at] = api.Step{A: p.node[a], B: p.node[b], Together: next[0], Apart: next[1]}
	return at
}

// proof returns the proof that a way to ask leads to.
func (x *grouped) proof(people int, question func(c *state, some set) (int, int)) []api.Step {
	p := prover{grouped: x, people: people, question: question}
	p.prove(x.begin, x.begin.stand)
	return p.steps
}

// Proof returns a proof that there are more people, and whether there is one.
func Proof(g api.Graph, people int) ([]api.Step, bool, api.Errno) {
	x, err := openFor(g, people)
	if err != api.OK {
		return nil, false, err
	}
	if _, is := x.begin.fit(x.begin.stand, people); is {
		return nil, false, api.OK
	}
	// Each way to ask leads to long proofs for some graphs, hardly ever both for the same ones.
	l, other := x.proof(people, (*state).outOfClique), x.proof(people, (*state).alike)
	if len(other) < len(l) {
		return other, true, api.OK
	}
	return l, true, api.OK
}

// CheckProof returns ErrProof unless this proves that there are more people.
func CheckProof(g api.Graph, people int, l []api.Step) api.Errno {
	x, err := openFor(g, people)
	if err != api.OK {
		return err
	}
	if len(l) > api.MaxSteps {
		return api.ErrLimit
	}
	if !x.proves(l, people) {
		return api.ErrProof
	}
	return api.OK
}

// proves reports whether l is a proof that there are more people.
func (x *grouped) proves(l []api.Step, people int) bool {
	if len(l) == 0 {
		return false
	}
	cases := make([]*state, len(l)) // of the steps to which a question has led so far
	cases[0] = &x.begin
	for i, s := range l {
		if cases[i] == nil {
			return false
		}
		if s.Together == 0 && s.Apart == 0 {
			if !x.ends(cases[i], s, people) {
				return false
			}
		} else if !x.isQuestion(s) || !x.lead(cases, i, s) {
			return false
		}
	}
	return true
}

// ends reports whether a step without further ones is a clique of one more than the people, or a contradiction.
func (x *grouped) ends(c *state, s api.Step, people int) bool {
	if s.A != 0 || s.B != 0 {
		return false
	}
	if len(s.Clique) == 0 {
		return c.isContradiction()
	}
	return len(s.Clique) == people+1 && x.areIncreasing(s.Clique) && x.areApart(c, s.Clique)
}

// isQuestion reports whether a step asks of two nodes.
func (x *grouped) isQuestion(s api.Step) bool {
	return x.isNode(s.A) && x.isNode(s.B) && s.A != s.B && len(s.Clique) == 0
}

// lead gives the steps to which the i-th one leads their cases, and reports whether they are steps behind it to which nothing has led yet.
func (x *grouped) lead(cases []*state, i int, s api.Step) bool {
	c, a, b := cases[i], x.of[s.A], x.of[s.B]
	for _, way := range []struct {
		to  int
		ask func(a, b int) state
	}{{s.Together, c.joined}, {s.Apart, c.parted}} {
		if !isFromTo(way.to, i+1, len(cases)-1) || cases[way.to] != nil {
			return false
		}
		answer := way.ask(a, b)
		cases[way.to] = &answer
	}
	return true
}
