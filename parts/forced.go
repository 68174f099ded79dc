package parts

import (
	"bonehouse/api"
	"bonehouse/count"
	"bonehouse/ties"
)

// checkForced returns the errors of a question of two nodes.
func checkForced(g api.Graph, most, a, b int) api.Errno {
	x, err := open(g)
	if err != api.OK {
		return err
	}
	if len(g.Ties) == api.MaxTies {
		return api.ErrLimit
	}
	return x.limit(most, a, b)
}

// question returns the question of two different nodes, and for how many people it is asked: what is to be proved is so if these are too few.
func question(g api.Graph, most, a, b int, same bool) (api.Graph, int) {
	kind := api.TogetherT
	if same {
		kind = api.ApartT
	}
	q, _ := ties.Add(g, further(a, b, kind))
	if most == 0 {
		return q, g.Nodes
	}
	return q, most
}

// Forced returns a proof that two nodes are surely, or never, of one person, and whether there is one.
func Forced(g api.Graph, most, a, b int, same bool) ([]api.Step, bool, api.Errno) {
	if err := checkForced(g, most, a, b); err != api.OK {
		return nil, false, err
	}
	if a == b {
		return nil, same, api.OK
	}
	l, is, err := count.Proof(question(g, most, a, b, same))
	if err == api.ErrClash { // the question contradicts itself
		return []api.Step{{}}, true, api.OK
	}
	return l, is, err
}

// CheckForced returns ErrProof unless this proves it.
func CheckForced(g api.Graph, most, a, b int, same bool, l []api.Step) api.Errno {
	if err := checkForced(g, most, a, b); err != api.OK {
		return err
	}
	if !forces(g, most, a, b, same, l) {
		return api.ErrProof
	}
	return api.OK
}

// forces reports whether l proves that two nodes are surely, or never, of one person.
func forces(g api.Graph, most, a, b int, same bool, l []api.Step) bool {
	if a == b {
		return same && len(l) == 0
	}
	q, number := question(g, most, a, b, same)
	err := count.CheckProof(q, number, l)
	if err == api.ErrClash { // the question contradicts itself
		return len(l) == 1 && isZero(l[0])
	}
	return err == api.OK
}

// isZero reports whether nothing is in a step.
func isZero(s api.Step) bool {
	return s.A == 0 && s.B == 0 && s.Together == 0 && s.Apart == 0 && len(s.Clique) == 0
}
