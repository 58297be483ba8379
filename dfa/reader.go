package dfa

import (
	"shibboleth/api"
	"shibboleth/classes"
	"shibboleth/octets"
)

// runs is a state of a machine: the spots in which its runs are, or that nothing was read. (A right machine has 250 spots at most, so their numbers are bytes, and a set of bytes tells some of its spots.)
type runs struct {
	at   api.Set
	read bool // whether something was: no run being anywhere any more is another state than the first one
}

// reader is a machine, put so that all its runs go on at once.
type reader struct {
	first  api.Set
	follow []api.Set
	has    []api.Set // of each class the spots whose sets have its bytes
	last   api.Set
	empty  bool
}

// readerOf is the reader of m, of whose spots' sets none splits a class of p.
func readerOf(m api.Machine, p classes.Part) reader {
	r := reader{first: group(m.First), has: make([]api.Set, p.N), empty: m.Empty}
	for _, list := range m.Follow {
		r.follow = append(r.follow, group(list))
	}
	// A class's least byte speaks for all of it.
	for class, least := range p.Least(1) {
		for k, s := range m.Spots {
			if octets.Has(s.Set, least[0]) {
				r.has[class] = with(r.has[class], k)
			}
		}
	}
	for k, is := range m.Last {
		if is {
			r.last = with(r.last, k)
		}
	}
	return r
}

// behind is of s the state that comes behind a byte of each class.
func (r reader) behind(s runs) func(class int) runs {
	next := r.first
	if s.read {
		next = r.after(s.at)
	}
	return func(class int) runs { return runs{at: octets.And(next, r.has[class]), read: true} }
}

// after is the spots that follow one of those of at.
func (r reader) after(at api.Set) api.Set {
	var all api.Set
	for _, k := range octets.List(at) {
		all = octets.Or(all, r.follow[k])
	}
	return all
}

// final tells whether s is final.
func (r reader) final(s runs) bool {
	if !s.read {
		return r.empty
	}
	return octets.And(s.at, r.last) != api.Set{}
}

// with is the spots of g, and the spot k.
func with(g api.Set, k int) api.Set {
	return octets.Or(g, octets.Of(byte(k)))
}

// group is the spots of the list.
func group(list []int) api.Set {
	var g api.Set
	for _, k := range list {
		g = with(g, k)
	}
	return g
}
