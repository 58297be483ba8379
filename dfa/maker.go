package dfa

import (
	"shibboleth/classes"
	"shibboleth/purse"
)

// maker makes states, each once, and numbers them as they are made; S is what a state is.
type maker[S comparable] struct {
	pays   *purse.Purse
	number map[S]int
	states []S // by their numbers
}

// state is the number of s, which is made and paid, if it is not there yet.
func (m *maker[S]) state(s S) int {
	n, made := m.number[s]
	if !made {
		m.pays.Spend(1)
		n = len(m.states)
		m.number[s] = n
		m.states = append(m.states, s)
	}
	return n
}

// automaton is that with the partition p of the states to which first leads. Behind is asked once of each state, so that what its classes have in common is worked out once.
func automaton[S comparable](p classes.Part, pays *purse.Purse, first S, behind func(s S) func(class int) S, final func(s S) bool) DFA {
	m := maker[S]{pays: pays, number: map[S]int{}}
	m.state(first)
	d := DFA{Part: p}
	// The states grow more while they are gone through.
	for n := 0; n < len(m.states); n++ {
		s := m.states[n]
		into := behind(s)
		next := make([]int, p.N)
		for class := range next {
			next[class] = m.state(into(class))
		}
		d.Next = append(d.Next, next)
		d.Final = append(d.Final, final(s))
	}
	return d
}
