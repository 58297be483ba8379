package fst

import (
	"shibboleth/api"
	"shibboleth/nfa"
	"shibboleth/octets"
)

// How two runs on one text mark it. Whatever two runs that mark alike so far may come to, two that don't may come to as well, so of two spots the greater one is enough to know.
const (
	alike = 1 + iota
	unlike
)

// pair is two spots in which two runs stand.
type pair [2]int

// search goes over the pairs of spots to which two runs on one text lead.
type search struct {
	m      api.Machine
	follow []api.Set
	meet   []api.Set    // of each spot those whose sets share a byte with its own
	both   map[pair]int // of two spots, the lesser one ahead, how two runs that come to them at once mark
	one    map[pair]int // the same, where the one run has read a byte more, and may go on only when the other one has read it
	open   []pair       // those of both from which the runs have still to go on
}

// Single tells whether m is single-valued.
func Single(m api.Machine) bool {
	// The spots that are not useful go, since they would be gone over in vain.
	trimmed, e := nfa.Trim(m)
	if e != api.OK {
		return false
	}
	s := begin(trimmed)
	for len(s.open) > 0 {
		at := s.open[len(s.open)-1]
		s.open = s.open[:len(s.open)-1]
		how := s.both[at]
		if how == unlike && trimmed.Last[at[0]] && trimmed.Last[at[1]] {
			return false
		}
		s.goOn(at, how)
	}
	return true
}

// begin is a search of a right machine, whose runs have read one byte.
func begin(m api.Machine) *search {
	s := &search{m: m, follow: make([]api.Set, len(m.Spots)), meet: meeting(m.Spots), both: map[pair]int{}, one: map[pair]int{}}
	for k, list := range m.Follow {
		s.follow[k] = group(list)
	}
	first := group(m.First)
	for _, k := range m.First {
		s.enter(k, first, alike)
	}
	return s
}

// goOn lets two runs that stand at the pair, and mark so, read one byte more. They go on one after the other, since the ways of each of them are then gone over once for each spot of the other one, and not for each way of it.
func (s *search) goOn(at pair, how int) {
	for _, k := range s.m.Follow[at[0]] {
		moved := pair{k, at[1]}
		if s.one[moved] < how {
			s.one[moved] = how
			s.enter(k, s.follow[at[1]], how)
		}
	}
}

// enter lets one run stand in the spot k, and another one come to each of the spots of next by the same byte; ahead of it they mark so.
func (s *search) enter(k int, next api.Set, how int) {
	for _, j := range octets.List(octets.And(next, s.meet[k])) {
		at := pair{min(k, int(j)), max(k, int(j))}
		now := how
		if s.m.Spots[k].Tag != s.m.Spots[j].Tag {
			now = unlike
		}
		if s.both[at] < now {
			s.both[at] = now
			s.open = append(s.open, at)
		}
	}
}

// meeting is of each of the spots those whose sets share a byte with its own.
func meeting(spots []api.Spot) []api.Set {
	meet := make([]api.Set, len(spots))
	for k, a := range spots {
		for j, b := range spots {
			if octets.And(a.Set, b.Set) != (api.Set{}) {
				add(&meet[k], j)
			}
		}
	}
	return meet
}
