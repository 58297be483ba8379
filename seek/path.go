package seek

import (
	"shibboleth/api"
	"shibboleth/nfa"
	"shibboleth/octets"
)

// lead is the least text that leads to a spot: the byte that is read into it, and what was read ahead of that.
type lead struct {
	ahead string
	by    byte
}

// front is the spots to which texts of one length lead, and no shorter ones: the least text that is taken comes to each of its spots by as few bytes as lead there.
type front map[int]lead

// walk goes from front to front of a right machine, each of whose spots is in one of them at most.
type walk struct {
	m    api.Machine
	seen []bool // of each spot whether it is in a front already
}

// Path is the least text that m takes, and true; none and false, if it takes none, or is not right.
func Path(m api.Machine) (string, bool) {
	if !nfa.Right(m) {
		return "", false
	}
	if m.Empty {
		return "", true
	}
	w := walk{m: m, seen: make([]bool, len(m.Spots))}
	now := front{}
	w.enter(now, m.First, "")
	for len(now) > 0 {
		if told, ok := w.least(now); ok {
			return told, true
		}
		now = w.behind(now)
	}
	return "", false
}

// behind is the front behind now.
func (w *walk) behind(now front) front {
	next := front{}
	for k, l := range now {
		w.enter(next, w.m.Follow[k], l.text())
	}
	return next
}

// enter puts into next those spots of the list that are in no front so far, and of those that are in next already it keeps the lesser text.
func (w *walk) enter(next front, list []int, ahead string) {
	for _, k := range list {
		by, some := octets.First(w.m.Spots[k].Set)
		old, known := next[k]
		if some && !w.seen[k] || known && Less(ahead, old.ahead) {
			w.seen[k] = true
			next[k] = lead{ahead: ahead, by: by}
		}
	}
}

// least is the least text that leads to a last one of the spots of now, and true; none and false, if none of them is last.
func (w *walk) least(now front) (string, bool) {
	least, some := "", false
	for k, l := range now {
		if !w.m.Last[k] {
			continue
		}
		// One text may lead to several spots, so which one of them comes first does not matter.
		if told := l.text(); !some || Less(told, least) {
			least, some = told, true
		}
	}
	return least, some
}

// text is the whole text.
func (l lead) text() string {
	return l.ahead + string([]byte{l.by})
}
