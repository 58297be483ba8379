package mini

import "shibboleth/dfa"

// step is one from a state by a byte of a class. (An automaton has as many steps as states times classes, so they are kept small; of 2^31 states and more the document promises nothing.)
type step struct {
	from  int32
	class uint8
}

// block is a row of states that nothing has told apart so far: it begins at from and ends ahead of to; as many of its states as are marked stand at its beginning.
type block struct {
	from, to, marked int
}

// blocks is an automaton's states, brought into blocks that are split till those of each block are alike.
type blocks struct {
	states  []int // those of a block side by side
	place   []int // of each state where it stands in states
	of      []int // of each state the number of its block
	list    []block
	touched []int // the blocks that have marked states

	into    [][]step // of each state the steps that lead to it
	origins [][]int  // of each class room for the states from which it leads into a block

	waiting map[int]struct{} // the blocks that are still to be looked at
	row     []int            // the same ones, as they came: a map has no order of its own
}

// alike is of each state of d, which is right, the number of its block: two states are in one just if they are alike.
func alike(d dfa.DFA) []int {
	b := together(d)
	var finals []int
	for s, is := range d.Final {
		if is {
			finals = append(finals, s)
		}
	}
	b.tellApart(finals)
	for len(b.waiting) > 0 {
		b.lookAt(b.take())
	}
	return b.of
}

// together is all states of d in one block.
func together(d dfa.DFA) *blocks {
	many := len(d.Next)
	b := &blocks{
		states:  make([]int, many),
		place:   make([]int, many),
		of:      make([]int, many),
		list:    []block{{to: many}},
		into:    stepsInto(d.Next),
		origins: make([][]int, d.N),
		waiting: map[int]struct{}{},
	}
	for s := range many {
		b.states[s], b.place[s] = s, s
	}
	return b
}

// stepsInto is of each state the steps that lead to it.
func stepsInto(next [][]int) [][]step {
	many := make([]int, len(next))
	for _, list := range next {
		for _, to := range list {
			many[to]++
		}
	}
	into := make([][]step, len(next))
	for s, n := range many {
		into[s] = make([]step, 0, n)
	}
	for from, list := range next {
		for class, to := range list {
			into[to] = append(into[to], step{from: int32(from), class: uint8(class)})
		}
	}
	return into
}

// lookAt tells states apart by whether they lead into the block n, class by class.
func (b *blocks) lookAt(n int) {
	// The block itself may be split on the way, so all that leads into it is gathered ahead of that.
	for _, s := range b.states[b.list[n].from:b.list[n].to] {
		for _, t := range b.into[s] {
			b.origins[t.class] = append(b.origins[t.class], int(t.from))
		}
	}
	for class, list := range b.origins {
		b.tellApart(list)
		b.origins[class] = list[:0]
	}
}

// tellApart tells the states of the list, in which none stands twice, apart from all others.
func (b *blocks) tellApart(list []int) {
	for _, s := range list {
		b.mark(s)
	}
	for _, n := range b.touched {
		b.split(n)
	}
	b.touched = b.touched[:0]
}

// mark brings s to the marked ones of its block.
func (b *blocks) mark(s int) {
	own := &b.list[b.of[s]]
	if own.marked == 0 {
		b.touched = append(b.touched, b.of[s])
	}
	to := own.from + own.marked
	other := b.states[to]
	b.states[b.place[s]], b.place[other] = other, b.place[s]
	b.states[to], b.place[s] = s, to
	own.marked++
}

// split moves the marked states of the block n into a new one, if it has others.
func (b *blocks) split(n int) {
	old := &b.list[n]
	fresh := block{from: old.from, to: old.from + old.marked}
	old.marked = 0
	if fresh.to == old.to {
		return
	}
	old.from = fresh.to
	number := len(b.list)
	for _, s := range b.states[fresh.from:fresh.to] {
		b.of[s] = number
	}
	// A block that does not wait needs no more looking at as a whole: either half tells what the other one would, and the lesser one is done sooner. Of one that waits both halves must.
	if _, waits := b.waiting[n]; waits || fresh.to-fresh.from <= old.to-old.from {
		b.wait(number)
	} else {
		b.wait(n)
	}
	b.list = append(b.list, fresh)
}

// wait puts the block n, which does not wait yet, to those that are still to be looked at.
func (b *blocks) wait(n int) {
	b.waiting[n] = struct{}{}
	b.row = append(b.row, n)
}

// take is the block that came last to wait; it waits no more.
func (b *blocks) take() int {
	last := len(b.row) - 1
	n := b.row[last]
	b.row = b.row[:last]
	delete(b.waiting, n)
	return n
}
