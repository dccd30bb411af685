package chart

import "undercroft/api"

// span is the indices from first to end - 1.
type span struct {
	first int
	end   int
}

// spot is a place where a block number of a file stands, in the inode or in an index block.
type spot struct {
	depth int // how many index blocks one comes through from here to a block of the file; that one's own spot: 0
	first int // the least index to which the number leads
	at    int // the number; 0: none is there
}

// table is an index block's numbers.
type table [api.PerBlock]uint32

// reach is to how many indices a number of a depth leads.
func reach(depth int) int {
	n := 1
	for range depth {
		n *= api.PerBlock
	}
	return n
}

// shared are those of some indices to which a spot leads.
func (s spot) shared(in span) span {
	return span{first: max(in.first, s.first), end: min(in.end, s.first+reach(s.depth))}
}

// leads tells whether a spot leads to one of some indices.
func (s spot) leads(in span) bool {
	both := s.shared(in)
	return both.first < both.end
}

// size is how many spots lead to some indices, from one on down that does.
func (s spot) size(in span) int {
	both := s.shared(in)
	n := 0
	for depth := range s.depth + 1 {
		n += (both.end-1-s.first)/reach(depth) - (both.first-s.first)/reach(depth) + 1
	}
	return n
}

// place is where in the table of an index block the way to an index goes on.
func (s spot) place(index int) int { return (index - s.first) / reach(s.depth-1) }

// below are the spots in the table of an index block that lead to some indices, as its own does; none, where there is no index block.
func (s spot) below(t table, in span) []spot {
	if s.depth == 0 || s.at == 0 {
		return nil
	}
	both := s.shared(in)
	var l []spot
	for i := s.place(both.first); i <= s.place(both.end-1); i++ {
		l = append(l, spot{depth: s.depth - 1, first: s.first + i*reach(s.depth-1), at: int(t[i])})
	}
	return l
}

// tableOf reads the numbers of an index block.
func tableOf(b api.Block) table {
	var t table
	for i := range b {
		t[i/4] |= uint32(b[i]) << (i % 4 * 8)
	}
	return t
}

// block is the index block that has the numbers.
func (t table) block() api.Block {
	var b api.Block
	for i := range b {
		b[i] = byte(t[i/4] >> (i % 4 * 8))
	}
	return b
}
