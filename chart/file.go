package chart

import (
	"iter"
	"slices"

	"undercroft/api"
	"undercroft/rack"
	"undercroft/room"
	"undercroft/wal"
)

// file is an inode as it was read and as it is to be written, and which of its indices are asked for.
type file struct {
	l     *wal.Log
	where api.Layout
	inum  int
	node  api.Node
	in    span
}

// tops are the spots in the inode that lead to what is asked for.
func (f *file) tops() []spot {
	var l []spot
	for i, at := range f.node.Direct {
		l = append(l, spot{first: i, at: int(at)})
	}
	l = append(l, spot{depth: 1, first: api.Direct, at: int(f.node.Single)})
	l = append(l, spot{depth: 2, first: api.Direct + api.PerBlock, at: int(f.node.Double)})
	return slices.DeleteFunc(l, func(s spot) bool { return !s.leads(f.in) })
}

// setTop lays a number into a spot of the inode.
func (f *file) setTop(s spot, at int) {
	switch s.depth {
	case 0:
		f.node.Direct[s.first] = uint32(at)
	case 1:
		f.node.Single = uint32(at)
	default:
		f.node.Double = uint32(at)
	}
}

// table gives the numbers of the index block at a spot; noughts, where there is none. A number that is no data block's is refused, also that of a block of the file.
func (f *file) table(s spot) (table, api.Errno) {
	if s.at == 0 {
		return table{}, api.OK
	}
	if s.at < f.where.DataAt || s.at >= f.where.Geometry.Blocks {
		return table{}, api.ErrInval
	}
	if s.depth == 0 {
		return table{}, api.OK
	}
	b, err := f.l.Read(s.at)
	return tableOf(b), err
}

// spots goes over the spots that lead to what is asked for, by rising index, an index block's ahead of those in it: those without a number too, but not what would stand below them. It ends with an error.
func (f *file) spots() iter.Seq2[spot, api.Errno] {
	return func(yield func(spot, api.Errno) bool) { f.down(f.tops(), yield) }
}

// down goes over some spots and what is below them, and tells whether to go on.
func (f *file) down(l []spot, yield func(spot, api.Errno) bool) bool {
	for _, s := range l {
		t, err := f.table(s)
		if !yield(s, err) || err != api.OK || !f.down(s.below(t, f.in), yield) {
			return false
		}
	}
	return true
}

// find is the block of the one index that is asked for; 0: a hole.
func (f *file) find() (int, api.Errno) {
	at := 0
	for s, err := range f.spots() {
		if err != api.OK {
			return 0, err
		}
		at = s.at // the last one is the block's own, or a missing index block's
	}
	return at, api.OK
}

// need is how many blocks must be taken so that all is mapped that is asked for.
func (f *file) need() (int, api.Errno) {
	n := 0
	for s, err := range f.spots() {
		if err != api.OK {
			return 0, err
		}
		if s.at == 0 {
			n += s.size(f.in)
		}
	}
	return n, api.OK
}

// last is the greatest mapped index below some spots; -1: there is none.
func (f *file) last(l []spot) (int, api.Errno) {
	for _, s := range slices.Backward(l) {
		t, err := f.table(s)
		if err != api.OK {
			return 0, err
		}
		if s.depth == 0 && s.at != 0 {
			return s.first, api.OK
		}
		if index, err := f.last(s.below(t, f.in)); index >= 0 || err != api.OK {
			return index, err
		}
	}
	return -1, api.OK
}

// fits tells whether there are as many free blocks as need be.
func (f *file) fits() api.Errno {
	need, err := f.need()
	if err != api.OK {
		return err
	}
	free, err := room.Free(f.l)
	if err == api.OK && free < need {
		err = api.ErrNoSpace
	}
	return err
}

// fill maps the one index that is asked for, which is a hole, and tells its block.
func (f *file) fill() (int, api.Errno) {
	top := f.tops()[0]
	at, err := f.grow(top, func(at int) api.Errno {
		f.setTop(top, at)
		return api.OK
	})
	if err == api.OK {
		err = rack.Write(f.l, f.inum, f.node)
	}
	if err != api.OK {
		return 0, err
	}
	return at, api.OK
}

// grow takes what is missing from a spot down to the block that is asked for, and tells that. The spot's own number is laid by whoever knows where it stands, ahead of what is below it.
func (f *file) grow(s spot, lay func(at int) api.Errno) (int, api.Errno) {
	if s.at == 0 {
		at, err := room.Take(f.l)
		if err == api.OK {
			err = lay(at)
		}
		if err != api.OK {
			return 0, err
		}
		s.at = at
		f.node.Blocks++
	}
	if s.depth == 0 {
		return s.at, api.OK
	}
	t, err := f.table(s)
	if err != api.OK {
		return 0, err
	}
	return f.grow(s.below(t, f.in)[0], func(at int) api.Errno {
		t[s.place(f.in.first)] = uint32(at)
		return f.l.Write(s.at, t.block())
	})
}

// empty gives back what is mapped of what is asked for, and tells how many blocks these were.
func (f *file) empty() (int, api.Errno) {
	was := f.node.Blocks
	for _, s := range f.tops() {
		gone, err := f.drop(s)
		if err != api.OK {
			return 0, err
		}
		if gone {
			f.setTop(s, 0)
		}
	}
	given := int(was - f.node.Blocks)
	if given == 0 {
		return 0, api.OK
	}
	if err := rack.Write(f.l, f.inum, f.node); err != api.OK {
		return 0, err
	}
	return given, api.OK
}

// drop gives back what is mapped at a spot and below it, and tells whether the spot's own block was given back.
func (f *file) drop(s spot) (bool, api.Errno) {
	if s.at == 0 {
		return false, api.OK
	}
	if s.depth > 0 {
		if stays, err := f.thin(s); stays || err != api.OK {
			return false, err
		}
	}
	if err := room.Give(f.l, s.at); err != api.OK {
		return false, err
	}
	f.node.Blocks--
	return true, api.OK
}

// thin drops what is below an index block, and tells whether that one stays: a number is left in it, or none went.
func (f *file) thin(s spot) (bool, api.Errno) {
	t, err := f.table(s)
	if err != api.OK {
		return false, err
	}
	was := t
	for _, b := range s.below(t, f.in) {
		gone, err := f.drop(b)
		if err != api.OK {
			return false, err
		}
		if gone {
			t[s.place(b.first)] = 0
		}
	}
	switch {
	case t == was:
		return true, api.OK
	case t == table{}:
		return false, api.OK
	}
	return true, f.l.Write(s.at, t.block())
}
