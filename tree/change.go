package tree

import (
	"undercroft/api"
	"undercroft/dir"
	"undercroft/rack"
	"undercroft/wal"
)

// The slots of a directory's own entries.
const (
	selfSlot = iota
	upSlot
)

// The names of a directory's own entries.
const (
	selfName = "."
	upName   = ".."
)

// change is what is done in a step. Behind an error, which a sound disk does not have there, nothing more is done.
type change struct {
	l   *wal.Log
	err api.Errno
}

// step does something as a step of a reservation.
func (s *System) step(r int, do func(*change)) api.Errno {
	l := s.log()
	if err := l.Begin(r); err != api.OK {
		return err
	}
	defer l.End() // nothing refuses it: the disk does not stop within a step, but at its beginning alone
	c := &change{l: l}
	do(c)
	return c.err
}

// take has a free inode be n, and tells its number.
func (c *change) take(n api.Node) int {
	if c.err != api.OK {
		return 0
	}
	inum, err := rack.Take(c.l, n)
	c.err = err
	return inum
}

// enter has a slot of a directory lead to an inode by a name.
func (c *change) enter(parent, slot, inum int, name string) {
	c.set(parent, slot, api.Entry{Inum: uint16(inum), Name: name})
}

// clear has a slot of a directory be free.
func (c *change) clear(parent, slot int) { c.set(parent, slot, api.Entry{}) }

// set lays an entry into a slot of a directory.
func (c *change) set(parent, slot int, e api.Entry) {
	if c.err == api.OK {
		c.err = dir.Set(c.l, parent, slot, e)
	}
}

// link has an inode have so many links more.
func (c *change) link(inum, more int) {
	c.node(inum, func(n *api.Node) { n.Links = uint16(int(n.Links) + more) })
}

// unname takes the name away that an inode has in a directory.
func (c *change) unname(inum, parent int) {
	isDir := false
	c.node(inum, func(n *api.Node) {
		isDir = n.Kind == api.KindDir
		n.Links--
		if isDir {
			n.Links = 0 // the other one was its own
		}
	})
	if isDir {
		c.link(parent, -1)
	}
}

// node has an inode be another one. It is read behind all that was done to it in the step.
func (c *change) node(inum int, alter func(*api.Node)) {
	if c.err != api.OK {
		return
	}
	n, err := rack.Read(c.l, inum)
	if err == api.OK {
		alter(&n)
		err = rack.Write(c.l, inum, n)
	}
	c.err = err
}
