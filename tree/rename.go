package tree

import (
	"undercroft/api"
	"undercroft/rack"
	"undercroft/route"
	"undercroft/wal"
	"undercroft/walk"
)

// move is a name that becomes another one.
type move struct {
	from  place
	to    place
	isDir bool // what is moved
}

// rename moves a name, over what stands there.
func (s *System) rename(c api.Call) api.Errno {
	path, other, err := parseBoth(c.Path, c.Other)
	switch {
	case err != api.OK:
		return err
	case len(path) == 0 || len(other) == 0:
		return api.ErrBusy
	case route.Special(path) || route.Special(other):
		return api.ErrInval
	}
	m, err := both(s.log(), path, other)
	if err != api.OK || m.from.inum == m.to.inum {
		return err
	}
	if err := s.refuses(&m); err != api.OK {
		return err
	}
	if err := s.step(api.StepRename, m.make); err != api.OK || m.to.inum == 0 {
		return err
	}
	return s.release(m.to.inum)
}

// both finds both ends of a move.
func both(l *wal.Log, path, other []string) (move, api.Errno) {
	from, err := present(l, path)
	if err != api.OK {
		return move{}, err
	}
	to, err := locate(l, other)
	if err != api.OK {
		return move{}, err
	}
	n, err := rack.Read(l, from.inum)
	return move{from: from, to: to, isDir: n.Kind == api.KindDir}, err
}

// refuses says why a move may not be made; where nothing stands at its end, it chooses a slot there.
func (s *System) refuses(m *move) api.Errno {
	if m.isDir {
		// It would stand in itself, and nothing would lead there any more.
		in, err := walk.Beneath(s.log(), m.from.inum, m.to.dir)
		if err == api.OK && in {
			err = api.ErrInval
		}
		if err != api.OK {
			return err
		}
	}
	if m.to.inum != 0 {
		return s.over(m)
	}
	if m.crosses() {
		if err := s.linkable(m.to.dir); err != api.OK {
			return err
		}
	}
	return m.to.fit(s.log(), 0, 0)
}

// over says why a move may not be made over what stands at its end.
func (s *System) over(m *move) api.Errno {
	n, err := rack.Read(s.log(), m.to.inum)
	isDir := n.Kind == api.KindDir
	switch {
	case err != api.OK:
		return err
	case m.isDir && !isDir:
		return api.ErrNotDir
	case !m.isDir && isDir:
		return api.ErrIsDir
	}
	return s.bereft(m.to.inum)
}

// crosses tells whether a directory gets another parent.
func (m *move) crosses() bool { return m.isDir && m.from.dir != m.to.dir }

// make makes the move, in a step.
func (m *move) make(c *change) {
	c.enter(m.to.dir, m.to.slot, m.from.inum, m.to.name)
	c.clear(m.from.dir, m.from.slot)
	if m.crosses() {
		c.enter(m.from.inum, upSlot, m.to.dir, upName)
		c.link(m.from.dir, -1)
		c.link(m.to.dir, 1)
	}
	if m.to.inum != 0 {
		c.unname(m.to.inum, m.to.dir)
	}
}
