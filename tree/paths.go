package tree

import (
	"slices"

	"undercroft/api"
	"undercroft/dir"
	"undercroft/node"
	"undercroft/orphan"
	"undercroft/rack"
	"undercroft/route"
)

// onPaths are the calls on paths, by their kinds.
func onPaths() map[api.CallKind]func(*System, api.Call) api.Result {
	return map[api.CallKind]func(*System, api.Call) api.Result{
		api.CallOpen:    (*System).open,
		api.CallStat:    (*System).stat,
		api.CallReadDir: (*System).readDir,
		api.CallMkdir:   bare((*System).mkdir),
		api.CallLink:    bare((*System).link),
		api.CallUnlink:  bare((*System).unlink),
		api.CallRename:  bare((*System).rename),
	}
}

// bare is a call that answers nothing but why it was refused.
func bare(do func(*System, api.Call) api.Errno) func(*System, api.Call) api.Result {
	return func(s *System, c api.Call) api.Result { return api.Result{Err: do(s, c)} }
}

// open opens what a path leads to, and may make it.
func (s *System) open(c api.Call) api.Result {
	inum, err := s.toOpen(c.Path, c.Flags)
	if err != api.OK {
		return api.Result{Err: err}
	}
	desc, err := s.Open(inum, c.Flags)
	return api.Result{Err: err, Value: desc}
}

// toOpen is the inode that is to be opened: one that is there, or a new file.
func (s *System) toOpen(path string, flags int) (int, api.Errno) {
	// No inode has the number 0: what is refused of it as ErrInval is the flags.
	if _, err := s.Open(0, flags); err == api.ErrInval {
		return 0, err
	}
	names, err := route.Parse(path)
	switch {
	case err != api.OK:
		return 0, err
	case s.Full():
		return 0, api.ErrMfile
	case flags&api.FlagCreate != 0 && !route.Special(names):
		return s.orCreate(names, flags)
	}
	inum, _, err := end(s.log(), names)
	return old(inum, flags, err)
}

// orCreate is what some names lead to: a new file, if it is not there.
func (s *System) orCreate(names []string, flags int) (int, api.Errno) {
	p, err := locate(s.log(), names)
	if err == api.OK && p.inum == 0 {
		return s.create(p)
	}
	return old(p.inum, flags, err)
}

// old is an inode that was found, if it may be there.
func old(inum, flags int, err api.Errno) (int, api.Errno) {
	switch {
	case err != api.OK:
		return 0, err
	case flags&api.FlagExcl != 0:
		return 0, api.ErrExist
	}
	return inum, api.OK
}

// create makes a file at a place.
func (s *System) create(p place) (int, api.Errno) {
	if s.volume.Desk().Full() {
		return 0, api.ErrNfile // a file that could not be opened then is not made
	}
	if err := p.fit(s.log(), 0, 1); err != api.OK {
		return 0, err
	}
	inum := 0
	err := s.step(api.StepCreate, func(c *change) {
		inum = c.take(api.Node{Kind: api.KindFile, Links: 1})
		c.enter(p.dir, p.slot, inum, p.name)
	})
	return inum, err
}

// stat tells what a path leads to.
func (s *System) stat(c api.Call) api.Result {
	inum, n, err := lead(s.log(), c.Path)
	if err != api.OK {
		return api.Result{Err: err}
	}
	return api.Result{Stat: node.Stat(inum, n)}
}

// readDir tells the entries of a directory.
func (s *System) readDir(c api.Call) api.Result {
	inum, _, err := lead(s.log(), c.Path)
	if err != api.OK {
		return api.Result{Err: err}
	}
	all, err := dir.Slots(s.log(), inum)
	all = slices.DeleteFunc(all, func(e api.Entry) bool { return e.Inum == 0 })
	return api.Result{Err: err, Entries: all}
}

// mkdir makes a directory.
func (s *System) mkdir(c api.Call) api.Errno {
	names, err := route.Parse(c.Path)
	switch {
	case err != api.OK:
		return err
	case route.Special(names):
		return api.ErrExist
	}
	p, err := absent(s.log(), names)
	if err == api.OK {
		err = s.linkable(p.dir)
	}
	if err == api.OK {
		err = p.fit(s.log(), 1, 1)
	}
	if err != api.OK {
		return err
	}
	return s.step(api.StepMkdir, func(c *change) {
		inum := c.take(api.Node{Kind: api.KindDir, Links: 2})
		c.enter(inum, selfSlot, inum, selfName) // takes its block, ahead of one for the parent
		c.enter(inum, upSlot, p.dir, upName)
		c.enter(p.dir, p.slot, inum, p.name)
		c.link(p.dir, 1)
	})
}

// link gives a file one more name.
func (s *System) link(c api.Call) api.Errno {
	path, other, err := parseBoth(c.Path, c.Other)
	if err != api.OK {
		return err
	}
	inum, n, err := end(s.log(), path)
	switch {
	case err != api.OK:
		return err
	case n.Kind == api.KindDir:
		return api.ErrPerm
	case route.Special(other):
		return api.ErrExist
	}
	p, err := absent(s.log(), other)
	if err == api.OK {
		err = s.linkable(inum)
	}
	if err == api.OK {
		err = p.fit(s.log(), 0, 0)
	}
	if err != api.OK {
		return err
	}
	return s.step(api.StepLink, func(c *change) {
		c.enter(p.dir, p.slot, inum, p.name)
		c.link(inum, 1)
	})
}

// unlink takes a name away, and what has no other one, if nobody holds it.
func (s *System) unlink(c api.Call) api.Errno {
	names, err := route.Parse(c.Path)
	switch {
	case err != api.OK:
		return err
	case len(names) == 0:
		return api.ErrBusy
	case route.Special(names):
		return api.ErrInval
	}
	p, err := present(s.log(), names)
	if err == api.OK {
		err = s.bereft(p.inum)
	}
	if err != api.OK {
		return err
	}
	err = s.step(api.StepUnlink, func(c *change) {
		c.clear(p.dir, p.slot)
		c.unname(p.inum, p.dir)
	})
	if err != api.OK {
		return err
	}
	return s.release(p.inum)
}

// linkable tells whether an inode may have one link more.
func (s *System) linkable(inum int) api.Errno {
	n, err := rack.Read(s.log(), inum)
	if err == api.OK && n.Links >= api.MaxLinks {
		err = api.ErrLinks
	}
	return err
}

// bereft tells whether nothing stands in an inode, as in every file.
func (s *System) bereft(inum int) api.Errno {
	empty, err := dir.Empty(s.log(), inum)
	switch {
	case err == api.ErrNotDir:
		return api.OK
	case err == api.OK && !empty:
		return api.ErrNotEmpty
	}
	return err
}

// release gives an inode back that has no name and that nobody holds.
func (s *System) release(inum int) api.Errno {
	n, err := rack.Read(s.log(), inum)
	if err != api.OK || n.Links != 0 || s.volume.Desk().Holds(inum) > 0 {
		return err
	}
	return orphan.Reclaim(s.log(), inum)
}
