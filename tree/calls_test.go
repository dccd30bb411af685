package tree_test

import (
	"math/big"
	"slices"
	"strings"

	"undercroft/api"
)

const biggest = 67381248 // bytes of a file

// do makes a call: what the document says of it.
func (a *account) do(c api.Call) api.Result {
	var out api.Result
	switch c.Kind {
	case api.CallOpen:
		out.Value, out.Err = a.open(c.Path, c.Flags)
	case api.CallRead:
		out.Bytes, out.Err = a.read(c.Desc, c.Size)
		out.Value = len(out.Bytes)
	case api.CallWrite:
		out.Value, out.Err = a.write(c.Desc, c.Bytes)
	case api.CallSeek:
		out.Value, out.Err = a.seek(c.Desc, c.Size, c.Flags)
	case api.CallTruncate:
		out.Err = a.truncate(c.Desc, c.Size)
	case api.CallClose:
		out.Err = a.close(c.Desc)
	case api.CallStat:
		out.Stat, out.Err = a.stat(c.Path)
	case api.CallStatDesc:
		out.Stat, out.Err = a.statDesc(c.Desc)
	case api.CallReadDir:
		out.Entries, out.Err = a.readDir(c.Path)
	case api.CallMkdir:
		out.Err = a.mkdir(c.Path)
	case api.CallLink:
		out.Err = a.newLink(c.Path, c.Other)
	case api.CallUnlink:
		out.Err = a.unlink(c.Path)
	case api.CallRename:
		out.Err = a.rename(c.Path, c.Other)
	case api.CallSync:
		a.commit()
	case crowding:
		a.crowd(c.Size)
	default:
		out.Err = api.ErrArg
	}
	if out.Err != api.OK {
		return wrong(out.Err)
	}
	return out
}

// unmount closes all descriptors, and commits.
func (a *account) unmount() {
	for i := range a.descs {
		a.close(i)
	}
	a.commit()
}

// crowd is a step of somebody else that writes so many free blocks at the disk's end, as they are.
func (a *account) crowd(n int) {
	a.step(n, func() {
		for i := range n {
			if a.used[a.g.Blocks-1-i] {
				panic("a block of the crowd is used")
			}
			a.touch(a.g.Blocks - 1 - i)
		}
	})
}

// cut is a path as names.
func cut(path string) ([]string, api.Errno) {
	if path == "" || path[0] != '/' || len(path) > 1024 || strings.Contains(path, "\x00") {
		return nil, api.ErrInval
	}
	names := slices.DeleteFunc(strings.Split(path, "/"), func(name string) bool { return name == "" })
	if slices.ContainsFunc(names, func(name string) bool { return len(name) > 14 }) {
		return nil, api.ErrName
	}
	return names, api.OK
}

func cutBoth(path, other string) ([]string, []string, api.Errno) {
	a, err := cut(path)
	if err != api.OK {
		return nil, nil, err
	}
	b, err := cut(other)
	return a, b, err
}

func special(names []string) bool {
	return len(names) == 0 || slices.Contains([]string{".", ".."}, names[len(names)-1])
}

// slotOf is the slot of a name; -1: there is no such entry.
func (a *account) slotOf(dir int, name string) int {
	return slices.IndexFunc(a.items[dir].slots, func(e api.Entry) bool { return e.Inum != 0 && e.Name == name })
}

// find is the inode to which names lead.
func (a *account) find(names []string) (int, api.Errno) {
	inum := 1
	for _, name := range names {
		if !a.items[inum].isDir() {
			return 0, api.ErrNotDir
		}
		slot := a.slotOf(inum, name)
		if slot < 0 {
			return 0, api.ErrNoEnt
		}
		inum = int(a.items[inum].slots[slot].Inum)
	}
	return inum, api.OK
}

// spot is where a name stands, or is to stand.
type spot struct {
	dir  int
	name string
	slot int
	inum int // 0: it is not there
}

// parent is where the last of some names stands, or is to stand.
func (a *account) parent(names []string) (spot, api.Errno) {
	last := len(names) - 1
	dir, err := a.find(names[:last])
	if err != api.OK {
		return spot{}, err
	}
	if !a.items[dir].isDir() {
		return spot{}, api.ErrNotDir
	}
	p := spot{dir: dir, name: names[last], slot: a.slotOf(dir, names[last])}
	if p.slot >= 0 {
		p.inum = int(a.items[dir].slots[p.slot].Inum)
	}
	return p, api.OK
}

// fit chooses the slot for a new entry: ErrBig, ErrNoSpace.
func (a *account) fit(p *spot, blocks, inodes int) api.Errno {
	x := a.items[p.dir]
	p.slot = slices.IndexFunc(x.slots, func(e api.Entry) bool { return e.Inum == 0 })
	if p.slot < 0 {
		p.slot = len(x.slots)
		if x.size() == biggest {
			return api.ErrBig
		}
		blocks += x.needs(p.slot / 64)
	}
	if blocks > a.free() || inodes > a.spare() {
		return api.ErrNoSpace
	}
	return api.OK
}

func mayBe(flags int) bool {
	is := func(flag int) bool { return flags&flag != 0 }
	return flags >= 0 && flags < 32 && (is(1) || is(2)) && !(is(8) && !is(4)) && !(is(16) && !is(2))
}

func (a *account) open(path string, flags int) (int, api.Errno) {
	if !mayBe(flags) {
		return 0, api.ErrInval
	}
	names, err := cut(path)
	if err != api.OK {
		return 0, err
	}
	free := slices.IndexFunc(a.descs[:], func(d desc) bool { return !d.open })
	if free < 0 {
		return 0, api.ErrMfile
	}
	inum := 0
	if flags&4 != 0 && !special(names) {
		p, err := a.parent(names)
		if err != api.OK {
			return 0, err
		}
		if p.inum == 0 {
			if inum, err = a.create(p); err != api.OK {
				return 0, err
			}
			return a.opened(free, inum, flags), api.OK
		}
	}
	inum, err = a.find(names)
	switch {
	case err != api.OK:
		return 0, err
	case flags&4 != 0 && flags&8 != 0:
		return 0, api.ErrExist
	case a.items[inum].isDir() && flags&2 != 0:
		return 0, api.ErrIsDir
	case a.held[inum] == 0 && len(a.held) == 8:
		return 0, api.ErrNfile
	}
	return a.opened(free, inum, flags), api.OK
}

func (a *account) opened(free, inum, flags int) int {
	a.descs[free] = desc{open: true, inum: inum, flags: flags}
	a.held[inum]++
	if flags&16 != 0 {
		a.shorter(inum, 0)
	}
	return free
}

func (a *account) create(p spot) (int, api.Errno) {
	if len(a.held) == 8 {
		return 0, api.ErrNfile
	}
	if err := a.fit(&p, 0, 1); err != api.OK {
		return 0, err
	}
	inum := 0
	a.step(8, func() {
		inum = a.takeNode(newItem(api.KindFile, 1))
		a.set(p.dir, p.slot, api.Entry{Inum: uint16(inum), Name: p.name})
	})
	return inum, api.OK
}

// desc is a descriptor that is open with a flag; nil, if it is not.
func (a *account) desc(n, flag int) *desc {
	if n < 0 || n > 15 || !a.descs[n].open || a.descs[n].flags&flag != flag {
		return nil
	}
	return &a.descs[n]
}

func (a *account) read(n, size int) ([]byte, api.Errno) {
	d := a.desc(n, 1)
	switch {
	case d == nil:
		return nil, api.ErrBad
	case size < 0 || size > 65536:
		return nil, api.ErrInval
	case a.items[d.inum].isDir():
		return nil, api.ErrIsDir
	}
	var p []byte
	if b := a.items[d.inum].bytes; d.place < len(b) {
		p = slices.Clone(b[d.place:min(len(b), d.place+size)])
	}
	d.place += len(p)
	return p, api.OK
}

func (a *account) write(n int, p []byte) (int, api.Errno) {
	d := a.desc(n, 2)
	switch {
	case d == nil:
		return 0, api.ErrBad
	case len(p) > 65536:
		return 0, api.ErrInval
	case d.place+len(p) > biggest:
		return 0, api.ErrBig
	}
	done := 0
	for done < len(p) {
		at := d.place + done
		end := min(d.place+len(p), at/8192*8192+8192)
		if !a.piece(d.inum, at, p[done:done+end-at]) {
			break
		}
		done += end - at
	}
	if done == 0 && len(p) > 0 {
		return 0, api.ErrNoSpace
	}
	d.place += done
	return done, api.OK
}

// piece is one StepWrite; false, if there is no room for it.
func (a *account) piece(inum, at int, p []byte) bool {
	x, end := a.items[inum], at+len(p)
	var indices []int
	for i := at / 1024; i <= (end-1)/1024; i++ {
		indices = append(indices, i)
	}
	if x.needs(indices...) > a.free() {
		return false
	}
	a.step(23, func() {
		for _, i := range indices {
			a.touch(a.mapIndex(inum, i))
		}
		if end > x.size() {
			x.resize(end)
			a.touchNode(inum)
		}
		copy(x.bytes[at:end], p)
	})
	return true
}

func (a *account) seek(n, size, flags int) (int, api.Errno) {
	d := a.desc(n, 0)
	if d == nil {
		return 0, api.ErrBad
	}
	if flags < 0 || flags > 2 {
		return 0, api.ErrInval
	}
	start := []int{0, d.place, a.items[d.inum].size()}[flags]
	sum := new(big.Int).Add(big.NewInt(int64(start)), big.NewInt(int64(size)))
	if sum.Sign() < 0 || sum.Cmp(big.NewInt(biggest)) > 0 {
		return 0, api.ErrInval
	}
	d.place = int(sum.Int64())
	return d.place, api.OK
}

func (a *account) truncate(n, size int) api.Errno {
	d := a.desc(n, 2)
	switch {
	case d == nil:
		return api.ErrBad
	case size < 0:
		return api.ErrInval
	case size > biggest:
		return api.ErrBig
	case size > a.items[d.inum].size():
		a.resize(d.inum, size)
	default:
		a.shorter(d.inum, size)
	}
	return api.OK
}

func (a *account) close(n int) api.Errno {
	d := a.desc(n, 0)
	if d == nil {
		return api.ErrBad
	}
	inum := d.inum
	*d = desc{}
	if a.held[inum]--; a.held[inum] == 0 {
		delete(a.held, inum)
		a.release(inum)
	}
	return api.OK
}

func (a *account) stat(path string) (api.Stat, api.Errno) {
	names, err := cut(path)
	if err != api.OK {
		return api.Stat{}, err
	}
	inum, err := a.find(names)
	if err != api.OK {
		return api.Stat{}, err
	}
	return a.told(inum), api.OK
}

func (a *account) statDesc(n int) (api.Stat, api.Errno) {
	d := a.desc(n, 0)
	if d == nil {
		return api.Stat{}, api.ErrBad
	}
	return a.told(d.inum), api.OK
}

func (a *account) told(inum int) api.Stat {
	x := a.items[inum]
	return api.Stat{Inum: inum, Kind: x.kind, Links: x.links, Size: x.size(), Blocks: len(x.at) + len(x.tables)}
}

func (a *account) readDir(path string) ([]api.Entry, api.Errno) {
	names, err := cut(path)
	if err != api.OK {
		return nil, err
	}
	inum, err := a.find(names)
	if err != api.OK {
		return nil, err
	}
	if !a.items[inum].isDir() {
		return nil, api.ErrNotDir
	}
	var out []api.Entry
	for _, e := range a.items[inum].slots {
		if e.Inum != 0 {
			out = append(out, e)
		}
	}
	return out, api.OK
}

func (a *account) mkdir(path string) api.Errno {
	names, err := cut(path)
	if err != api.OK {
		return err
	}
	if special(names) {
		return api.ErrExist
	}
	p, err := a.parent(names)
	switch {
	case err != api.OK:
		return err
	case p.inum != 0:
		return api.ErrExist
	case a.items[p.dir].links == 1000:
		return api.ErrLinks
	}
	if err := a.fit(&p, 1, 1); err != api.OK {
		return err
	}
	a.step(10, func() {
		inum := a.takeNode(newItem(api.KindDir, 2))
		a.set(inum, 0, api.Entry{Inum: uint16(inum), Name: "."})
		a.set(inum, 1, api.Entry{Inum: uint16(p.dir), Name: ".."})
		a.set(p.dir, p.slot, api.Entry{Inum: uint16(inum), Name: p.name})
		a.link(p.dir, 1)
	})
	return api.OK
}

func (a *account) newLink(path, other string) api.Errno {
	from, to, err := cutBoth(path, other)
	if err != api.OK {
		return err
	}
	inum, err := a.find(from)
	switch {
	case err != api.OK:
		return err
	case a.items[inum].isDir():
		return api.ErrPerm
	case special(to):
		return api.ErrExist
	}
	p, err := a.parent(to)
	switch {
	case err != api.OK:
		return err
	case p.inum != 0:
		return api.ErrExist
	case a.items[inum].links == 1000:
		return api.ErrLinks
	}
	if err := a.fit(&p, 0, 0); err != api.OK {
		return err
	}
	a.step(8, func() {
		a.set(p.dir, p.slot, api.Entry{Inum: uint16(inum), Name: p.name})
		a.link(inum, 1)
	})
	return api.OK
}

// bare tells whether a directory has its own two entries alone.
func (a *account) bare(inum int) bool {
	return !slices.ContainsFunc(a.items[inum].slots[2:], func(e api.Entry) bool { return e.Inum != 0 })
}

func (a *account) unlink(path string) api.Errno {
	names, err := cut(path)
	switch {
	case err != api.OK:
		return err
	case len(names) == 0:
		return api.ErrBusy
	case special(names):
		return api.ErrInval
	}
	p, err := a.parent(names)
	switch {
	case err != api.OK:
		return err
	case p.inum == 0:
		return api.ErrNoEnt
	case a.items[p.inum].isDir() && !a.bare(p.inum):
		return api.ErrNotEmpty
	}
	a.step(3, func() {
		a.set(p.dir, p.slot, api.Entry{})
		a.lose(p.inum, p.dir)
	})
	a.release(p.inum)
	return api.OK
}

func (a *account) rename(path, other string) api.Errno {
	first, second, err := cutBoth(path, other)
	switch {
	case err != api.OK:
		return err
	case len(first) == 0 || len(second) == 0:
		return api.ErrBusy
	case special(first) || special(second):
		return api.ErrInval
	}
	from, err := a.parent(first)
	if err != api.OK {
		return err
	}
	if from.inum == 0 {
		return api.ErrNoEnt
	}
	to, err := a.parent(second)
	if err != api.OK {
		return err
	}
	if to.inum == from.inum {
		return api.OK
	}
	isDir := a.items[from.inum].isDir()
	if isDir && a.within(from.inum, to.dir) {
		return api.ErrInval
	}
	moves := isDir && from.dir != to.dir
	if to.inum != 0 {
		switch over := a.items[to.inum].isDir(); {
		case isDir && !over:
			return api.ErrNotDir
		case !isDir && over:
			return api.ErrIsDir
		case over && !a.bare(to.inum):
			return api.ErrNotEmpty
		}
	} else {
		if moves && a.items[to.dir].links == 1000 {
			return api.ErrLinks
		}
		if err := a.fit(&to, 0, 0); err != api.OK {
			return err
		}
	}
	a.step(11, func() { a.move(from, to, moves) })
	if to.inum != 0 {
		a.release(to.inum)
	}
	return api.OK
}

// move is what a StepRename does.
func (a *account) move(from, to spot, moves bool) {
	a.set(to.dir, to.slot, api.Entry{Inum: uint16(from.inum), Name: to.name})
	a.set(from.dir, from.slot, api.Entry{})
	if moves {
		a.set(from.inum, 1, api.Entry{Inum: uint16(to.dir), Name: ".."})
		a.link(from.dir, -1)
		a.link(to.dir, 1)
	}
	if to.inum != 0 {
		a.lose(to.inum, to.dir)
	}
}

// within tells whether a directory is another one, or stands beneath it: it is looked for from above.
func (a *account) within(dir, inum int) bool {
	if dir == inum {
		return true
	}
	for _, e := range a.items[dir].slots[2:] {
		if e.Inum != 0 && a.items[int(e.Inum)].isDir() && a.within(int(e.Inum), inum) {
			return true
		}
	}
	return false
}
