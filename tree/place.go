package tree

import (
	"undercroft/api"
	"undercroft/dir"
	"undercroft/rack"
	"undercroft/room"
	"undercroft/route"
	"undercroft/wal"
	"undercroft/walk"
)

// place is where the last name of a path stands, or is to stand.
type place struct {
	dir  int // the parent
	name string
	slot int
	inum int // 0, which no entry has: the parent has no such entry
}

// locate finds where the last one of some names stands, or that it is not there.
func locate(l *wal.Log, names []string) (place, api.Errno) {
	parent, name, err := walk.Parent(l, names)
	if err != api.OK {
		return place{}, err
	}
	slot, inum, err := dir.Find(l, parent, name)
	if err != api.OK && err != api.ErrNoEnt {
		return place{}, err
	}
	return place{dir: parent, name: name, slot: slot, inum: inum}, api.OK
}

// present finds where the last one of some names stands.
func present(l *wal.Log, names []string) (place, api.Errno) {
	p, err := locate(l, names)
	if err == api.OK && p.inum == 0 {
		err = api.ErrNoEnt
	}
	return p, err
}

// absent finds where the last one of some names is to stand.
func absent(l *wal.Log, names []string) (place, api.Errno) {
	p, err := locate(l, names)
	if err == api.OK && p.inum != 0 {
		err = api.ErrExist
	}
	return p, err
}

// fit chooses the slot of a new entry, if there is room for it and for so many blocks and inodes beside it.
func (p *place) fit(l *wal.Log, blocks, inodes int) api.Errno {
	slot, need, err := dir.Spot(l, p.dir)
	if err != api.OK {
		return err
	}
	p.slot = slot
	return enough(l, need+blocks, inodes)
}

// enough tells whether so many blocks and inodes are free.
func enough(l *wal.Log, blocks, inodes int) api.Errno {
	free, err := room.Free(l)
	if err != api.OK {
		return err
	}
	spare, err := rack.Spare(l)
	if err == api.OK && (blocks > free || inodes > spare) {
		err = api.ErrNoSpace
	}
	return err
}

// lead finds the inode to which a path leads.
func lead(l *wal.Log, path string) (int, api.Node, api.Errno) {
	names, err := route.Parse(path)
	if err != api.OK {
		return 0, api.Node{}, err
	}
	return end(l, names)
}

// end finds the inode to which some names lead.
func end(l *wal.Log, names []string) (int, api.Node, api.Errno) {
	inum, err := walk.Find(l, names)
	if err != api.OK {
		return 0, api.Node{}, err
	}
	n, err := rack.Read(l, inum)
	return inum, n, err
}

// parseBoth cuts two paths into their names.
func parseBoth(path, other string) ([]string, []string, api.Errno) {
	names, err := route.Parse(path)
	if err != api.OK {
		return nil, nil, err
	}
	others, err := route.Parse(other)
	return names, others, err
}
