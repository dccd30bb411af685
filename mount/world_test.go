package mount_test

import (
	"slices"
	"testing"

	"undercroft/api"
	"undercroft/dir"
	"undercroft/disk"
	"undercroft/lay"
	"undercroft/mkfs"
	"undercroft/mount"
	"undercroft/rack"
	"undercroft/room"
	"undercroft/wal"
)

// small is the geometry of the document's examples: the log is 1 to 32, the inodes are 33 to 36, the bitmap is 37, the data 38 to 399.
func small() api.Geometry { return api.Geometry{Blocks: 400, Log: 32, Inodes: 60} }

// some are geometries at borders: the least of all, few and many blocks of each region, the greatest.
func some() []api.Geometry {
	return []api.Geometry{
		small(), {Blocks: 36, Log: 32, Inodes: 1}, {Blocks: 37, Log: 32, Inodes: 16}, {Blocks: 300, Log: 256, Inodes: 15},
		{Blocks: 4132, Log: 32, Inodes: 65535}, {Blocks: 8192, Log: 33, Inodes: 60}, {Blocks: 8193, Log: 255, Inodes: 160},
		{Blocks: 1 << 20, Log: 256, Inodes: 65535},
	}
}

// fresh is a disk with an empty file system, and bytes in the blocks that this leaves as they are: the log's, some free ones, those behind.
func fresh(t testing.TB, g api.Geometry) *disk.Disk {
	t.Helper()
	im := api.Image{Blocks: min(g.Blocks+2, api.MaxBlocks)}
	for at := range im.Blocks {
		if at < g.Log+500 || at >= g.Blocks {
			im.Data = append(im.Data, api.Held{Index: at, Data: filled(at % 255)})
		}
	}
	d := load(t, im)
	ok(t, mkfs.Make(d, g), d.Crash(nil))
	return d
}

// mounts is a volume of a disk.
func mounts(t testing.TB, d *disk.Disk) *mount.Volume {
	t.Helper()
	v, err := mount.Mount(d)
	if v == nil || err != api.OK {
		t.Fatalf("Mount: %v, %d", v, err)
	}
	return v
}

// refused asks whether Mount of a disk is answered by an error, and by no volume.
func refused(t testing.TB, d *disk.Disk, want api.Errno) {
	t.Helper()
	if v, err := mount.Mount(d); v != nil || err != want {
		t.Fatalf("Mount: %v, %d, not %d", v, err, want)
	}
}

// act is something that is done by a log: one step.
type act func(l *wal.Log) api.Errno

// step is what is done between the beginning and the end of one with a reservation.
func step(r int, do act) act {
	return func(l *wal.Log) api.Errno {
		if err := l.Begin(r); err != api.OK {
			return err
		}
		err := do(l)
		if e := l.End(); err == api.OK {
			err = e
		}
		return err
	}
}

// taken has the next free inode be n; inum is the one that is expected.
func taken(l *wal.Log, inum int, n api.Node) api.Errno {
	if got, err := rack.Take(l, n); got != inum || err != api.OK {
		return max(err, api.ErrNil)
	}
	return api.OK
}

// named has the next free inode be a file, and be named by the root.
func named(inum int, name string) act {
	return step(api.StepCreate, func(l *wal.Log) api.Errno {
		slot, _, err := dir.Spot(l, api.Root)
		if err == api.OK {
			err = taken(l, inum, api.Node{Kind: api.KindFile, Links: 1})
		}
		if err == api.OK {
			err = dir.Set(l, api.Root, slot, api.Entry{Inum: uint16(inum), Name: name})
		}
		return err
	})
}

// directory has the next free inode be a directory, and be named by the root.
func directory(inum int, name string) act {
	return step(api.StepMkdir, func(l *wal.Log) api.Errno {
		slot, _, err := dir.Spot(l, api.Root)
		if err != api.OK {
			return err
		}
		at, err := room.Take(l)
		if err == api.OK {
			err = l.Write(at, api.Block{0: byte(inum), 2: '.', 16: 1, 18: '.', 19: '.'})
		}
		if err == api.OK {
			err = taken(l, inum, api.Node{Kind: api.KindDir, Links: 2, Size: 32, Blocks: 1, Direct: [api.Direct]uint32{uint32(at)}})
		}
		if err == api.OK {
			err = dir.Set(l, api.Root, slot, api.Entry{Inum: uint16(inum), Name: name})
		}
		if err == api.OK {
			err = linked(l, api.Root, 1)
		}
		return err
	})
}

// linked has an inode have so many links more.
func linked(l *wal.Log, inum, more int) api.Errno {
	n, err := rack.Read(l, inum)
	if err != api.OK {
		return err
	}
	n.Links = uint16(int(n.Links) + more)
	return rack.Write(l, inum, n)
}

// unnamed has a file that the root names be an orphan.
func unnamed(inum int, name string) act {
	return step(api.StepUnlink, func(l *wal.Log) api.Errno {
		slot, _, err := dir.Find(l, api.Root, name)
		if err == api.OK {
			err = dir.Set(l, api.Root, slot, api.Entry{})
		}
		if err == api.OK {
			err = linked(l, inum, -1)
		}
		return err
	})
}

// lost has the next free inode be an orphan.
func lost(inum int, kind api.Kind) act {
	return step(api.StepCreate, func(l *wal.Log) api.Errno { return taken(l, inum, api.Node{Kind: kind}) })
}

// bytes has bytes at some indices of a file, a step for each; none of them is 0.
func bytes(inum int, indices ...int) []act {
	var acts []act
	for _, index := range indices {
		b := filled(inum*7 + index)
		acts = append(acts, func(l *wal.Log) api.Errno { return lay.Piece(l, inum, 1024*index, b[:]) })
	}
	return acts
}

// slots has so many blocks of free slots in a directory, a step for each.
func slots(inum, blocks int) []act {
	var acts []act
	for index := range blocks {
		acts = append(acts, func(l *wal.Log) api.Errno { return lay.Piece(l, inum, 1024*index, make([]byte, 1024)) })
	}
	return acts
}

// village are the steps by which the root gets a file, 2, with blocks of all depths, and a directory, 3.
func village() []act {
	return slices.Concat([]act{named(2, "a")}, bytes(2, 0, 10, 300), []act{directory(3, "d")})
}

// ghosts are the steps by which there are orphans, behind the village's: without blocks, with few and many, below each index block; a directory; in several blocks of inodes.
func ghosts() []act {
	acts := slices.Concat(
		[]act{lost(4, api.KindFile), lost(5, api.KindFile)}, bytes(5, 0, 97),
		[]act{lost(6, api.KindDir)}, slots(6, 2),
		[]act{lost(7, api.KindFile)}, bytes(7, 1, 9, 10, 265, 266, 521, 522, 65801),
	)
	for inum := 8; inum <= 40; inum++ {
		if inum%16 == 1 {
			acts = append(acts, lost(inum, api.KindFile))
			acts = append(acts, bytes(inum, inum)...)
		} else {
			acts = append(acts, named(inum, "f"+string(rune('0'+inum))))
		}
	}
	return acts
}

// run does all, one behind the other.
func run(t testing.TB, l *wal.Log, acts []act) {
	t.Helper()
	for i, do := range acts {
		if err := do(l); err != api.OK {
			t.Fatalf("act %d: %d", i, err)
		}
	}
}

// lived is what a disk holds on which all this was done, and then the volume was closed.
func lived(t testing.TB, g api.Geometry, acts ...[]act) api.Image {
	t.Helper()
	d := fresh(t, g)
	v := mounts(t, d)
	run(t, v.Log(), slices.Concat(acts...))
	ok(t, v.Close(), d.Crash(nil))
	return d.Image()
}

// valid is what a disk holds on which all this was done as one group, and that stopped right behind the barrier that made it valid.
func valid(t testing.TB, im api.Image, acts ...[]act) api.Image {
	t.Helper()
	d := load(t, im)
	v := mounts(t, d)
	before := d.Made()
	run(t, v.Log(), slices.Concat(acts...))
	if d.Made() != before || v.Log().Used() == 0 {
		t.Fatalf("that is no group: %d things were done", d.Made()-before)
	}
	d.Fuse(v.Log().Used() + 3)
	if err := v.Sync(); err != api.ErrDead {
		t.Fatalf("Sync: %d", err)
	}
	ok(t, d.Crash(nil))
	return d.Image()
}

// put is what a disk holds on which what the header of an image names was put in place, and the header is noughts.
func put(im api.Image, targets ...int) api.Image {
	others := map[int]api.Block{1: {}}
	for i, at := range targets {
		others[at] = blockOf(im, 2+i)
	}
	return with(im, others)
}

func blockOf(im api.Image, at int) api.Block {
	for _, h := range im.Data {
		if h.Index == at {
			return h.Data
		}
	}
	return api.Block{}
}
