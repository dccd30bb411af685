package files_test

import (
	"bytes"
	"maps"
	"testing"

	"undercroft/api"
	"undercroft/dir"
	"undercroft/disk"
	"undercroft/files"
	"undercroft/lay"
	"undercroft/mkfs"
	"undercroft/mount"
	"undercroft/orphan"
	"undercroft/rack"
	"undercroft/room"
	"undercroft/wal"
)

// small is the geometry of the document's examples: the inodes are 33 to 36, the bitmap is 37, the data 38 to 399.
func small() api.Geometry { return api.Geometry{Blocks: 400, Log: 32, Inodes: 60} }

// snug has few data blocks: the inodes are 33 and 34, the bitmap is 35, the data 36 to 119.
func snug() api.Geometry { return api.Geometry{Blocks: 120, Log: 32, Inodes: 20} }

// wide has a larger log, and two blocks of the bitmap.
func wide() api.Geometry { return api.Geometry{Blocks: 9000, Log: 100, Inodes: 200} }

const (
	rd = api.FlagRead
	wr = api.FlagWrite
	rw = rd | wr
	cr = api.FlagCreate
	ex = api.FlagExcl
	tr = api.FlagTrunc
)

// ways are some flags with which a file may be opened without being changed.
var ways = []int{rd, wr, rw, rd | cr, rw | cr | ex}

// far is like n in its lower 32 bits; it is n itself where an int has no others.
func far(n int) int { return int(int64(n) + 1<<32) }

// sown are n bytes, none of them 0; those that stand near each other or at like places are unlike.
func sown(seed, n int) []byte {
	p := make([]byte, n)
	for i := range p {
		p[i] = byte(1 + (i*7+i/1024*11+seed*29)%255)
	}
	return p
}

// mark is a block of which no byte is 0.
func mark(n int) api.Block { return api.Block(sown(n, 1024)) }

func ok(t testing.TB, errs ...api.Errno) {
	t.Helper()
	for i, err := range errs {
		if err != api.OK {
			t.Fatalf("call %d: %d", i, err)
		}
	}
}

func load(t testing.TB, im api.Image) *disk.Disk {
	t.Helper()
	d, err := disk.Load(im)
	if d == nil || err != api.OK {
		t.Fatalf("a disk of %d blocks: %d", im.Blocks, err)
	}
	return d
}

func mounts(t testing.TB, d *disk.Disk) *mount.Volume {
	t.Helper()
	v, err := mount.Mount(d)
	if v == nil || err != api.OK {
		t.Fatalf("Mount: %v, %d", v, err)
	}
	return v
}

func filesOf(t testing.TB, v *mount.Volume) *files.Files {
	t.Helper()
	f := files.New(v)
	if f == nil {
		t.Fatal("New: no files")
	}
	return f
}

// fresh is a disk with an empty file system, and bytes in all blocks that this leaves as they are, also in two behind it.
func fresh(t testing.TB, g api.Geometry) *disk.Disk {
	t.Helper()
	im := api.Image{Blocks: g.Blocks + 2}
	for at := range im.Blocks {
		im.Data = append(im.Data, api.Held{Index: at, Data: mark(at)})
	}
	d := load(t, im)
	ok(t, mkfs.Make(d, g), d.Crash(nil))
	return d
}

// named has an inode have a name in the root, in a step with what makes it.
func named(l *wal.Log, r int, name string, make func() (int, api.Errno)) (int, api.Errno) {
	slot, _, err := dir.Spot(l, api.Root)
	if err == api.OK {
		err = l.Begin(r)
	}
	if err != api.OK {
		return 0, err
	}
	defer l.End()
	inum, err := make()
	if err == api.OK {
		err = dir.Set(l, api.Root, slot, api.Entry{Inum: uint16(inum), Name: name})
	}
	return inum, err
}

// file is a new file of the root, without bytes.
func file(t testing.TB, l *wal.Log, name string) int {
	t.Helper()
	inum, err := named(l, api.StepCreate, name, func() (int, api.Errno) { return rack.Take(l, api.Node{Kind: api.KindFile, Links: 1}) })
	ok(t, err)
	return inum
}

// link is one more name of a file.
func link(t testing.TB, l *wal.Log, inum int, name string) {
	t.Helper()
	_, err := named(l, api.StepLink, name, func() (int, api.Errno) { return inum, linked(l, inum, 1) })
	ok(t, err)
}

// directory is a new directory of the root.
func directory(t testing.TB, l *wal.Log, name string) int {
	t.Helper()
	inum, err := named(l, api.StepMkdir, name, func() (int, api.Errno) {
		at, err := room.Take(l)
		if err != api.OK {
			return 0, err
		}
		inum, err := rack.Take(l, api.Node{Kind: api.KindDir, Links: 2, Size: 32, Blocks: 1, Direct: [api.Direct]uint32{uint32(at)}})
		if err == api.OK {
			err = l.Write(at, api.Block{0: byte(inum), 2: '.', 16: 1, 18: '.', 19: '.'})
		}
		if err == api.OK {
			err = linked(l, api.Root, 1)
		}
		return inum, err
	})
	ok(t, err)
	return inum
}

// linked has an inode have so many links more.
func linked(l *wal.Log, inum, more int) api.Errno {
	n, err := rack.Read(l, inum)
	if err != api.OK {
		return err
	}
	n.Links = uint16(int(n.Links) + more)
	return rack.Write(l, inum, n)
}

// laid has bytes in a file.
func laid(t testing.TB, l *wal.Log, inum, at, n int) {
	t.Helper()
	if done, err := lay.Write(l, inum, at, sown(inum+at, n)); done != n || err != api.OK {
		t.Fatalf("%d bytes of inode %d: %d, %d", n, inum, done, err)
	}
}

// village is what a disk holds on which there are, sound and unmounted: 2, a file without bytes; 3, of 3,000 bytes; 4, of 100,001, a hole between its first three and its last one; 5, a directory; 6, of 100 bytes, with two names; 7 to 17, of few bytes. The names are a, b, c and so on.
func village(t testing.TB, g api.Geometry) api.Image {
	t.Helper()
	d := fresh(t, g)
	v := mounts(t, d)
	l := v.Log()
	for inum := 2; inum <= 17; inum++ {
		name := nameOf(inum)
		if inum == 5 {
			directory(t, l, name)
			continue
		}
		if got := file(t, l, name); got != inum {
			t.Fatalf("inode %d is %d", inum, got)
		}
		if inum > 5 {
			laid(t, l, inum, 0, inum*10)
		}
	}
	laid(t, l, 3, 0, 3000)
	laid(t, l, 4, 0, 3)
	laid(t, l, 4, 100000, 1)
	laid(t, l, 6, 60, 40)
	link(t, l, 6, "second")
	ok(t, v.Close(), d.Crash(nil))
	return d.Image()
}

// nameOf is the name of an inode of the village.
func nameOf(inum int) string { return string(rune('a' + inum - 2)) }

// unlink is what a tree does when a name of the root goes.
func unlink(v *mount.Volume, name string) api.Errno {
	l := v.Log()
	slot, inum, err := dir.Find(l, api.Root, name)
	if err == api.OK {
		err = l.Begin(api.StepUnlink)
	}
	if err != api.OK {
		return err
	}
	n, err := unnamed(l, slot, inum)
	l.End()
	if err != api.OK || n.Links > 0 || v.Desk().Holds(inum) > 0 {
		return err
	}
	return orphan.Reclaim(l, inum)
}

// unnamed has, in a step, a slot of the root be free, and its inode have a link less.
func unnamed(l *wal.Log, slot, inum int) (api.Node, api.Errno) {
	n, err := rack.Read(l, inum)
	if err != api.OK {
		return n, err
	}
	n.Links--
	if n.Kind == api.KindDir {
		n.Links = 0
		err = linked(l, api.Root, -1)
	}
	if err == api.OK {
		err = dir.Set(l, api.Root, slot, api.Entry{})
	}
	if err == api.OK {
		err = rack.Write(l, inum, n)
	}
	return n, err
}

// The calls, as values. (Open's inode number stands in Size.)
func opening(inum, flags int) api.Call {
	return api.Call{Kind: api.CallOpen, Size: inum, Flags: flags}
}

func reading(desc, size int) api.Call { return api.Call{Kind: api.CallRead, Desc: desc, Size: size} }

func writing(desc int, p []byte) api.Call {
	return api.Call{Kind: api.CallWrite, Desc: desc, Bytes: p}
}

func seeking(desc, size, flags int) api.Call {
	return api.Call{Kind: api.CallSeek, Desc: desc, Size: size, Flags: flags}
}

func truncating(desc, size int) api.Call {
	return api.Call{Kind: api.CallTruncate, Desc: desc, Size: size}
}

func closing(desc int) api.Call { return api.Call{Kind: api.CallClose, Desc: desc} }

func stating(desc int) api.Call { return api.Call{Kind: api.CallStatDesc, Desc: desc} }

// unlinking, syncing and crowding are done to the volume, beside the calls of its files.
func unlinking(name string) api.Call { return api.Call{Kind: api.CallUnlink, Path: name} }

func syncing() api.Call { return api.Call{Kind: api.CallSync} }

// crowding is a step of somebody else that writes so many free blocks at the disk's end, as they are: the group has them from then on.
func crowding(n int) api.Call { return api.Call{Kind: api.CallMkdir, Size: n} }

func crowd(l *wal.Log, n int) api.Errno {
	if err := l.Begin(n); err != api.OK {
		return err
	}
	defer l.End()
	for i := range n {
		at := l.Layout().Geometry.Blocks - 1 - i
		b, err := l.Read(at)
		if err == api.OK {
			err = l.Write(at, b)
		}
		if err != api.OK {
			return err
		}
	}
	return api.OK
}

// asked makes a call of some files by the method of its kind.
func asked(f *files.Files, c api.Call) api.Result {
	var out api.Result
	switch c.Kind {
	case api.CallOpen:
		out.Value, out.Err = f.Open(c.Size, c.Flags)
	case api.CallRead:
		out.Bytes, out.Err = f.Read(c.Desc, c.Size)
		out.Value = len(out.Bytes)
	case api.CallWrite:
		out.Value, out.Err = f.Write(c.Desc, c.Bytes)
	case api.CallSeek:
		out.Value, out.Err = f.Seek(c.Desc, c.Size, c.Flags)
	case api.CallTruncate:
		out.Err = f.Truncate(c.Desc, c.Size)
	case api.CallClose:
		out.Err = f.Close(c.Desc)
	case api.CallStatDesc:
		out.Stat, out.Err = f.Stat(c.Desc)
	}
	return out
}

// like tells whether two results are the same, nil and empty being one.
func like(a, b api.Result) bool {
	return a.Err == b.Err && a.Value == b.Value && bytes.Equal(a.Bytes, b.Bytes) && a.Stat == b.Stat && len(a.Entries)+len(b.Entries) == 0
}

// shown is a result in few words.
type shown struct {
	err   api.Errno
	value int
	bytes int
	stat  api.Stat
}

func short(a api.Result) shown { return shown{a.Err, a.Value, len(a.Bytes), a.Stat} }

// spent is what a disk and a log tell of what was done to them.
type spent struct {
	made    int
	used    int
	commits int
	steps   int
	open    bool
}

// world is a disk, a volume of it, two files of that, and what the document says of them.
type world struct {
	d     *disk.Disk
	v     *mount.Volume
	f     [2]*files.Files
	a     *account
	made  int // things done to the disk up to the mounting's end
	count int // acts so far
}

// newWorld is a disk that holds a sound image, mounted.
func newWorld(t testing.TB, im api.Image, g api.Geometry) *world {
	t.Helper()
	x := &world{d: load(t, im)}
	x.mount(t, newAccount(g, look(t, im, g)))
	return x
}

// mount has the disk be mounted, and an account of what it holds.
func (x *world) mount(t testing.TB, a *account) {
	t.Helper()
	x.v = mounts(t, x.d)
	x.f = [2]*files.Files{filesOf(t, x.v), filesOf(t, x.v)}
	x.a, x.made = a, x.d.Made()
}

// again unmounts the disk, and mounts it: nothing is held, and orphans are gone.
func (x *world) again(t testing.TB) {
	t.Helper()
	ok(t, x.v.Close())
	a := newAccount(x.a.g, x.a.left())
	x.mount(t, a)
}

func (x *world) spent() spent {
	l := x.v.Log()
	return spent{x.d.Made(), l.Used(), l.Commits(), l.Steps(), l.Open()}
}

// ask makes a call of one of both files, or does what is done beside them.
func (x *world) ask(who int, c api.Call) api.Result {
	switch c.Kind {
	case api.CallUnlink:
		return api.Result{Err: unlink(x.v, c.Path)}
	case api.CallSync:
		return api.Result{Err: x.v.Sync()}
	case api.CallMkdir:
		return api.Result{Err: crowd(x.v.Log(), c.Size)}
	}
	return asked(x.f[who], c)
}

// do makes a call, holds it against the account, and asks for the descriptors behind it. (No t.Helper here and in what it calls: it takes longer than the calls.)
func (x *world) do(t testing.TB, who int, c api.Call) api.Result {
	got := x.answers(t, who, c)
	x.sees(t)
	return got
}

// answers makes a call, and holds it against the account: its answer, its steps, that it writes nothing where it has none, how much is written in all.
func (x *world) answers(t testing.TB, who int, c api.Call) api.Result {
	x.count++
	before, steps := x.spent(), x.a.steps
	got, want := x.ask(who, c), x.a.do(who, c)
	if !like(got, want) {
		t.Fatalf("act %d: kind %d, desc %d, size %d, flags %d, %d bytes: %+v, not %+v", x.count, c.Kind, c.Desc, c.Size, c.Flags, len(c.Bytes), short(got), short(want))
	}
	now := x.spent()
	if now.steps-before.steps != x.a.steps-steps || now.open {
		t.Fatalf("act %d: kind %d: %d steps, not %d; one is open: %t", x.count, c.Kind, now.steps-before.steps, x.a.steps-steps, now.open)
	}
	if x.a.steps == steps && now != before && c.Kind != api.CallSync {
		t.Fatalf("act %d: kind %d, without a step: %+v, and behind it %+v", x.count, c.Kind, before, now)
	}
	if x.d.Made()-x.made > x.a.bound {
		t.Fatalf("P10: act %d: %d things were done, more than %d", x.count, x.d.Made()-x.made, x.a.bound)
	}
	return got
}

// all makes calls of the first files.
func (x *world) all(t testing.TB, calls ...api.Call) {
	for _, c := range calls {
		x.do(t, 0, c)
	}
}

// sees asks whether all descriptors are as the account has them, and what is held; and that asking does nothing.
func (x *world) sees(t testing.TB) {
	before := x.spent()
	for who, f := range x.f {
		for desc := -1; desc <= api.MaxDescs; desc++ {
			x.seesOne(t, who, desc)
		}
		if f.Full() != x.a.tables[who].full() {
			t.Fatalf("behind act %d: Full of %d: %t", x.count, who, f.Full())
		}
	}
	if now := maps.Collect(x.v.Desk().All()); !maps.Equal(now, x.a.held) {
		t.Fatalf("behind act %d: held: %v, not %v", x.count, now, x.a.held)
	}
	if x.spent() != before {
		t.Fatalf("behind act %d: asking changed something", x.count)
	}
}

// seesOne asks of a descriptor for its inode, its flags and its place.
func (x *world) seesOne(t testing.TB, who, desc int) {
	for _, c := range [4]api.Call{stating(desc), seeking(desc, 0, 1), reading(desc, 0), writing(desc, nil)} {
		if got, want := asked(x.f[who], c), x.a.do(who, c); !like(got, want) {
			t.Fatalf("behind act %d: descriptor %d of %d, kind %d: %+v, not %+v", x.count, desc, who, c.Kind, short(got), short(want))
		}
	}
}

// whole asks whether the disk holds, behind a sync, just what the account has.
func (x *world) whole(t testing.TB) {
	t.Helper()
	ok(t, x.v.Sync())
	alike(t, look(t, x.d.Image(), x.a.g), x.a.things)
}
