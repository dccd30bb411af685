package tree_test

import (
	"bytes"
	"maps"
	"slices"
	"testing"

	"undercroft/api"
	"undercroft/disk"
	"undercroft/mkfs"
	"undercroft/tree"
	"undercroft/wal"
)

// small is the geometry of the document's examples: the inodes are 33 to 36, the bitmap is 37, the data 38 to 399.
func small() api.Geometry { return api.Geometry{Blocks: 400, Log: 32, Inodes: 60} }

// snug has few data blocks and few inodes: the inodes are 33 and 34, the bitmap is 35, the data 36 to 119.
func snug() api.Geometry { return api.Geometry{Blocks: 120, Log: 32, Inodes: 30} }

// brief has little of all, so that there are many images of it: the inodes are 33 and 34, the bitmap is 35, the data 36 to 149.
func brief() api.Geometry { return api.Geometry{Blocks: 150, Log: 32, Inodes: 20} }

// wide has a larger log, and two blocks of the bitmap.
func wide() api.Geometry { return api.Geometry{Blocks: 9000, Log: 100, Inodes: 200} }

const (
	rd = api.FlagRead
	wr = api.FlagWrite
	rw = rd | wr
	cr = api.FlagCreate
	ex = api.FlagExcl
	tr = api.FlagTrunc
	nu = rw | cr
)

// sown are n bytes, none of them 0; those that stand near each other or at like places are unlike.
func sown(seed, n int) []byte {
	p := make([]byte, n)
	for i := range p {
		p[i] = byte(1 + (i*7+i/1024*11+seed*29)%255)
	}
	return p
}

// mark is a block of which no byte is 0.
func mark(n int) api.Block { return api.Block(sown(n, 1024)) }

func ok(t testing.TB, errs ...api.Errno) {
	t.Helper()
	for i, err := range errs {
		if err != api.OK {
			t.Fatalf("call %d: %d", i, err)
		}
	}
}

func load(t testing.TB, im api.Image) *disk.Disk {
	t.Helper()
	d, err := disk.Load(im)
	if d == nil || err != api.OK {
		t.Fatalf("a disk of %d blocks: %d", im.Blocks, err)
	}
	return d
}

// fresh is a disk with an empty file system, and bytes in all blocks that this leaves as they are, also in two behind it.
func fresh(t testing.TB, g api.Geometry) *disk.Disk {
	t.Helper()
	im := api.Image{Blocks: g.Blocks + 2}
	for at := range im.Blocks {
		im.Data = append(im.Data, api.Held{Index: at, Data: mark(at)})
	}
	d := load(t, im)
	ok(t, mkfs.Make(d, g), d.Crash(nil))
	return d
}

// The calls, as values.
func opening(path string, flags int) api.Call {
	return api.Call{Kind: api.CallOpen, Path: path, Flags: flags}
}

func reading(desc, size int) api.Call { return api.Call{Kind: api.CallRead, Desc: desc, Size: size} }

func writing(desc int, p []byte) api.Call {
	return api.Call{Kind: api.CallWrite, Desc: desc, Bytes: p}
}

func seeking(desc, size, flags int) api.Call {
	return api.Call{Kind: api.CallSeek, Desc: desc, Size: size, Flags: flags}
}

func truncating(desc, size int) api.Call {
	return api.Call{Kind: api.CallTruncate, Desc: desc, Size: size}
}

func closing(desc int) api.Call { return api.Call{Kind: api.CallClose, Desc: desc} }

func statingDesc(desc int) api.Call { return api.Call{Kind: api.CallStatDesc, Desc: desc} }

func stating(path string) api.Call { return api.Call{Kind: api.CallStat, Path: path} }

func listing(path string) api.Call { return api.Call{Kind: api.CallReadDir, Path: path} }

func making(path string) api.Call { return api.Call{Kind: api.CallMkdir, Path: path} }

func linking(path, other string) api.Call {
	return api.Call{Kind: api.CallLink, Path: path, Other: other}
}

func unlinking(path string) api.Call { return api.Call{Kind: api.CallUnlink, Path: path} }

func renaming(path, other string) api.Call {
	return api.Call{Kind: api.CallRename, Path: path, Other: other}
}

func syncing() api.Call { return api.Call{Kind: api.CallSync} }

// crowding is the kind of what is no call, but a step of somebody else: it writes so many free blocks at the disk's end, as they are, so that the group has them.
const crowding = 200

func crowds(n int) api.Call { return api.Call{Kind: crowding, Size: n} }

func value(n int) api.Result { return api.Result{Value: n} }

func wrong(err api.Errno) api.Result { return api.Result{Err: err} }

// like tells whether two results are the same, nil and empty being one.
func like(a, b api.Result) bool {
	return a.Err == b.Err && a.Value == b.Value && bytes.Equal(a.Bytes, b.Bytes) && a.Stat == b.Stat && slices.Equal(a.Entries, b.Entries)
}

// shown is a call or a result in few words.
type shown struct {
	kind    api.CallKind
	path    string
	other   string
	desc    int
	size    int
	flags   int
	bytes   int
	err     api.Errno
	value   int
	stat    api.Stat
	entries int
}

func shortCall(c api.Call) shown {
	return shown{kind: c.Kind, path: c.Path[:min(len(c.Path), 60)], other: c.Other[:min(len(c.Other), 60)], desc: c.Desc, size: c.Size, flags: c.Flags, bytes: len(c.Bytes)}
}

func short(a api.Result) shown {
	return shown{err: a.Err, value: a.Value, bytes: len(a.Bytes), stat: a.Stat, entries: len(a.Entries)}
}

// spent is what a disk and a log tell of what was done to them since the mounting.
type spent struct {
	made    int
	used    int
	commits int
	steps   int
	open    bool
}

// world is a disk, a system of it, and what the document says of that.
type world struct {
	d     *disk.Disk
	s     *tree.System
	a     *account
	base  spent // up to the mounting's end
	from  int   // how many things the disk's history had then
	count int   // calls so far
}

// newWorld is a disk that holds what an account has, and nothing pending, as a system.
func newWorld(t testing.TB, a *account) *world {
	t.Helper()
	return worldOf(t, a.image(t), a)
}

// worldOf is a system of an image that holds what an account has.
func worldOf(t testing.TB, im api.Image, a *account) *world {
	t.Helper()
	x := &world{d: load(t, im)}
	x.open(t, newAccount(a.g, a.items))
	return x
}

// open has the disk be opened, and an account of what it holds.
func (x *world) open(t testing.TB, a *account) {
	t.Helper()
	s, err := tree.Open(x.d)
	if s == nil || err != api.OK {
		t.Fatalf("Open: %v, %d", s, err)
	}
	x.s, x.a, x.base, x.from = s, a, spent{}, len(x.d.History())
	x.base = x.spent()
}

// again unmounts the system and opens the disk: nothing is held, orphans are gone, and no write is made for that.
func (x *world) again(t testing.TB) {
	t.Helper()
	x.unmounts(t)
	made := x.d.Made()
	x.open(t, x.a.again())
	if x.d.Made() != made {
		t.Fatalf("P7: opening a disk that was unmounted did %d things", x.d.Made()-made)
	}
}

// unmounts unmounts the system, and asks how many writes and barriers that is.
func (x *world) unmounts(t testing.TB) {
	t.Helper()
	ok(t, x.s.Unmount())
	x.a.unmount()
	if made := x.d.Made() - x.base.made; made != x.a.made {
		t.Fatalf("behind call %d: Unmount: %d things were done in all, not %d", x.count, made, x.a.made)
	}
}

func (x *world) log() *wal.Log { return x.s.Volume().Log() }

func (x *world) spent() spent {
	l := x.log()
	return spent{x.d.Made() - x.base.made, l.Used(), l.Commits() - x.base.commits, l.Steps() - x.base.steps, l.Open()}
}

// do makes a call, holds it against the account, and asks for the descriptors behind it. (No t.Helper here and in what it calls: it takes longer than the calls.)
func (x *world) do(t testing.TB, c api.Call) api.Result {
	got := x.answers(t, c)
	x.sees(t)
	return got
}

// answers makes a call, and holds it against the account: its answer, how many steps it has, what is written.
func (x *world) answers(t testing.TB, c api.Call) api.Result {
	x.count++
	steps := x.a.steps
	before := x.spent()
	got, want := x.ask(c), x.a.do(c)
	if !like(got, want) {
		t.Fatalf("call %d: %+v: %+v, not %+v", x.count, shortCall(c), short(got), short(want))
	}
	x.spends(t, c)
	if x.a.steps == steps && c.Kind != api.CallSync && x.spent() != before {
		t.Fatalf("P3: call %d: %+v: without a step: %+v, and behind it %+v", x.count, shortCall(c), before, x.spent())
	}
	return got
}

// spends asks whether as much was done to the disk, to the group and in steps as the document says.
func (x *world) spends(t testing.TB, c api.Call) {
	want := spent{made: x.a.made, used: len(x.a.group), commits: len(x.a.groups), steps: x.a.steps}
	if got := x.spent(); got != want {
		t.Fatalf("call %d: %+v: %+v, not %+v", x.count, shortCall(c), got, want)
	}
	if x.a.made > x.a.bound {
		t.Fatalf("P10: call %d: %d things were done, more than %d", x.count, x.a.made, x.a.bound)
	}
}

// all makes calls.
func (x *world) all(t testing.TB, calls ...api.Call) {
	for _, c := range calls {
		x.do(t, c)
	}
}

// fine makes calls that are all OK.
func (x *world) fine(t testing.TB, calls ...api.Call) {
	t.Helper()
	for i, c := range calls {
		if got := x.do(t, c); got.Err != api.OK {
			t.Fatalf("call %d of these: %+v: %+v", i, shortCall(c), short(got))
		}
	}
}

// refused makes calls that are refused by one error.
func (x *world) refused(t testing.TB, err api.Errno, calls ...api.Call) {
	t.Helper()
	for i, c := range calls {
		if got := x.do(t, c); got.Err != err {
			t.Fatalf("call %d of these: %+v: %+v, not %d", i, shortCall(c), short(got), err)
		}
	}
}

// ask makes a call, or does what somebody else does.
func (x *world) ask(c api.Call) api.Result {
	if c.Kind == crowding {
		return api.Result{Err: crowd(x.log(), c.Size)}
	}
	return x.s.Do(c)
}

// crowd is a step that writes so many blocks at the disk's end, as they are.
func crowd(l *wal.Log, n int) api.Errno {
	if err := l.Begin(n); err != api.OK {
		return err
	}
	defer l.End()
	for i := range n {
		at := l.Layout().Geometry.Blocks - 1 - i
		b, err := l.Read(at)
		if err == api.OK {
			err = l.Write(at, b)
		}
		if err != api.OK {
			return err
		}
	}
	return api.OK
}

// sees asks whether all descriptors are as the account has them, and what is held; and that asking does nothing.
func (x *world) sees(t testing.TB) {
	before := x.spent()
	for desc := -1; desc <= api.MaxDescs; desc++ {
		for _, c := range [4]api.Call{statingDesc(desc), seeking(desc, 0, 1), reading(desc, 0), writing(desc, nil)} {
			if got, want := x.s.Do(c), x.a.do(c); !like(got, want) {
				t.Fatalf("behind call %d: %+v: %+v, not %+v", x.count, shortCall(c), short(got), short(want))
			}
		}
	}
	if x.s.Full() == slices.ContainsFunc(x.a.descs[:], func(d desc) bool { return !d.open }) {
		t.Fatalf("behind call %d: Full: %t", x.count, x.s.Full())
	}
	if now := maps.Collect(x.s.Volume().Desk().All()); !maps.Equal(now, x.a.held) {
		t.Fatalf("behind call %d: held: %v, not %v", x.count, now, x.a.held)
	}
	if x.spent() != before {
		t.Fatalf("behind call %d: asking changed something", x.count)
	}
}

// stands asks whether what the log tells, whatever of it is committed, is just what the account has, byte by byte.
func (x *world) stands(t testing.TB) {
	t.Helper()
	l := x.log()
	for at, want := range x.a.blocks() {
		if got, err := l.Read(at); got != want || err != api.OK {
			t.Fatalf("behind call %d: block %d is not as the account has it", x.count, at)
		}
	}
}

// whole asks whether the disk holds, behind a sync, just what the account has, and whether that is sound.
func (x *world) whole(t testing.TB) {
	t.Helper()
	x.answers(t, syncing())
	if got := look(t, x.d.Image(), x.a.g); !likeItems(got.items, x.a.items) {
		t.Fatalf("behind call %d: the image holds something else", x.count)
	}
	x.stands(t)
	x.committed(t)
}

// committed asks whether each commit since the mounting was of the blocks of which the account has it.
func (x *world) committed(t testing.TB) {
	t.Helper()
	groups := commits(x.d.History()[x.from:])
	if !slices.EqualFunc(groups, x.a.groups, slices.Equal) {
		t.Fatalf("behind call %d: committed: %v, not %v", x.count, groups, x.a.groups)
	}
}

// commits are the blocks of each commit among some writes and barriers, rising, as the log's header says.
func commits(ops []api.Op) [][]int {
	var out [][]int
	for _, op := range ops {
		if op.Kind != api.OpWrite || op.At != 1 || op.Data == (api.Block{}) {
			continue
		}
		group := make([]int, number(op.Data[:4]))
		for i := range group {
			group[i] = number(op.Data[4+4*i : 8+4*i])
		}
		slices.Sort(group)
		out = append(out, group)
	}
	return out
}
