package files_test

import (
	"math"
	"slices"
	"testing"

	"undercroft/api"
	"undercroft/chart"
	"undercroft/disk"
	"undercroft/files"
	"undercroft/mkfs"
	"undercroft/mount"
	"undercroft/rack"
	"undercroft/room"
)

// odd are numbers of which many are outside of whatever is asked for.
var odd = []int{math.MinInt, math.MinInt + 1, -65537, -1, 0, 1, 2, 15, 16, 61, 65536, 65537, api.MaxFile, api.MaxFile + 1, math.MaxInt - 1, math.MaxInt}

// refuses asks whether all calls of some files are answered by one error, and nothing else, whatever their arguments.
func refuses(t testing.TB, f *files.Files, want api.Errno) {
	t.Helper()
	for _, n := range odd {
		for _, k := range odd {
			for _, c := range []api.Call{opening(n, k), reading(n, k), seeking(n, k, 0), seeking(0, n, k), truncating(n, k), closing(n), stating(n), writing(n, nil), writing(n, make([]byte, min(max(0, k), 65537)))} {
				if got := asked(f, c); !like(got, api.Result{Err: want}) {
					t.Fatalf("kind %d: %+v, not %d", c.Kind, short(got), want)
				}
			}
		}
	}
	for kind := range 256 {
		for _, n := range odd {
			c := api.Call{Kind: api.CallKind(kind), Path: "/a", Other: "/b", Desc: n, Size: 1, Flags: 1, Bytes: []byte{1}}
			if got := f.Do(c); !like(got, api.Result{Err: want}) {
				t.Fatalf("Do of %+v: %+v, not %d", c, short(got), want)
			}
		}
	}
}

// watched is all that a disk tells of itself, but how often it was read.
type watched struct {
	made    int
	stopped bool
	pending []int
	history []api.Op
	image   api.Image
}

func watch(d *disk.Disk) watched {
	return watched{d.Made(), d.Stopped(), d.Pending(), d.History(), d.Image()}
}

func (a watched) like(b watched) bool {
	return a.made == b.made && a.stopped == b.stopped && slices.Equal(a.pending, b.pending) && slices.Equal(a.history, b.history) && a.image.Blocks == b.image.Blocks && slices.Equal(a.image.Data, b.image.Data)
}

// New: files of a volume that is there; nil of one that is nil, that Mount did not make, or that is closed.
func TestNew(t *testing.T) {
	d := load(t, village(t, small()))
	v := mounts(t, d)
	was := watch(d)
	for range 40 { // as many as one likes: each has its own descriptors, and none is open
		f := filesOf(t, v)
		if f.Full() || asked(f, stating(0)).Err != api.ErrBad {
			t.Fatal("a descriptor is open")
		}
	}
	if !was.like(watch(d)) || v.Log().Used()+v.Log().Steps() != 0 || v.Desk().Len() != 0 {
		t.Error("New did something")
	}
	other := *v
	none := []*mount.Volume{nil, {}, &other}
	ok(t, v.Close())
	none = append(none, v)
	v2 := mounts(t, d)
	for i, v := range none {
		if f := files.New(v); f != nil {
			t.Errorf("New of volume %d: %v", i, f)
		}
	}
	ok(t, d.Crash(nil))
	if v2.Close() != api.ErrDead || files.New(v2) == nil {
		t.Error("a volume whose disk has stopped is not closed")
	}
}

// Rule 4: files that are nil, that New did not make, copies of such as it made; what they are copies of stays as it is.
func TestNoFiles(t *testing.T) {
	x := newWorld(t, village(t, small()), small())
	x.all(t, opening(2, rw), writing(0, sown(1, 20000)), seeking(0, 5, 0))
	was := watch(x.d)
	other := *x.f[0]
	for _, f := range []*files.Files{nil, {}, &other, files.New(nil)} {
		refuses(t, f, api.ErrNil)
		if f.Full() {
			t.Error("Full")
		}
	}
	for range 15 {
		x.all(t, opening(2, rw))
	}
	other = *x.f[0]
	refuses(t, &other, api.ErrNil)
	if other.Full() || (*files.Files)(nil).Full() || !x.f[0].Full() {
		t.Error("Full")
	}
	if !was.like(watch(x.d)) {
		t.Error("the disk is not as it was")
	}
	x.sees(t)
	ok(t, x.v.Close())
	refuses(t, &other, api.ErrNil)
}

// A volume that is closed: ErrNil, also behind the disk's stopping; other volumes' files go on.
func TestClosed(t *testing.T) {
	for _, open := range []int{0, 1, 16} {
		x := newWorld(t, village(t, small()), small())
		for range open {
			x.all(t, opening(2, rw))
		}
		f := x.f[0]
		ok(t, x.v.Close())
		was := watch(x.d)
		refuses(t, f, api.ErrNil)
		if f.Full() != (open == 16) {
			t.Errorf("%d are open: Full: %t", open, f.Full())
		}
		if !was.like(watch(x.d)) {
			t.Error("something was done to the disk")
		}
		x.mount(t, newAccount(small(), look(t, x.d.Image(), small())))
		refuses(t, f, api.ErrNil)
		x.all(t, opening(3, rw), reading(0, 100))
		refuses(t, f, api.ErrNil)
		ok(t, x.d.Crash(nil))
		refuses(t, f, api.ErrNil)
		refuses(t, x.f[0], api.ErrDead)
	}
}

// A disk that has stopped, or whose claim is over, in each way: ErrDead, whatever else could be said.
func TestDead(t *testing.T) {
	ways := map[string]func(d *disk.Disk){
		"stopped at a write":   func(d *disk.Disk) { d.Fuse(0); d.Write(50, api.Block{}) },
		"stopped at a barrier": func(d *disk.Disk) { d.Fuse(0); d.Barrier() },
		"power":                func(d *disk.Disk) { d.Crash(nil) },
		"claimed":              func(d *disk.Disk) { d.Claim() },
		"mounted":              func(d *disk.Disk) { mount.Mount(d) },
		"made anew":            func(d *disk.Disk) { mkfs.Make(d, small()) },
	}
	for name, way := range ways {
		for _, open := range []int{0, 3, 16} {
			x := newWorld(t, village(t, small()), small())
			for i := range open {
				x.all(t, opening(2+i%3, rw))
			}
			way(x.d)
			was := watch(x.d)
			for _, f := range x.f {
				refuses(t, f, api.ErrDead)
			}
			if x.v.Close() != api.ErrDead {
				t.Errorf("%s: it was closed", name)
			}
			refuses(t, x.f[0], api.ErrDead)
			if x.f[0].Full() != (open == 16) || x.f[1].Full() {
				t.Errorf("%s: Full: %t, %t", name, x.f[0].Full(), x.f[1].Full())
			}
			if !was.like(watch(x.d)) {
				t.Errorf("%s: something was done to the disk", name)
			}
		}
	}
}

// example is a new file system of 400 blocks with a file, inode 2.
func example(t testing.TB) (*mount.Volume, *files.Files) {
	t.Helper()
	d, err := disk.New(400)
	ok(t, err, mkfs.Make(d, small()))
	v := mounts(t, d)
	if inum := file(t, v.Log(), "a"); inum != 2 {
		t.Fatalf("inode %d", inum)
	}
	return v, filesOf(t, v)
}

// answer is a call, and what the chapter says of it.
type answer struct {
	call api.Call
	want api.Result
}

func answers(t testing.TB, f *files.Files, rows []answer) {
	t.Helper()
	for i, row := range rows {
		if got := asked(f, row.call); !like(got, row.want) {
			t.Fatalf("row %d: %+v, not %+v", i, got, row.want)
		}
	}
}

func value(n int) api.Result { return api.Result{Value: n} }

func wrong(err api.Errno) api.Result { return api.Result{Err: err} }

func told(p ...byte) api.Result { return api.Result{Value: len(p), Bytes: p} }

// The chapter's examples, and DOC.md's 2 to 4: which blocks are taken and given back.
func TestExamples(t *testing.T) {
	v, f := example(t)
	l := v.Log()
	lies := func(index, want, free int) {
		t.Helper()
		at, err := chart.At(l, 2, index)
		n, err2 := room.Free(l)
		if at != want || n != free || err != api.OK || err2 != api.OK {
			t.Fatalf("index %d is in block %d, not %d; %d are free, not %d", index, at, want, n, free)
		}
	}
	stat := func(size, blocks int) api.Result {
		return api.Result{Stat: api.Stat{Inum: 2, Kind: api.KindFile, Links: 1, Size: size, Blocks: blocks}}
	}
	answers(t, f, []answer{{opening(2, rw), value(0)}, {stating(0), stat(0, 0)}, {writing(0, []byte{7, 8, 9}), value(3)}, {stating(0), stat(3, 1)}})
	lies(0, 39, 360)
	answers(t, f, []answer{{seeking(0, 100000, 0), value(100000)}, {stating(0), stat(3, 1)}, {writing(0, []byte{5}), value(1)}, {stating(0), stat(100001, 3)}})
	lies(97, 41, 358)
	if n, _ := rack.Read(l, 2); n.Single != 40 {
		t.Errorf("the single index block is %d", n.Single)
	}
	answers(t, f, []answer{
		{seeking(0, -6, 1), value(99995)}, {reading(0, 10), told(0, 0, 0, 0, 0, 5)},
		{opening(2, 0), wrong(api.ErrInval)}, {opening(61, rd), wrong(api.ErrArg)}, {opening(3, rd), wrong(api.ErrNoEnt)}, {opening(1, wr), wrong(api.ErrIsDir)},
		{opening(1, rd), value(1)}, {reading(1, 1), wrong(api.ErrIsDir)}, {writing(1, nil), wrong(api.ErrBad)},
		{seeking(0, 0, 3), wrong(api.ErrInval)}, {seeking(0, -1, 0), wrong(api.ErrInval)}, {seeking(0, 0, 2), value(100001)},
	})
	steps := l.Steps()
	answers(t, f, []answer{{truncating(0, 3), value(0)}, {stating(0), stat(3, 1)}, {seeking(0, 0, 1), value(100001)}, {reading(0, 5), told()}})
	if l.Steps() != steps+2 {
		t.Errorf("%d steps", l.Steps()-steps)
	}
	lies(97, 0, 360)
	lies(0, 39, 360)
	answers(t, f, []answer{{seeking(0, 0, 0), value(0)}, {reading(0, 5), told(7, 8, 9)}, {closing(0), value(0)}, {closing(0), wrong(api.ErrBad)}})
	if got := f.Do(syncing()); !like(got, wrong(api.ErrArg)) {
		t.Errorf("%+v", got)
	}
}

// DOC.md's example 5: a name goes while the file is open; behind the close all that it had is free.
func TestExampleOrphan(t *testing.T) {
	v, f := example(t)
	answers(t, f, []answer{{opening(2, rw), value(0)}, {writing(0, []byte{7, 8, 9}), value(3)}, {seeking(0, 100000, 0), value(100000)}, {writing(0, []byte{5}), value(1)}, {truncating(0, 3), value(0)}})
	ok(t, unlink(v, "a"))
	answers(t, f, []answer{{seeking(0, 0, 0), value(0)}, {reading(0, 9), told(7, 8, 9)}, {stating(0), api.Result{Stat: api.Stat{Inum: 2, Kind: api.KindFile, Size: 3, Blocks: 1}}}})
	steps := v.Log().Steps()
	answers(t, f, []answer{{closing(0), value(0)}, {opening(2, rd), wrong(api.ErrNoEnt)}})
	free, err := room.Free(v.Log())
	spare, err2 := rack.Spare(v.Log())
	if free != 361 || spare != 59 || v.Log().Steps() != steps+2 || err != api.OK || err2 != api.OK {
		t.Errorf("%d blocks and %d inodes are free behind %d steps", free, spare, v.Log().Steps()-steps)
	}
}

// DOC.md's example 10: a first piece for which there is no room.
func TestExampleNoSpace(t *testing.T) {
	v, f := example(t)
	answers(t, f, []answer{{opening(2, rw), value(0)}})
	for range 5 {
		answers(t, f, []answer{{writing(0, sown(1, 65536)), value(65536)}})
	}
	answers(t, f, []answer{{writing(0, sown(2, 36*1024)), value(36 * 1024)}, {truncating(0, 45*8192), value(0)}, {seeking(0, 0, 2), value(45 * 8192)}})
	if free, err := room.Free(v.Log()); free != 2 || err != api.OK {
		t.Fatalf("%d blocks are free", free)
	}
	steps, used := v.Log().Steps(), v.Log().Used()
	answers(t, f, []answer{{writing(0, sown(3, 20000)), wrong(api.ErrNoSpace)}, {seeking(0, 0, 1), value(45 * 8192)}})
	if v.Log().Steps() != steps || v.Log().Used() != used {
		t.Error("something was written")
	}
}
