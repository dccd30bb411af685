package tree_test

import (
	"testing"

	"undercroft/api"
	"undercroft/chart"
	"undercroft/dir"
	"undercroft/disk"
	"undercroft/mkfs"
	"undercroft/rack"
	"undercroft/room"
	"undercroft/tree"
)

// made is an empty file system of 400 blocks, opened.
func made(t testing.TB) (*disk.Disk, *tree.System) {
	t.Helper()
	d, err := disk.New(400)
	ok(t, err, mkfs.Make(d, small()))
	s, err := tree.Open(d)
	ok(t, err)
	return d, s
}

// answer is a call, and what the document says of it.
type answer struct {
	call api.Call
	want api.Result
}

func answers(t testing.TB, s *tree.System, rows ...answer) {
	t.Helper()
	for i, row := range rows {
		if got := s.Do(row.call); !like(got, row.want) {
			t.Fatalf("row %d: %+v: %+v, not %+v", i, shortCall(row.call), got, row.want)
		}
	}
}

func stat(inum int, kind api.Kind, links, size, blocks int) api.Result {
	return api.Result{Stat: api.Stat{Inum: inum, Kind: kind, Links: links, Size: size, Blocks: blocks}}
}

func told(p ...byte) api.Result { return api.Result{Value: len(p), Bytes: p} }

var done = api.Result{} // of a call that answers nothing

// frees asks how many data blocks and inodes are free.
func frees(t testing.TB, s *tree.System, blocks, inodes int) {
	t.Helper()
	n, err := room.Free(s.Volume().Log())
	k, err2 := rack.Spare(s.Volume().Log())
	if n != blocks || k != inodes || err != api.OK || err2 != api.OK {
		t.Fatalf("%d blocks and %d inodes are free, not %d and %d", n, k, blocks, inodes)
	}
}

// lies asks in which block an index of an inode is.
func lies(t testing.TB, s *tree.System, inum, index, want int) {
	t.Helper()
	if at, err := chart.At(s.Volume().Log(), inum, index); at != want || err != api.OK {
		t.Fatalf("index %d of inode %d is in block %d, not %d", index, inum, at, want)
	}
}

// DOC.md's examples 1 to 5.
func TestExampleFile(t *testing.T) {
	_, s := made(t)
	answers(t, s, answer{stating("/"), stat(1, api.KindDir, 2, 32, 1)})
	lies(t, s, 1, 0, 38)
	frees(t, s, 361, 59)
	answers(t, s, answer{opening("/a", nu), value(0)}, answer{stating("/a"), stat(2, api.KindFile, 1, 0, 0)}, answer{writing(0, []byte{7, 8, 9}), value(3)})
	lies(t, s, 2, 0, 39)
	answers(t, s, answer{seeking(0, 100000, 0), value(100000)}, answer{writing(0, []byte{5}), value(1)}, answer{stating("/a"), stat(2, api.KindFile, 1, 100001, 3)})
	lies(t, s, 2, 97, 41)
	if n, _ := rack.Read(s.Volume().Log(), 2); n.Single != 40 {
		t.Errorf("the single index block is %d", n.Single)
	}
	answers(t, s, answer{seeking(0, 99995, 0), value(99995)}, answer{reading(0, 10), told(0, 0, 0, 0, 0, 5)})
	steps := s.Volume().Log().Steps()
	answers(t, s, answer{truncating(0, 3), done}, answer{stating("/a"), stat(2, api.KindFile, 1, 3, 1)})
	if now := s.Volume().Log().Steps(); now != steps+2 {
		t.Errorf("%d steps", now-steps)
	}
	frees(t, s, 360, 58)
	answers(t, s, answer{unlinking("/a"), done}, answer{stating("/a"), wrong(api.ErrNoEnt)}, answer{statingDesc(0), stat(2, api.KindFile, 0, 3, 1)})
	frees(t, s, 360, 58)
	steps = s.Volume().Log().Steps()
	answers(t, s, answer{closing(0), done}, answer{closing(0), wrong(api.ErrBad)})
	if now := s.Volume().Log().Steps(); now != steps+2 {
		t.Errorf("%d steps", now-steps)
	}
	frees(t, s, 361, 59)
}

// DOC.md's example 6: the slot is taken while that of the other name is not yet free.
func TestExampleRename(t *testing.T) {
	_, s := made(t)
	answers(t, s, answer{making("/d"), done}, answer{renaming("/d", "/d/e"), wrong(api.ErrInval)}, answer{renaming("/d", "/e"), done},
		answer{listing("/"), api.Result{Entries: []api.Entry{{Inum: 1, Name: "."}, {Inum: 1, Name: ".."}, {Inum: 2, Name: "e"}}}})
	slots, err := dir.Slots(s.Volume().Log(), 1)
	if err != api.OK || len(slots) != 4 || slots[2].Inum != 0 || slots[3] != (api.Entry{Inum: 2, Name: "e"}) {
		t.Errorf("%v, %d", slots, err)
	}
	// Example 9.
	answers(t, s, answer{opening("/x/y", rd), wrong(api.ErrNoEnt)}, answer{stating("/e/../e/."), stat(2, api.KindDir, 2, 32, 1)}, answer{stating("e"), wrong(api.ErrInval)}, answer{stating("/fifteen letters"), wrong(api.ErrName)},
		answer{stating("/e/fifteen-letters"), wrong(api.ErrName)})
}

// DOC.md's examples 7 and 8: what was not synced is gone; what was made valid is put in place.
func TestExamplePower(t *testing.T) {
	d, s := made(t)
	answers(t, s, answer{making("/e"), done}, answer{syncing(), done}, answer{making("/f"), done})
	ok(t, d.Crash(nil))
	s, err := tree.Open(d)
	ok(t, err)
	answers(t, s, answer{stating("/e"), stat(2, api.KindDir, 2, 32, 1)}, answer{stating("/f"), wrong(api.ErrNoEnt)}, answer{making("/f"), done})
	n := s.Volume().Log().Used()
	d.Fuse(n + 2) // the log's blocks, a barrier, the header
	answers(t, s, answer{syncing(), wrong(api.ErrDead)})
	if len(d.Pending()) != 1 {
		t.Fatalf("%d writes are pending", len(d.Pending()))
	}
	ok(t, d.Crash([]bool{true}))
	made := d.Made()
	s, err = tree.Open(d)
	ok(t, err)
	if d.Made()-made != n+3 {
		t.Errorf("%d things were done", d.Made()-made)
	}
	answers(t, s, answer{stating("/e"), stat(2, api.KindDir, 2, 32, 1)}, answer{stating("/f/."), stat(3, api.KindDir, 2, 32, 1)})
}

// DOC.md's example 10: a first piece for which there is no room.
func TestExampleNoSpace(t *testing.T) {
	d, s := made(t)
	answers(t, s, answer{opening("/a", nu), value(0)})
	for range 5 {
		answers(t, s, answer{writing(0, sown(1, 65536)), value(65536)})
	}
	answers(t, s, answer{writing(0, sown(2, 36*1024)), value(36 * 1024)}, answer{truncating(0, 45*8192), done}, answer{seeking(0, 0, 2), value(45 * 8192)})
	frees(t, s, 2, 58)
	was := watch(d)
	answers(t, s, answer{writing(0, sown(3, 20000)), wrong(api.ErrNoSpace)}, answer{seeking(0, 0, 1), value(45 * 8192)})
	if !was.like(watch(d)) {
		t.Error("something was written")
	}
}

// The chapter's examples.
func TestExampleTable(t *testing.T) {
	_, s := made(t)
	answers(t, s,
		answer{making("/a"), done}, answer{stating("/"), stat(1, api.KindDir, 3, 48, 1)},
		answer{opening("/", rd), value(0)}, answer{opening("/", wr), wrong(api.ErrIsDir)},
		answer{opening("/a/b", rd|ex), wrong(api.ErrInval)}, answer{opening("/a/b", 0), wrong(api.ErrInval)}, answer{opening("/a/b", 32), wrong(api.ErrInval)},
		answer{opening("/a/.", rd|cr), value(1)}, answer{opening("/a/.", rd|cr|ex), wrong(api.ErrExist)},
		answer{reading(0, 5), wrong(api.ErrIsDir)}, answer{writing(0, nil), wrong(api.ErrBad)},
		answer{unlinking("/"), wrong(api.ErrBusy)}, answer{unlinking("/a/.."), wrong(api.ErrInval)}, answer{unlinking("/a"), done}, answer{statingDesc(1), stat(2, api.KindDir, 0, 32, 1)},
		answer{renaming("/", "/x"), wrong(api.ErrBusy)}, answer{renaming("/a/.", "/x"), wrong(api.ErrInval)}, answer{renaming("/x", "/y"), wrong(api.ErrNoEnt)},
		answer{making("/b"), done}, answer{making("/b/c"), done}, answer{linking("/b", "/x"), wrong(api.ErrPerm)}, answer{renaming("/b", "/b/c/d"), wrong(api.ErrInval)},
		answer{renaming("/b/c", "/c"), done}, answer{stating("/b"), stat(3, api.KindDir, 2, 48, 1)}, answer{stating("/c/.."), stat(1, api.KindDir, 4, 64, 1)},
		answer{api.Call{}, wrong(api.ErrArg)}, answer{api.Call{Kind: 15}, wrong(api.ErrArg)},
	)
}
