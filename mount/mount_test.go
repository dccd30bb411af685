package mount_test

import (
	"maps"
	"slices"
	"testing"

	"undercroft/api"
	"undercroft/disk"
	"undercroft/fetch"
	"undercroft/lay"
	"undercroft/mkfs"
	"undercroft/mount"
	"undercroft/orphan"
	"undercroft/rack"
	"undercroft/room"
	"undercroft/shape"
	"undercroft/wal"
)

// layoutOf is the layout that an image's superblock tells; the zero one, if it tells none.
func layoutOf(im api.Image) api.Layout {
	where, _ := shape.Decode(blockOf(im, 0), im.Blocks)
	return where
}

// part by part is what P24.1 says, on another disk that holds the same: what was done to that.
func partByPart(t testing.TB, im api.Image) ([]api.Op, *wal.Log) {
	t.Helper()
	d := load(t, im)
	where := layoutOf(im)
	_, err := wal.Recover(d, where)
	ok(t, err)
	l, err := wal.New(d, where)
	ok(t, err)
	_, err = orphan.All(l)
	ok(t, err, l.Sync())
	return d.History(), l
}

// whole mounts a disk that holds a sound image, and asks for all that is told of that: what is done to it, its volume, what it holds then, mounting it again.
func whole(t testing.TB, im api.Image) (*disk.Disk, *mount.Volume) {
	t.Helper()
	before, items := look(t, im)
	d := load(t, im)
	claim := d.Claim()
	v := mounts(t, d)
	if d.Claimed(claim) || d.Claimed(claim+2) || !d.Claimed(claim+1) {
		t.Fatal("P24.1: it was not claimed once")
	}
	ops, l := partByPart(t, im)
	did(t, d, 0, ops)
	if v.Log().Commits() != l.Commits() || v.Log().Steps() != l.Steps() || v.Log().Layout() != layoutOf(im) {
		t.Fatalf("P24.1: %d commits, %d steps, %+v", v.Log().Commits(), v.Log().Steps(), v.Log().Layout())
	}
	if v.Log().Used() != 0 || v.Log().Open() || v.Desk().Len() != 0 || v.Desk().Full() || v.Log().Check() != api.OK {
		t.Fatal("the volume is not as one that was just mounted")
	}
	settled(t, d, before, items)
	stays(t, d)
	return d, mounts(t, d)
}

// settled asks whether a disk is as P24.5 says of one that was mounted: the account and the items are those that were there, the group being in place.
func settled(t testing.TB, d *disk.Disk, before *account, items map[int]item) {
	t.Helper()
	gone := before.orphans()
	a, left := look(t, d.Image())
	if len(a.orphans()) != 0 || a.blocks[1][0] != 0 || len(d.Pending()) != 0 {
		t.Fatalf("P24.5: the orphans %v, the header names %d blocks, pending: %v", a.orphans(), a.blocks[1][0], d.Pending())
	}
	if !likeItems(left, without(items, gone)) {
		t.Fatal("P24.5: the items are not those that have names")
	}
	blocks := 0
	for _, inum := range gone {
		blocks += items[inum].blocks
	}
	if a.free() != before.free()+blocks || a.spare() != before.spare()+len(gone) {
		t.Fatalf("%d blocks and %d inodes are free, not %d and %d", a.free(), a.spare(), before.free()+blocks, before.spare()+len(gone))
	}
	for at := before.all; at < before.len; at++ {
		if a.blocks[at] != before.blocks[at] {
			t.Fatalf("the block %d behind the file system's is another", at)
		}
	}
	if a.blocks[0] != before.blocks[0] {
		t.Fatal("the superblock is another")
	}
}

// stays asks whether a disk is mounted again, and again, without any write, and holds the same: also behind Close, and behind the power's going.
func stays(t testing.TB, d *disk.Disk) {
	t.Helper()
	im := d.Image()
	for i := range 4 {
		before := d.Made()
		v := mounts(t, d)
		if i%2 == 1 {
			ok(t, v.Sync(), v.Close())
		}
		if i == 2 {
			ok(t, d.Crash(nil))
		}
		if d.Made() != before {
			t.Fatalf("P24.5: mounted again: %d things were done", d.Made()-before)
		}
		holds(t, d, im)
	}
}

// P24.1, P24.5: an empty file system of each geometry: nothing is written.
func TestFresh(t *testing.T) {
	for _, g := range some() {
		d := fresh(t, g)
		im := d.Image()
		before := d.Made()
		v := mounts(t, d)
		if d.Made() != before || len(d.History()) != 0 {
			t.Fatalf("%+v: %d things were done", g, d.Made()-before)
		}
		holds(t, d, im)
		if v.Log().Layout() != layoutOf(im) || v.Log().Layout().Geometry != g || v.Log().Used()+v.Log().Commits()+v.Log().Steps() != 0 {
			t.Fatalf("%+v: its log is another", g)
		}
		free, err := room.Free(v.Log())
		spare, err2 := rack.Spare(v.Log())
		if free != g.Blocks-layoutOf(im).DataAt-1 || spare != g.Inodes-1 || err != api.OK || err2 != api.OK {
			t.Fatalf("%+v: %d blocks and %d inodes are free", g, free, spare)
		}
		whole(t, im)
	}
}

// P24.1: what the header names is put in place, in its order, by so many writes and barriers, whatever it is.
func TestRecovers(t *testing.T) {
	base := lived(t, small(), village())
	var many []int
	for at := 399; len(many) < 31; at -= 7 {
		many = append(many, at)
	}
	for _, targets := range [][]int{{399}, {150}, {390, 151}, {399, 398, 150}, many} {
		others := map[int]api.Block{1: header(targets...)}
		for i := range 31 {
			others[2+i] = filled(i * 3)
		}
		// What stands behind the targets counts for nothing.
		b := others[1]
		copy(b[4*len(targets)+4:], []byte{40, 0, 0, 0, 1, 0, 0, 0, 255, 255, 255, 255})
		others[1] = b
		im := with(base, others)
		ends := moved(targets, func(i int) api.Block { return filled(i * 3) })
		for _, keeps := range []bool{false, true} {
			d := load(t, im)
			if keeps {
				d.Fuse(len(ends))
			}
			v := mounts(t, d)
			did(t, d, 0, ends)
			holds(t, d, put(im, targets...))
			if v.Log().Commits() != 0 || v.Log().Steps() != 0 {
				t.Errorf("%d commits, %d steps", v.Log().Commits(), v.Log().Steps())
			}
			stays(t, d)
		}
	}
}

// moved are the writes and barriers by which blocks of the log go to their places.
func moved(targets []int, block func(i int) api.Block) []api.Op {
	var ops []api.Op
	for i, at := range targets {
		ops = append(ops, write(at, block(i)))
	}
	return append(ops, barrier(), write(1, api.Block{}), barrier())
}

// P24.1: a group that was made valid is put in place: files, blocks of inodes, the bitmap; what is an orphan behind it goes, and what was one ahead of it and is none goes not.
func TestRecoversGroup(t *testing.T) {
	base := lived(t, small(), village())
	more := slices.Concat([]act{named(4, "b")}, bytes(4, 0, 20))
	gone := slices.Concat([]act{unnamed(2, "a"), lost(4, api.KindFile)}, bytes(4, 5, 11))
	for name, x := range map[string]struct {
		acts  [][]act
		items []int // behind it
	}{
		"a file":          {[][]act{more}, []int{1, 2, 3, 4}},
		"orphans":         {[][]act{gone}, []int{1, 3}},
		"a directory":     {[][]act{{directory(4, "e"), directory(5, "g")}}, []int{1, 2, 3, 4, 5}},
		"a file, a ghost": {[][]act{more, {lost(5, api.KindDir)}, slots(5, 1)}, []int{1, 2, 3, 4}},
		"a name gone":     {[][]act{{unnamed(2, "a")}}, []int{1, 3}},
	} {
		im := valid(t, base, x.acts...)
		a := read(t, im)
		if len(a.targets()) == 0 {
			t.Fatalf("%s: the header names no block", name)
		}
		d, v := whole(t, im)
		_, items := look(t, d.Image())
		if l := slices.Sorted(maps.Keys(items)); !slices.Equal(l, x.items) {
			t.Errorf("%s: the inodes %v, not %v", name, l, x.items)
		}
		ok(t, v.Close())
	}
	// An orphan that the group makes none: it stays.
	im := lived(t, small(), village())
	back := valid(t, im, []act{step(2, func(l *wal.Log) api.Errno { return linked(l, 2, 0) })})
	nodes := blockOf(back, 33)
	nodes[2*64+2] = 0
	d := load(t, with(back, map[int]api.Block{33: nodes}))
	mounts(t, d)
	holds(t, d, put(back, 33))
}

// P24.1, P24.5: orphans of all sorts, of one and of several blocks of inodes, of files and of directories: their blocks and they themselves are free.
func TestOrphans(t *testing.T) {
	for name, acts := range map[string][]act{
		"no blocks":    {lost(4, api.KindFile)},
		"a directory":  append([]act{lost(4, api.KindDir)}, slots(4, 3)...),
		"one block":    append([]act{lost(4, api.KindFile)}, bytes(4, 9)...),
		"single":       append([]act{lost(4, api.KindFile)}, bytes(4, 10, 265)...),
		"double":       append([]act{lost(4, api.KindFile)}, bytes(4, 266, 522, 65801)...),
		"all depths":   append([]act{lost(4, api.KindFile)}, bytes(4, 0, 7, 8, 9, 10, 15, 16, 265, 266, 271, 272, 521, 522, 65545, 65546, 65801)...),
		"a named file": {unnamed(2, "a")},
		"many":         ghosts(),
	} {
		im := lived(t, small(), village(), acts)
		if a, _ := look(t, im); len(a.orphans()) == 0 {
			t.Fatalf("%s: no orphans", name)
		}
		d, v := whole(t, im)
		if l, err := rack.Orphans(v.Log()); len(l) != 0 || err != api.OK {
			t.Errorf("%s: %v, %d", name, l, err)
		}
		// What was given back is taken anew.
		a, least := read(t, d.Image()), 1
		for a.kind(least) != 0 {
			least++
		}
		ok(t, named(least, "new")(v.Log()), v.Close())
	}
}

// The greatest number of orphans, in many commits: each thing that is done is a part of one.
func TestManyOrphans(t *testing.T) {
	g := api.Geometry{Blocks: 1500, Log: 32, Inodes: 999}
	var acts []act
	for inum := 2; inum <= 999; inum++ {
		acts = append(acts, lost(inum, api.KindFile))
		if inum%7 == 0 {
			acts = append(acts, bytes(inum, inum%20)...)
		}
	}
	im := lived(t, g, acts)
	d, _ := whole(t, im)
	a, items := look(t, d.Image())
	if len(items) != 1 || a.spare() != 998 || a.free() != 1500-a.data-1 {
		t.Errorf("%d items, %d inodes and %d blocks are free", len(items), a.spare(), a.free())
	}
}

// P10: what is done to a disk that is mounted is, for each step of a reservation r, at most 2 r + 6, beside what is recovered.
func TestCost(t *testing.T) {
	for _, acts := range [][]act{ghosts(), {lost(4, api.KindFile)}} {
		im := lived(t, small(), village(), acts)
		d := load(t, im)
		v := mounts(t, d)
		if steps := v.Log().Steps(); d.Made() == 0 || d.Made() > steps*(2*api.StepTrim+6) || v.Log().Commits() > steps {
			t.Errorf("%d steps, %d commits, %d things", steps, v.Log().Commits(), d.Made())
		}
	}
	d := load(t, lived(t, small(), village(), []act{lost(4, api.KindFile)}))
	if v := mounts(t, d); v.Log().Steps() != 1 || d.Made() != 2+6 {
		t.Errorf("%d steps, %d things", v.Log().Steps(), d.Made())
	}
}

// Rule 7: whoever was there before is not there any more behind Mount: claims, logs, volumes; what they had not committed is not there.
func TestClaim(t *testing.T) {
	d := fresh(t, small())
	v := mounts(t, d)
	run(t, v.Log(), village())
	ok(t, v.Sync(), named(4, "b")(v.Log()))
	l, desk, claim := v.Log(), v.Desk(), d.Claim()
	if v.Sync() != api.ErrDead || l.Check() != api.ErrDead {
		t.Fatal("rule 7: a claim")
	}
	u := mounts(t, d)
	if d.Claimed(claim) || v.Sync() != api.ErrDead || v.Close() != api.ErrDead || l.Check() != api.ErrDead || v.Log() != l || v.Desk() != desk {
		t.Error("rule 7")
	}
	if _, items := look(t, d.Image()); len(items) != 3 || u.Log() == l || u.Desk() == desk || u.Log().Check() != api.OK {
		t.Errorf("%d items", len(items))
	}
	w := mounts(t, d)
	if u.Sync() != api.ErrDead || u.Close() != api.ErrDead || w.Sync() != api.OK || w.Close() != api.OK || u.Close() != api.ErrDead {
		t.Error("rule 7: two volumes")
	}
	ok(t, mkfs.Make(d, small()))
	x := mounts(t, d)
	ok(t, mkfs.Make(d, small()))
	if x.Sync() != api.ErrDead || x.Close() != api.ErrDead {
		t.Error("rule 7: a file system was made")
	}
}

// Mounts that go on: what each volume did and closed is there for the next one.
func TestGoesOn(t *testing.T) {
	d := fresh(t, small())
	acts := slices.Concat(village(), ghosts())
	for i := 0; i < len(acts); i += 9 {
		v := mounts(t, d)
		run(t, v.Log(), []act{named(2+i/9, string(rune('A'+i/9)))})
		ok(t, v.Close())
		_, items := look(t, d.Image())
		if len(items) != 2+i/9 {
			t.Fatalf("behind volume %d: %d items", i/9, len(items))
		}
	}
	v := mounts(t, d)
	p := []byte("undercroft")
	n, err := lay.Write(v.Log(), 3, 1020, p)
	if n != 10 || err != api.OK {
		t.Fatal(n, err)
	}
	p[0] = 'x'
	ok(t, v.Close())
	if b, err := fetch.Read(mounts(t, d).Log(), 3, 1018, 20); string(b) != "\x00\x00undercroft" || err != api.OK {
		t.Errorf("%q, %d", b, err)
	}
}

// Disks side by side: what is done to one is nothing to another.
func TestSideBySide(t *testing.T) {
	c, d := fresh(t, small()), fresh(t, small())
	was := watch(d)
	u, v := mounts(t, c), mounts(t, d)
	run(t, u.Log(), village())
	ok(t, u.Desk().Hold(3), u.Sync())
	if !was.like(watch(d)) || v.Desk().Len() != 0 || v.Log().Used() != 0 || v.Log().Check() != api.OK || u.Log() == v.Log() || u.Desk() == v.Desk() {
		t.Error("the other one has changed")
	}
	ok(t, u.Close(), v.Sync(), v.Close())
}

// Chapter 24's examples, and DOC.md's that are about mounting.
func TestExamples(t *testing.T) {
	refused(t, nil, api.ErrNil)
	refused(t, load(t, api.Image{Blocks: 400}), api.ErrInval)
	d := load(t, api.Image{Blocks: 400})
	d.Fuse(0)
	d.Write(0, filled(1))
	refused(t, d, api.ErrDead)

	d, err := disk.New(400)
	ok(t, err, mkfs.Make(d, small()))
	v := mounts(t, d)
	if d.Made() != 12 {
		t.Errorf("%d things", d.Made())
	}
	if e, f, g := v.Close(), v.Close(), v.Sync(); e != api.OK || f != api.ErrNil || g != api.ErrNil || v.Log() != nil || v.Desk() != nil {
		t.Errorf("Close, Close, Sync: %d, %d, %d", e, f, g)
	}

	ok(t, d.Write(2, filled(5)), d.Write(1, header(39)), d.Barrier())
	mounts(t, d)
	if b, err := d.Read(39); b != filled(5) || err != api.OK || d.Made() != 15+4 {
		t.Errorf("%d things", d.Made())
	}
	ok(t, d.Write(1, header(5)), d.Barrier())
	made := d.Made()
	refused(t, d, api.ErrInval)
	if d.Made() != made {
		t.Errorf("%d things", d.Made()-made)
	}

	im := lived(t, small(), []act{lost(2, api.KindFile)}, bytes(2, 0, 1))
	if a, _ := look(t, im); a.free() != 359 || a.spare() != 58 {
		t.Fatalf("%d and %d are free", a.free(), a.spare())
	}
	d = load(t, im)
	mounts(t, d)
	if a, _ := look(t, d.Image()); a.free() != 361 || a.spare() != 59 {
		t.Errorf("%d and %d are free", a.free(), a.spare())
	}
}

// DOC.md's example 8: the disk stops right behind the header's write, of which nothing else is kept but that.
func TestExampleHeaderKept(t *testing.T) {
	d := fresh(t, small())
	v := mounts(t, d)
	run(t, v.Log(), village()[:1])
	d.Fuse(v.Log().Used() + 2)
	if err := v.Sync(); err != api.ErrDead {
		t.Fatal(err)
	}
	ok(t, d.Crash([]bool{true}))
	mounts(t, d)
	if _, items := look(t, d.Image()); len(items) != 2 || items[2].links != 1 {
		t.Errorf("%v", items)
	}
}
