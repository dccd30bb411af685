package mkfs_test

import (
	"slices"
	"testing"

	"undercroft/api"
	"undercroft/disk"
	"undercroft/wal"
)

// P23.1: the disk's history, write by write and byte by byte, of every kind of geometry; behind it nothing is pending, and all else on the disk is as it was, the blocks behind the file system's too.
func TestHistory(t *testing.T) {
	for _, g := range some() {
		a := of(g)
		for _, more := range []int{0, 1, 5} {
			if g.Blocks+more > api.MaxBlocks || more > 0 && g.Blocks > 20000 {
				continue
			}
			held := []api.Image{blank(g.Blocks + more)}
			if g.Blocks < 20000 {
				held = append(held, full(g.Blocks+more))
			}
			for _, im := range held {
				d := load(t, im)
				makes(t, d, g, api.OK)
				did(t, d, a.ops())
				holds(t, d, a.on(im))
				if d.Made() != len(a.ops()) || len(d.Pending()) != 0 || d.Stopped() {
					t.Errorf("%+v: %d things were done, %v is pending, stopped: %t", g, d.Made(), d.Pending(), d.Stopped())
				}
			}
		}
	}
}

// The account's numbers at the borders, as the document tells them.
func TestAccount(t *testing.T) {
	for _, x := range []struct {
		g    api.Geometry
		data int
		ops  int
	}{
		{small(), 38, 12},
		{least(), 35, 9},
		{api.Geometry{Blocks: 37, Log: 32, Inodes: 16}, 36, 10},
		{api.Geometry{Blocks: 8193, Log: 32, Inodes: 60}, 39, 13},
		{api.Geometry{Blocks: 1 << 20, Log: 256, Inodes: 65535}, 4481, 4231},
	} {
		if a := of(x.g); a.data != x.data || len(a.ops()) != x.ops {
			t.Errorf("%+v: the data begins at %d, %d things", x.g, a.data, len(a.ops()))
		}
	}
}

// Chapter 23, example 1.
func TestExample(t *testing.T) {
	d, err := disk.New(400)
	ok(t, err)
	makes(t, d, small(), api.OK)
	var l []int
	for _, op := range d.History() {
		if op.Kind == api.OpBarrier {
			op.At = -1
		}
		l = append(l, op.At)
	}
	if !slices.Equal(l, []int{0, -1, 1, 33, 34, 35, 36, 37, 38, -1, 0, -1}) {
		t.Error("the history:", l)
	}
	for at, want := range map[int]api.Block{
		0:   {'c', 'r', 'o', 'f', 't', 'f', 's', '1', 144, 1, 0, 0, 32, 0, 0, 0, 60, 0, 0, 0, 1, 0, 0, 0, 33, 0, 0, 0, 4, 0, 0, 0, 37, 0, 0, 0, 1, 0, 0, 0, 38, 0, 0, 0},
		1:   {},
		33:  {64: 2, 66: 2, 68: 32, 72: 1, 76: 38},
		34:  {},
		35:  {},
		36:  {},
		37:  {255, 255, 255, 255, 127},
		38:  {0: 1, 2: 46, 16: 1, 18: 46, 19: 46},
		39:  {},
		399: {},
	} {
		if b, err := d.Read(at); b != want || err != api.OK {
			t.Errorf("block %d, byte %d; %d", at, unlike(b, want), err)
		}
	}
}

// Chapter 23, example 2.
func TestExampleOther(t *testing.T) {
	im := full(400)
	d := load(t, im)
	makes(t, d, api.Geometry{Blocks: 401, Log: 32, Inodes: 60}, api.ErrArg)
	holds(t, d, im)
	less := api.Geometry{Blocks: 300, Log: 32, Inodes: 60}
	makes(t, d, less, api.OK)
	for at := 300; at < 400; at++ {
		if b, err := d.Read(at); b != filled(at) || err != api.OK {
			t.Errorf("block %d, byte %d; %d", at, unlike(b, filled(at)), err)
		}
	}
	for _, op := range d.History() {
		if op.At >= 300 {
			t.Errorf("block %d is written", op.At)
		}
	}
}

// Chapter 23, example 3.
func TestExampleFuse(t *testing.T) {
	im := full(400)
	d := load(t, im)
	d.Fuse(9)
	makes(t, d, small(), api.ErrDead)
	ok(t, d.Crash(nil))
	holds(t, d, made(im, []api.Op{write(0, api.Block{})}))
	if b, err := d.Read(0); b != (api.Block{}) || err != api.OK {
		t.Errorf("block 0, byte %d; %d", unlike(b, api.Block{}), err)
	}
}

// A file system made on a disk that has one, of the same and of another geometry, also one whose log is not empty: it is what is made on any other disk, and what no part writes stays.
func TestAgain(t *testing.T) {
	l := []api.Geometry{
		small(), {Blocks: 400, Log: 33, Inodes: 60}, {Blocks: 300, Log: 32, Inodes: 60}, {Blocks: 400, Log: 256, Inodes: 900}, {Blocks: 400, Log: 32, Inodes: 5000}, least(), {Blocks: 8193, Log: 40, Inodes: 16},
	}
	for _, begin := range []api.Image{blank(9000), full(9000)} {
		for _, first := range l {
			for _, second := range l {
				d := load(t, begin)
				makes(t, d, first, api.OK)
				ok(t, d.Write(1, api.Block{1, 4: byte(of(first).data)}), d.Write(2, filled(77)), d.Barrier())
				im := d.Image()
				ok(t, d.Crash(nil))
				makes(t, d, second, api.OK)
				did(t, d, of(second).ops())
				holds(t, d, of(second).on(im))
			}
		}
	}
}

// A file system that was used, its last group still in the log: none of it is found behind Make.
func TestUsed(t *testing.T) {
	d, where := load(t, blank(400)), layout(t, small())
	makes(t, d, small(), api.OK)
	l, err := wal.New(d, where)
	ok(t, err, l.Begin(3), l.Write(33, filled(1)), l.Write(37, filled(2)), l.Write(38, filled(3)), l.End())
	d.Fuse(5) // three writes into the log, a barrier, the header
	if err := l.Sync(); err != api.ErrDead {
		t.Fatal(err)
	}
	ok(t, d.Crash([]bool{true}))
	im := d.Image()
	if b, err := d.Read(1); b[0] != 3 || err != api.OK {
		t.Fatalf("the header says %d; %d", b[0], err)
	}
	makes(t, d, small(), api.OK)
	holds(t, d, of(small()).on(im))
	if n, err := wal.Recover(d, where); n != 0 || err != api.OK || d.Made() != 24+5 {
		t.Errorf("Recover: %d, %d; %d things were done", n, err, d.Made())
	}
}

// What is pending when Make is called is held by its first barrier, and what of it is written over is gone.
func TestPending(t *testing.T) {
	im := full(400)
	d := load(t, im)
	ahead := []api.Op{write(0, filled(200)), write(38, filled(201)), write(399, filled(202)), write(20, api.Block{}), write(399, filled(203))}
	for _, op := range ahead {
		ok(t, d.Write(op.At, op.Data))
	}
	makes(t, d, small(), api.OK)
	did(t, d, append(slices.Clone(ahead), of(small()).ops()...))
	holds(t, d, of(small()).on(made(im, ahead)))
}

// Make does the same each time, also on several disks by turns.
func TestTwice(t *testing.T) {
	l := []*disk.Disk{load(t, blank(400)), load(t, full(500)), load(t, blank(36))}
	for round := range 3 {
		for i, g := range []api.Geometry{small(), small(), least()} {
			makes(t, l[i], g, api.OK)
			did(t, l[i], slices.Repeat(of(g).ops(), round+1))
		}
	}
}

// A disk is claimed once by a Make that is not refused, and belongs to none of those any more that had claimed it.
func TestClaim(t *testing.T) {
	d := load(t, blank(400))
	for i := 1; i < 8; i += 2 {
		was := d.Claim()
		if was != i || !d.Claimed(was) {
			t.Fatalf("claim %d is %d", i, was)
		}
		makes(t, d, small(), api.OK)
		if d.Claimed(was) || !d.Claimed(was+1) {
			t.Errorf("claim %d: %t, the next one: %t", was, d.Claimed(was), d.Claimed(was+1))
		}
	}
	if n := d.Claim(); n != 9 {
		t.Errorf("the ninth claim is %d", n)
	}
}

// A log that was made of the disk is dead behind a Make that is not refused, with all that it has not committed, and lives on behind one that is.
func TestLog(t *testing.T) {
	d, where := load(t, blank(400)), layout(t, small())
	makes(t, d, small(), api.OK)
	l, err := wal.New(d, where)
	ok(t, err, l.Begin(1), l.Write(50, filled(1)), l.End())
	makes(t, d, api.Geometry{Blocks: 401, Log: 32, Inodes: 60}, api.ErrArg)
	makes(t, nil, small(), api.ErrNil)
	ok(t, l.Check(), l.Sync(), l.Begin(1), l.Write(50, filled(2)), l.End())
	im := d.Image()
	makes(t, d, small(), api.OK)
	if l.Check() != api.ErrDead || l.Sync() != api.ErrDead {
		t.Errorf("the log: %d, %d", l.Check(), l.Sync())
	}
	holds(t, d, of(small()).on(im))
	if b, err := d.Read(50); b != filled(1) || err != api.OK {
		t.Errorf("block 50, byte %d; %d", unlike(b, filled(1)), err)
	}
}

// What is written is the same whatever the disk held, at any one block too.
func TestWhateverHeld(t *testing.T) {
	a := of(small())
	held := []api.Image{blank(400), full(400), a.on(blank(400)), a.on(full(400)), of(least()).on(full(400))}
	for _, at := range []int{0, 1, 33, 37, 38, 399} {
		held = append(held, api.Image{Blocks: 400, Data: []api.Held{{Index: at, Data: filled(at)}}})
	}
	for _, im := range held {
		d := load(t, im)
		makes(t, d, small(), api.OK)
		did(t, d, a.ops())
		holds(t, d, a.on(im))
	}
}
