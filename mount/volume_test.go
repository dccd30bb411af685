package mount_test

import (
	"slices"
	"testing"

	"undercroft/api"
	"undercroft/desk"
	"undercroft/disk"
	"undercroft/mount"
	"undercroft/wal"
)

// changing has a block of the group be another, in a step of its own.
func changing(at, n int) act {
	return step(1, func(l *wal.Log) api.Errno { return l.Write(at, filled(n)) })
}

// commits are the things by which blocks are committed.
func commits(blocks []int, data func(i int) api.Block) []api.Op {
	var ops []api.Op
	for i := range blocks {
		ops = append(ops, write(2+i, data(i)))
	}
	ops = append(ops, barrier(), write(1, header(blocks...)), barrier())
	return append(ops, moved(blocks, data)...)
}

// P24.3: the log and the desk are the same each time, also where the disk has stopped or is somebody else's.
func TestTheSame(t *testing.T) {
	for _, then := range []func(d *disk.Disk, v *mount.Volume){
		func(*disk.Disk, *mount.Volume) {},
		func(_ *disk.Disk, v *mount.Volume) { v.Sync() },
		func(_ *disk.Disk, v *mount.Volume) { v.Log().Begin(3); v.Close() },
		func(d *disk.Disk, _ *mount.Volume) { d.Fuse(0); d.Barrier() },
		func(d *disk.Disk, v *mount.Volume) { d.Claim(); v.Close() },
		func(d *disk.Disk, v *mount.Volume) { d.Crash(nil); v.Sync() },
	} {
		d := fresh(t, small())
		v := mounts(t, d)
		l, held := v.Log(), v.Desk()
		ok(t, held.Hold(2), held.Hold(2), changing(50, 1)(l))
		then(d, v)
		for range 2 {
			if v.Log() != l || v.Desk() != held || v.Desk().Len() != 1 || v.Desk().Holds(2) != 2 {
				t.Fatal("P24.3")
			}
		}
	}
}

// P24.1: the desk has room for eight inodes.
func TestDesk(t *testing.T) {
	v := mounts(t, fresh(t, small()))
	for inum := 1; inum <= 8; inum++ {
		if v.Desk().Full() {
			t.Fatalf("full with %d", inum-1)
		}
		ok(t, v.Desk().Hold(100*inum))
	}
	if !v.Desk().Full() || v.Desk().Hold(9) != api.ErrNfile || v.Desk().Hold(100) != api.OK || v.Desk().Len() != 8 {
		t.Error("the desk is not full")
	}
}

// P24.4: Sync and Close commit the group, write by write, and an empty one not at all.
func TestCommits(t *testing.T) {
	for name, do := range map[string]func(v *mount.Volume) api.Errno{"Sync": (*mount.Volume).Sync, "Close": (*mount.Volume).Close} {
		for _, blocks := range [][]int{nil, {50}, {399, 40, 41}, {33, 37, 38, 300}} {
			d := fresh(t, small())
			v := mounts(t, d)
			for i, at := range blocks {
				ok(t, changing(at, i)(v.Log()))
			}
			if d.Made() != 12 || len(d.History()) != 0 {
				t.Fatal("it was written ahead of time")
			}
			was := d.Image()
			ok(t, do(v))
			var want []api.Op
			others := map[int]api.Block{}
			if len(blocks) > 0 {
				want = commits(blocks, filled)
			}
			for i, at := range blocks {
				others[at], others[2+i] = filled(i), filled(i)
			}
			did(t, d, 0, want)
			holds(t, d, with(was, others))
			if name == "Close" {
				none(t, v)
				continue
			}
			ok(t, v.Sync(), v.Sync())
			did(t, d, 0, want)
			if v.Log().Used() != 0 || v.Log().Commits() != min(len(blocks), 1) || v.Log().Steps() != len(blocks) {
				t.Fatalf("%d, %d, %d", v.Log().Used(), v.Log().Commits(), v.Log().Steps())
			}
		}
	}
}

// P24.4: behind Close the volume and its log are none; the disk stays claimed, and stands as it is.
func TestClosed(t *testing.T) {
	for _, acts := range [][]act{nil, village(), slices.Concat(village(), ghosts())} {
		d := fresh(t, small())
		claim := d.Claim() + 1
		v := mounts(t, d)
		l := v.Log()
		run(t, l, acts)
		ok(t, v.Close())
		was := watch(d)
		none(t, v)
		if _, err := l.Read(0); err != api.ErrNil || l.Check() != api.ErrNil || l.Sync() != api.ErrNil || l.Close() != api.ErrNil || l.Begin(1) != api.ErrNil {
			t.Error("the log is there still")
		}
		if !d.Claimed(claim) || !was.like(watch(d)) {
			t.Error("the disk has changed")
		}
		// Also where the disk has stopped, or another volume has it.
		u := mounts(t, d)
		none(t, v)
		d.Fuse(0)
		d.Barrier()
		none(t, v)
		if u.Sync() != api.ErrDead {
			t.Error("rule 7")
		}
	}
}

// P24.4: a step is open: nothing is committed, nothing is closed, and the step goes on.
func TestOpenStep(t *testing.T) {
	d := fresh(t, small())
	v := mounts(t, d)
	l := v.Log()
	ok(t, changing(50, 1)(l), l.Begin(2), l.Write(51, filled(2)))
	was := watch(d)
	for range 2 {
		if e, f := v.Sync(), v.Close(); e != api.ErrStep || f != api.ErrStep {
			t.Fatalf("Sync: %d, Close: %d", e, f)
		}
		if !was.like(watch(d)) || !l.Open() || l.Used() != 2 || v.Log() != l {
			t.Fatal("the step is not as it was")
		}
	}
	ok(t, l.Write(52, filled(3)), l.End(), v.Sync(), v.Close())
	if a := read(t, d.Image()); a.blocks[50] != filled(1) || a.blocks[51] != filled(2) || a.blocks[52] != filled(3) {
		t.Error("it was not committed")
	}
	// ErrDead is ahead of it.
	v = mounts(t, d)
	ok(t, v.Log().Begin(2))
	d.Claim()
	if e, f := v.Sync(), v.Close(); e != api.ErrDead || f != api.ErrDead {
		t.Errorf("Sync: %d, Close: %d", e, f)
	}
}

// Rule 7: a volume whose disk has stopped, whose power went, or that somebody else has: ErrDead, with a group and without one, and nothing is done.
func TestDeadVolume(t *testing.T) {
	for name, die := range map[string]func(d *disk.Disk){
		"stopped":      func(d *disk.Disk) { d.Fuse(0); d.Barrier() },
		"claimed":      func(d *disk.Disk) { d.Claim() },
		"power":        func(d *disk.Disk) { d.Crash(nil) },
		"power, again": func(d *disk.Disk) { d.Crash(nil); d.Claim() },
		"mounted":      func(d *disk.Disk) { mount.Mount(d) },
	} {
		for _, acts := range [][]act{nil, {changing(50, 1)}} {
			d := fresh(t, small())
			v := mounts(t, d)
			run(t, v.Log(), acts)
			die(d)
			was := watch(d)
			for range 2 {
				if e, f := v.Sync(), v.Close(); e != api.ErrDead || f != api.ErrDead {
					t.Fatalf("%s: Sync: %d, Close: %d", name, e, f)
				}
			}
			if !was.like(watch(d)) {
				t.Fatalf("%s: the disk has changed", name)
			}
			ok(t, d.Crash(nil))
			if e, f := v.Sync(), v.Close(); e != api.ErrDead || f != api.ErrDead {
				t.Fatalf("%s: behind the power: Sync: %d, Close: %d", name, e, f)
			}
			if mounts(t, d).Log().Check() != api.OK {
				t.Fatal(name)
			}
		}
	}
}

// A volume whose log was closed by somebody else: what the log says is what it says.
func TestLogClosed(t *testing.T) {
	v := mounts(t, fresh(t, small()))
	ok(t, v.Log().Close())
	if e, f := v.Sync(), v.Close(); e != api.ErrNil || f != api.ErrNil {
		t.Errorf("Sync: %d, Close: %d", e, f)
	}
}

// P24.4, P24.5: what was synced or closed is there, the power going right behind; what was done later is not.
func TestPowerBehind(t *testing.T) {
	acts := slices.Concat(village(), bytes(2, 1, 2))
	g := api.Geometry{Blocks: 700, Log: 256, Inodes: 60} // all acts are one group
	ends := func(n int) api.Image {
		return outside(lived(t, g, acts[:n]), 256)
	}
	for n := range acts {
		for _, pending := range []bool{false, true} {
			d := fresh(t, g)
			v := mounts(t, d)
			run(t, v.Log(), acts[:n])
			if pending {
				ok(t, v.Sync())
				run(t, v.Log(), acts[n:])
			} else {
				ok(t, v.Close())
			}
			if len(d.Pending()) != 0 {
				t.Fatalf("pending: %v", d.Pending())
			}
			ok(t, d.Crash(nil))
			before := d.Made()
			mounts(t, d)
			if !same(outside(d.Image(), 256), ends(n)) || d.Made() != before {
				t.Fatalf("%d acts, then others: %t: the disk is not as it was, or was written", n, pending)
			}
		}
	}
}

// Many volumes behind each other, each closed or left: only what was closed or synced stays.
func TestLeft(t *testing.T) {
	d := fresh(t, small())
	held := []*desk.Desk{}
	for i := range 12 {
		v := mounts(t, d)
		if v.Desk().Len() != 0 || slices.Contains(held, v.Desk()) {
			t.Fatal("the desk is one that was there before")
		}
		held = append(held, v.Desk())
		ok(t, v.Desk().Hold(7))
		inum := 2 + i/2
		ok(t, named(inum, string(rune('a'+i/2)))(v.Log()))
		if i%2 == 1 {
			ok(t, v.Close())
		}
		if _, items := look(t, d.Image()); len(items) != 1+(i+1)/2 {
			t.Fatalf("behind volume %d: %d items", i, len(items))
		}
	}
}
