package mount_test

import (
	"math/rand"
	"slices"
	"testing"

	"undercroft/api"
	"undercroft/disk"
	"undercroft/mount"
)

// list is what is kept of n pending writes.
func list(n int, is func(i int) bool) []bool {
	keep := make([]bool, n)
	for i := range keep {
		keep[i] = is(i)
	}
	return keep
}

// choices are all lists of what is kept of n pending writes, or, of many, some.
func choices(n int) [][]bool {
	var out [][]bool
	if n <= 5 {
		for bits := range 1 << n {
			out = append(out, list(n, func(i int) bool { return bits>>i&1 == 1 }))
		}
		return out
	}
	r := rand.New(rand.NewSource(int64(n)))
	return append(out,
		nil, list(n, func(int) bool { return true }),
		list(n, func(i int) bool { return i%2 == 0 }), list(n, func(i int) bool { return i%2 == 1 }),
		list(n, func(i int) bool { return i == 0 }), list(n, func(i int) bool { return i == n-1 }),
		list(n, func(i int) bool { return i != 0 }), list(n, func(int) bool { return r.Intn(2) == 0 }),
	)
}

// stopped is a disk that held an image, and stopped behind so many writes and barriers of its mounting.
func stopped(t testing.TB, im api.Image, fuse int) *disk.Disk {
	t.Helper()
	d := load(t, im)
	claim := d.Claim()
	d.Fuse(fuse)
	refused(t, d, api.ErrDead)
	refused(t, d, api.ErrDead)
	if !d.Stopped() || d.Made() != fuse || d.Claimed(claim) {
		t.Fatalf("a fuse of %d: %d things were done", fuse, d.Made())
	}
	return d
}

// sound asks whether what an image holds, the group that its header names being in place, is what stood there when its mounting began, but for orphans.
func sound(t testing.TB, im api.Image, items map[int]item, gone []int) {
	t.Helper()
	a, now := look(t, im)
	if !likeItems(without(now, gone), without(items, gone)) {
		t.Fatal("P4: what had names is not there")
	}
	for _, inum := range a.orphans() {
		if !slices.Contains(gone, inum) {
			t.Fatalf("P4: inode %d is an orphan", inum)
		}
	}
}

// images are sound disks in the mounting of which there is something to do.
func images(t testing.TB) map[string]api.Image {
	t.Helper()
	base := lived(t, small(), village())
	all := lived(t, small(), village(), ghosts())
	var many []act
	for inum := 4; inum <= 639; inum++ {
		many = append(many, lost(inum, api.KindFile))
		if inum%64 == 0 {
			many = append(many, bytes(inum, 3)...)
		}
	}
	return map[string]api.Image{
		"a group":              valid(t, base, []act{named(4, "b")}, bytes(4, 0, 20)),
		"orphans":              all,
		"a group, orphans":     valid(t, base, []act{unnamed(2, "a"), lost(4, api.KindFile)}, bytes(4, 3, 11)),
		"a group that is full": valid(t, base, []act{lost(4, api.KindFile)}, bytes(4, 0, 1, 2, 3, 4, 5)),
		"several commits":      lived(t, api.Geometry{Blocks: 200, Log: 32, Inodes: 640}, village(), many),
	}
}

// P24.1, P24.5, P4: a disk that stops at each write and barrier of its mounting, whichever of the writes that are pending are kept: the mounting is ErrDead, and the next one that does not stop comes to what the first would have come to.
func TestStopped(t *testing.T) {
	for name, im := range images(t) {
		d, _ := whole(t, im)
		ops, _ := partByPart(t, im)
		if d.Made() != len(ops) || len(ops) < 4 {
			t.Fatalf("%s: %d things", name, len(ops))
		}
		a, items := look(t, im)
		ends := outside(d.Image(), a.log)
		for fuse := range ops {
			n := len(stopped(t, im, fuse).Pending())
			for _, keep := range choices(n) {
				d := stopped(t, im, fuse)
				did(t, d, 0, ops[:fuse])
				ok(t, d.Crash(keep))
				sound(t, d.Image(), items, a.orphans())
				mounts(t, d)
				if !same(outside(d.Image(), a.log), ends) || len(d.Pending()) != 0 {
					t.Fatalf("%s, a fuse of %d, kept %v: the disk is not as it ought to be", name, fuse, keep)
				}
			}
			d := stopped(t, im, fuse)
			ok(t, d.Crash(nil))
			mounts(t, d)
			stays(t, d)
		}
		// A fuse that lets all through stops nothing.
		d = load(t, im)
		d.Fuse(len(ops))
		mounts(t, d)
		if d.Stopped() || d.Barrier() != api.ErrDead {
			t.Errorf("%s: it stops elsewhere", name)
		}
	}
}

// P4: the power goes again and again while a disk is mounted.
func TestStoppedAgain(t *testing.T) {
	r := rand.New(rand.NewSource(24))
	for name, im := range images(t) {
		d, _ := whole(t, im)
		a, items := look(t, im)
		ends, most := outside(d.Image(), a.log), d.Made()
		for range 25 {
			d := load(t, im)
			for range 8 {
				d.Fuse(r.Intn(most))
				v, err := mount.Mount(d)
				if (v == nil) == (err == api.OK) || (err == api.ErrDead) != d.Stopped() {
					t.Fatalf("%s: %v, %d", name, v, err)
				}
				ok(t, d.Crash(list(len(d.Pending()), func(int) bool { return r.Intn(2) == 0 })))
				sound(t, d.Image(), items, a.orphans())
			}
			mounts(t, d)
			if !same(outside(d.Image(), a.log), ends) {
				t.Fatalf("%s: the disk is not as it ought to be", name)
			}
		}
	}
}

// life is what is done on a volume, act by act; behind some acts it is synced. How many acts were begun, and how many of them were answered ahead of a sync that was answered.
func life(t testing.TB, v *mount.Volume, acts []act, synced func(i int) bool) (int, int) {
	t.Helper()
	held := 0
	for i, do := range acts {
		if err := do(v.Log()); err != api.OK {
			return i + 1, held
		}
		if !synced(i) {
			continue
		}
		if err := v.Sync(); err != api.OK {
			return i + 1, held
		}
		held = i + 1
	}
	if v.Close() == api.OK {
		held = len(acts)
	}
	return len(acts), held
}

// states are what a disk of this geometry holds outside the log behind each number of the acts, closed and mounted anew.
func states(t testing.TB, g api.Geometry, acts []act) []api.Image {
	t.Helper()
	var l []api.Image
	for n := range len(acts) + 1 {
		d := load(t, lived(t, g, acts[:n]))
		mounts(t, d)
		l = append(l, outside(d.Image(), g.Log))
	}
	return l
}

// P4: a disk that stops at each write and barrier of what is done on a volume, of its Sync and of its Close, whichever of the pending writes are kept: the next mounting finds it as it was behind one of the steps, in time.
func TestLife(t *testing.T) {
	acts := slices.Concat(village(), []act{named(4, "b"), lost(5, api.KindFile)}, bytes(5, 0, 12), bytes(4, 0, 9, 10, 500), []act{unnamed(2, "a"), directory(6, "g"), named(7, "c")}, bytes(7, 0, 1))
	some, empty := states(t, small(), acts), fresh(t, small()).Image()
	for _, synced := range []func(i int) bool{
		func(int) bool { return false },
		func(int) bool { return true },
		func(i int) bool { return i%4 == 1 },
	} {
		d := load(t, empty)
		before := d.Made()
		if begun, held := life(t, mounts(t, d), acts, synced); begun != len(acts) || held != len(acts) {
			t.Fatal(begun, held)
		}
		for fuse := range d.Made() - before {
			begin := func() (*disk.Disk, *mount.Volume, int, int) {
				d := load(t, empty)
				v := mounts(t, d)
				d.Fuse(fuse)
				begun, held := life(t, v, acts, synced)
				return d, v, begun, held
			}
			d, _, _, _ := begin()
			ways := choices(len(d.Pending()))
			for _, keep := range ways[:min(8, len(ways))] {
				d, v, begun, held := begin()
				l := v.Log()
				if v.Sync() != api.ErrDead || v.Close() != api.ErrDead || v.Log() != l || l.Check() != api.ErrDead {
					t.Fatal("rule 7")
				}
				ok(t, d.Crash(keep))
				if v.Sync() != api.ErrDead || v.Close() != api.ErrDead {
					t.Fatal("rule 7")
				}
				mounts(t, d)
				im := outside(d.Image(), 32)
				if !slices.ContainsFunc(some[held:begun+1], func(s api.Image) bool { return same(s, im) }) {
					t.Fatalf("a fuse of %d, kept %v: the disk is as it was behind none of the steps %d to %d", fuse, keep, held, begun)
				}
			}
		}
	}
}

// P24.4: a disk that stops in a Sync, in a Close: ErrDead, the volume is not closed, and the group is there wholly or not at all.
func TestStoppedCommit(t *testing.T) {
	base := lived(t, small(), village())
	acts := slices.Concat([]act{named(4, "b")}, bytes(4, 0))
	empty := load(t, base)
	ends := []api.Image{outside(base, 32), outside(lived(t, small(), village(), acts), 32)}
	for name, do := range map[string]func(v *mount.Volume) api.Errno{"Sync": (*mount.Volume).Sync, "Close": (*mount.Volume).Close} {
		whole := load(t, base)
		v := mounts(t, whole)
		run(t, v.Log(), acts)
		n := v.Log().Used()
		ok(t, do(v))
		if whole.Made() != 2*n+6 {
			t.Fatalf("%s: %d things", name, whole.Made())
		}
		found := map[bool]int{}
		for fuse := range whole.Made() {
			begin := func() (*disk.Disk, *mount.Volume) {
				d := load(t, base)
				v := mounts(t, d)
				run(t, v.Log(), acts)
				d.Fuse(fuse)
				if err := do(v); err != api.ErrDead || v.Log() == nil || v.Desk() == nil || v.Sync() != api.ErrDead || v.Close() != api.ErrDead {
					t.Fatalf("%s, a fuse of %d: %d", name, fuse, err)
				}
				did(t, d, 0, whole.History()[:fuse])
				return d, v
			}
			d, _ := begin()
			for _, keep := range choices(len(d.Pending())) {
				d, v := begin()
				ok(t, d.Crash(keep))
				if do(v) != api.ErrDead || v.Log() == nil {
					t.Fatal("rule 7")
				}
				mounts(t, d)
				im := outside(d.Image(), 32)
				there := same(im, ends[1])
				if !there && !same(im, ends[0]) || fuse >= n+3 && !there || fuse < n+2 && there {
					t.Fatalf("%s, a fuse of %d, kept %v: the group is there: %t", name, fuse, keep, there)
				}
				found[there]++
			}
		}
		if found[true] == 0 || found[false] == 0 {
			t.Errorf("%s: %v", name, found)
		}
		// Without a group no fuse stops the disk.
		v = mounts(t, empty)
		empty.Fuse(0)
		ok(t, do(v))
		if empty.Stopped() {
			t.Errorf("%s: it has stopped", name)
		}
		ok(t, empty.Crash(nil))
	}
}
