package mkfs_test

import (
	"math/rand"
	"slices"
	"testing"

	"undercroft/api"
	"undercroft/disk"
	"undercroft/past"
	"undercroft/shape"
)

// all are all lists of what is kept of n pending writes.
func all(n int) [][]bool {
	out := make([][]bool, 0, 1<<n)
	for bits := range 1 << n {
		out = append(out, list(n, func(i int) bool { return bits>>i&1 == 1 }))
	}
	return out
}

func list(n int, is func(i int) bool) []bool {
	keep := make([]bool, n)
	for i := range keep {
		keep[i] = is(i)
	}
	return keep
}

// choices are all lists of what is kept of n pending writes, or, of many, some: none, all, every second one, the first and the last alone, all but these, and some more.
func choices(n int) [][]bool {
	if n <= 7 {
		return all(n)
	}
	r := rand.New(rand.NewSource(int64(n)))
	return [][]bool{
		nil, list(n, func(int) bool { return true }),
		list(n, func(i int) bool { return i%2 == 0 }), list(n, func(i int) bool { return i%2 == 1 }),
		list(n, func(i int) bool { return i == 0 }), list(n, func(i int) bool { return i == n-1 }),
		list(n, func(i int) bool { return i != 0 }), list(n, func(i int) bool { return i != n-1 }),
		list(n, func(int) bool { return r.Intn(2) == 0 }), list(n, func(int) bool { return r.Intn(9) == 0 }),
	}
}

// stopped is a disk that held an image, and that stopped behind so many writes and barriers of a Make.
func stopped(t testing.TB, im api.Image, g api.Geometry, fuse int) *disk.Disk {
	t.Helper()
	d := load(t, im)
	d.Fuse(fuse)
	makes(t, d, g, api.ErrDead)
	return d
}

// waiting is how many of some ops are writes that no barrier stands behind.
func waiting(ops []api.Op) int {
	n := 0
	for _, op := range ops {
		if n++; op.Kind == api.OpBarrier {
			n = 0
		}
	}
	return n
}

// left is what a disk holds behind a Make that was stopped: by P23.3, in the words of its three cases, and block by block.
func left(t testing.TB, d *disk.Disk, im api.Image, a *account, fuse int, keep []bool) {
	t.Helper()
	got, ops := d.Image(), a.ops()
	want, err := past.After(im, ops, fuse, keep)
	if err != api.OK || !same(got, want) {
		t.Fatalf("a fuse of %d, kept %v: the blocks %v are not as they ought to be", fuse, keep, past.Changed(got, want))
	}
	b, err := d.Read(0)
	switch {
	case err == api.OK && b == (api.Block{}):
	case fuse < 2 && same(got, im):
	case fuse == len(ops)-1 && same(got, a.on(im)):
	default:
		t.Fatalf("a fuse of %d, kept %v: neither what it was, nor nothing, nor all", fuse, keep)
	}
}

// images are disks on which a file system may be made, of so many blocks.
func images(blocks int) []api.Image {
	a := of(api.Geometry{Blocks: blocks, Log: 32, Inodes: 1})
	return []api.Image{blank(blocks), full(blocks), a.on(blank(blocks)), a.on(full(blocks))}
}

// few is a disk some of whose blocks are not blank: those at the ends of the regions, and one behind the file system.
func few(a *account) api.Image {
	im := blank(a.g.Blocks + 1)
	ats := []int{0, 1, 2, a.nodes, a.nodes + 1, a.bits - 1, a.bits, a.data - 1, a.data, a.data + 1, a.g.Blocks - 1, a.g.Blocks}
	slices.Sort(ats)
	for _, at := range slices.Compact(ats) {
		im.Data = append(im.Data, api.Held{Index: at, Data: filled(at % 255)})
	}
	return im
}

// P23.3: a disk that stops at each write and barrier, whichever of the pending writes are kept. Behind it the disk is as if that Make had been no more than that, and a Make that is not stopped makes all of it.
func TestStopped(t *testing.T) {
	for _, g := range []api.Geometry{small(), least(), {Blocks: 36, Log: 32, Inodes: 15}, {Blocks: 40, Log: 32, Inodes: 16}, {Blocks: 300, Log: 256, Inodes: 100}, {Blocks: 400, Log: 32, Inodes: 900}} {
		a := of(g)
		ops := a.ops()
		for _, im := range images(g.Blocks + 2) {
			for fuse := range ops {
				for _, keep := range choices(waiting(ops[:fuse])) {
					d := stopped(t, im, g, fuse)
					did(t, d, ops[:fuse])
					if d.Made() != fuse || !d.Stopped() || d.Claim() != 0 {
						t.Fatalf("a fuse of %d: %d things, stopped: %t", fuse, d.Made(), d.Stopped())
					}
					makes(t, d, g, api.ErrDead)
					ok(t, d.Crash(keep))
					left(t, d, im, a, fuse, keep)
				}
			}
		}
	}
}

// The same of a bitmap of several blocks, of the most inodes and of all at its greatest: at the first and last writes of each part.
func TestStoppedGreat(t *testing.T) {
	for _, g := range []api.Geometry{{Blocks: 8193, Log: 32, Inodes: 60}, {Blocks: 4131, Log: 32, Inodes: 65535}, {Blocks: 16385, Log: 256, Inodes: 65535}} {
		a := of(g)
		ops := a.ops()
		for _, im := range []api.Image{blank(g.Blocks), few(a)} {
			for _, fuse := range []int{0, 1, 2, 3, 4, len(ops) / 2, len(ops) - 5, len(ops) - 4, len(ops) - 3, len(ops) - 2, len(ops) - 1} {
				for _, keep := range choices(waiting(ops[:fuse])) {
					d := stopped(t, im, g, fuse)
					ok(t, d.Crash(keep))
					left(t, d, im, a, fuse, keep)
				}
			}
		}
	}
}

// A fuse that lets all through stops nothing; the one behind it does.
func TestFuseEnough(t *testing.T) {
	for _, g := range []api.Geometry{small(), least(), {Blocks: 8193, Log: 32, Inodes: 60}} {
		ops := of(g).ops()
		for more := range 3 {
			d := load(t, full(g.Blocks))
			d.Fuse(len(ops) + more)
			makes(t, d, g, api.OK)
			did(t, d, ops)
			for range more {
				ok(t, d.Barrier())
			}
			if d.Stopped() || d.Barrier() != api.ErrDead {
				t.Errorf("%d more: it stops elsewhere", more)
			}
			ok(t, d.Crash(nil))
			holds(t, d, of(g).on(full(g.Blocks)))
		}
	}
}

// Writes that were pending when Make began may be lost or kept too, ahead of its first barrier; behind it they are held.
func TestStoppedPending(t *testing.T) {
	im, a := full(400), of(small())
	ahead := []api.Op{write(38, filled(201)), write(0, filled(200)), write(399, filled(202))}
	ops := append(slices.Clone(ahead), a.ops()...)
	for fuse := range a.ops() {
		for _, keep := range choices(waiting(ops[:fuse+len(ahead)])) {
			d := load(t, im)
			for _, op := range ahead {
				ok(t, d.Write(op.At, op.Data))
			}
			d.Fuse(fuse)
			makes(t, d, small(), api.ErrDead)
			did(t, d, ops[:fuse+len(ahead)])
			ok(t, d.Crash(keep))
			want, err := past.After(im, ops, fuse+len(ahead), keep)
			ok(t, err)
			holds(t, d, want)
		}
	}
}

// The claim that was is over behind a Make that the disk stopped, also at its first write; the next one has the number behind Make's.
func TestStoppedClaim(t *testing.T) {
	for fuse := range of(small()).ops() {
		d := load(t, full(400))
		was := d.Claim()
		d.Fuse(fuse)
		makes(t, d, small(), api.ErrDead)
		if d.Claimed(was) || d.Claimed(was+1) {
			t.Errorf("a fuse of %d: claimed", fuse)
		}
		ok(t, d.Crash(nil))
		if n := d.Claim(); n != was+2 {
			t.Errorf("a fuse of %d: the claim behind it is %d", fuse, n)
		}
	}
}

// super asks what shape finds on a disk: a file system of this geometry, or none.
func super(t testing.TB, d *disk.Disk, g api.Geometry, want api.Errno) {
	t.Helper()
	b, err := d.Read(0)
	ok(t, err)
	where, err := shape.Decode(b, d.Len())
	if err != want || want == api.OK && where.Geometry != g {
		t.Fatalf("the superblock says %+v, %d, not %+v, %d", where.Geometry, err, g, want)
	}
}

// P9: a file system that is there, another one being made on its disk: whoever looks for one finds the old one, as it was, none, or the new one, and each where it ought to be.
func TestOneOrNone(t *testing.T) {
	old, g := small(), api.Geometry{Blocks: 390, Log: 40, Inodes: 100}
	im := of(old).on(full(400))
	ops := of(g).ops()
	found := map[api.Geometry]int{}
	for fuse := range ops {
		for _, keep := range choices(waiting(ops[:fuse])) {
			d := stopped(t, im, g, fuse)
			ok(t, d.Crash(keep))
			last := len(keep) > 0 && keep[len(keep)-1]
			switch {
			case fuse == 0, fuse == 1 && !last:
				super(t, d, old, api.OK)
				found[old]++
				holds(t, d, im)
			case fuse == len(ops)-1 && last:
				super(t, d, g, api.OK)
				found[g]++
				holds(t, d, of(g).on(im))
			default:
				super(t, d, g, api.ErrInval)
			}
		}
	}
	if found[old] != 2 || found[g] != 1 {
		t.Errorf("the old one %d times, the new one %d times", found[old], found[g])
	}
}

// The power goes again and again while file systems are made: what is left is by all that was made and kept, and a Make that is not stopped makes all of its own.
func TestStoppedAgain(t *testing.T) {
	r := rand.New(rand.NewSource(1))
	l := []api.Geometry{small(), least(), {Blocks: 400, Log: 40, Inodes: 100}, {Blocks: 390, Log: 32, Inodes: 200}}
	for range 200 {
		d := load(t, full(400))
		for range 12 {
			g := l[r.Intn(len(l))]
			a, im := of(g), d.Image()
			fuse := r.Intn(len(a.ops()))
			d.Fuse(fuse)
			makes(t, d, g, api.ErrDead)
			keep := list(len(d.Pending()), func(int) bool { return r.Intn(2) == 0 })
			ok(t, d.Crash(keep))
			left(t, d, im, a, fuse, keep)
		}
		g, im := l[r.Intn(len(l))], d.Image()
		makes(t, d, g, api.OK)
		did(t, d, of(g).ops())
		ok(t, d.Crash(nil))
		holds(t, d, of(g).on(im))
		super(t, d, g, api.OK)
	}
}
