package mkfs_test

import (
	"math"
	"slices"
	"testing"

	"undercroft/api"
	"undercroft/disk"
)

// wrong are geometries that may not be, of each kind: as such, whatever disk there is.
func wrong() []api.Geometry {
	l := []api.Geometry{
		{}, {Blocks: 400}, {Log: 32, Inodes: 60}, {Blocks: 400, Log: 32}, {Blocks: 400, Inodes: 60},
		// No data block: just one too few, and many.
		{Blocks: 35, Log: 32, Inodes: 1}, {Blocks: 36, Log: 32, Inodes: 16}, {Blocks: 36, Log: 33, Inodes: 15}, {Blocks: 38, Log: 32, Inodes: 60}, {Blocks: 4130, Log: 32, Inodes: 65535}, {Blocks: 4354, Log: 256, Inodes: 65535}, {Blocks: 1, Log: 32, Inodes: 1},
	}
	for _, n := range []int{math.MinInt, -400, -1, 0, 31, 257, math.MaxInt} {
		l = append(l, api.Geometry{Blocks: 400, Log: n, Inodes: 60})
	}
	for _, n := range []int{math.MinInt, -1, 0, 65536, math.MaxInt} {
		l = append(l, api.Geometry{Blocks: 400, Log: 32, Inodes: n}, api.Geometry{Blocks: 1 << 20, Log: 32, Inodes: n})
	}
	for _, n := range []int{math.MinInt, -1, 0, 1<<20 + 1, math.MaxInt} {
		l = append(l, api.Geometry{Blocks: n, Log: 32, Inodes: 60})
	}
	return l
}

// seen is all that a disk tells of itself.
type seen struct {
	made, reads int
	stopped     bool
	pending     []int
	history     []api.Op
	image       api.Image
}

func look(d *disk.Disk) seen {
	return seen{d.Made(), d.Reads(), d.Stopped(), d.Pending(), d.History(), d.Image()}
}

func (s seen) like(o seen) bool {
	return s.made == o.made && s.reads == o.reads && s.stopped == o.stopped && slices.Equal(s.pending, o.pending) && slices.Equal(s.history, o.history) && same(s.image, o.image)
}

// claimed is a disk that was written to and claimed, some writes being pending; it may have stopped.
func claimed(t testing.TB, blocks int, stopped bool) *disk.Disk {
	t.Helper()
	d := load(t, blank(blocks))
	ok(t, d.Write(0, filled(1)), d.Write(blocks-1, filled(2)), d.Barrier(), d.Write(0, filled(3)))
	d.Claim()
	if n := d.Claim(); n != 2 {
		t.Fatalf("the second claim is %d", n)
	}
	if stopped {
		d.Fuse(0)
		if err := d.Barrier(); err != api.ErrDead {
			t.Fatal(err)
		}
	}
	return d
}

// refuses asks whether Make is refused, and leaves a disk that claimed made as it was, with its claim; and whether the next claim has the number that it would have had.
func refuses(t testing.TB, d *disk.Disk, g api.Geometry, want api.Errno) {
	t.Helper()
	was := look(d)
	makes(t, d, g, want)
	if !was.like(look(d)) {
		t.Fatalf("%+v: the disk is not as it was", g)
	}
	if d.Claimed(2) == d.Stopped() {
		t.Fatalf("%+v: claimed: %t, stopped: %t", g, d.Claimed(2), d.Stopped())
	}
	// A disk that has stopped is not claimed by anybody until the power goes.
	ok(t, d.Crash(nil))
	if n := d.Claim(); n != 3 {
		t.Fatalf("%+v: the claim behind it is %d", g, n)
	}
}

// none are disks that neither New nor Load made.
func none(t testing.TB) map[string]*disk.Disk {
	t.Helper()
	whole, dead := *claimed(t, 400, false), *claimed(t, 400, true)
	return map[string]*disk.Disk{"nil": nil, "zero": {}, "a copy": &whole, "a copy of one that has stopped": &dead}
}

// ErrNil comes first, whatever the geometry.
func TestNoDisk(t *testing.T) {
	for name, d := range none(t) {
		t.Run(name, func(t *testing.T) {
			for _, g := range append(wrong(), append(some(), api.Geometry{Blocks: 401, Log: 32, Inodes: 60})...) {
				makes(t, d, g, api.ErrNil)
			}
		})
	}
}

// The disk of which there is a copy is not touched by a Make on that.
func TestCopy(t *testing.T) {
	d := claimed(t, 400, false)
	other, was := *d, look(d)
	makes(t, &other, small(), api.ErrNil)
	if !was.like(look(d)) || !d.Claimed(2) {
		t.Error("the disk itself is not as it was")
	}
}

// ErrArg: geometries that may not be, ahead of ErrDead.
func TestWrong(t *testing.T) {
	for _, g := range wrong() {
		for _, stopped := range []bool{false, true} {
			refuses(t, claimed(t, 400, stopped), g, api.ErrArg)
		}
	}
	// Also where the disk has as many blocks as there may be.
	for _, g := range wrong() {
		refuses(t, claimed(t, api.MaxBlocks, false), g, api.ErrArg)
	}
}

// ErrArg: more Blocks than the disk has, ahead of ErrDead; as many, and fewer, are none too many.
func TestBlocks(t *testing.T) {
	for _, g := range some() {
		for _, blocks := range []int{1, 35, 400, g.Blocks / 2, g.Blocks - 2, g.Blocks - 1, g.Blocks, g.Blocks + 1, api.MaxBlocks} {
			if blocks > api.MaxBlocks {
				continue
			}
			want := api.OK
			if g.Blocks > blocks {
				want = api.ErrArg
				refuses(t, claimed(t, blocks, false), g, want)
				refuses(t, claimed(t, blocks, true), g, want)
				continue
			}
			makes(t, claimed(t, blocks, false), g, want)
		}
	}
}

// ErrDead: a disk that has stopped, if there is nothing else to refuse.
func TestDead(t *testing.T) {
	for _, g := range some() {
		for _, more := range []int{0, 1} {
			if g.Blocks+more <= api.MaxBlocks {
				refuses(t, claimed(t, g.Blocks+more, true), g, api.ErrDead)
			}
		}
	}
}

// A Make that was refused stands in the way of none that follows.
func TestBehindRefused(t *testing.T) {
	d := load(t, full(400))
	for _, g := range wrong() {
		makes(t, d, g, api.ErrArg)
	}
	makes(t, d, small(), api.OK)
	did(t, d, of(small()).ops())
	d.Fuse(0)
	makes(t, d, small(), api.ErrDead) // it stops
	makes(t, d, small(), api.ErrDead) // it has stopped
	makes(t, d, api.Geometry{}, api.ErrArg)
	ok(t, d.Crash(nil))
	makes(t, d, small(), api.OK)
	did(t, d, of(small()).ops())
	holds(t, d, of(small()).on(full(400)))
}
