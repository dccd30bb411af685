package mount_test

import (
	"math"
	"math/rand"
	"slices"
	"testing"

	"undercroft/api"
	"undercroft/disk"
	"undercroft/mkfs"
	"undercroft/mount"
	"undercroft/wal"
)

// seen is all that a disk tells of itself, but how often it was read.
type seen struct {
	made    int
	stopped bool
	pending []int
	history []api.Op
	image   api.Image
}

func watch(d *disk.Disk) seen {
	return seen{d.Made(), d.Stopped(), d.Pending(), d.History(), d.Image()}
}

func (s seen) like(o seen) bool {
	return s.made == o.made && s.stopped == o.stopped && slices.Equal(s.pending, o.pending) && slices.Equal(s.history, o.history) && same(s.image, o.image)
}

// untouched asks whether Mount of a disk that holds an image is refused, and nothing was written; and whether whoever had claimed the disk has it still, and the next claim has the number that it would have had.
func untouched(t testing.TB, im api.Image, want api.Errno) {
	t.Helper()
	for _, stopped := range []bool{false, true} {
		d := load(t, im)
		ok(t, d.Write(im.Blocks-1, filled(7)), d.Barrier(), d.Write(im.Blocks-1, blockOf(im, im.Blocks-1)))
		d.Claim()
		claim := d.Claim()
		if stopped { // that comes first
			want = api.ErrDead
			d.Fuse(0)
			d.Barrier()
		}
		was := watch(d)
		for range 2 {
			refused(t, d, want)
		}
		if !was.like(watch(d)) {
			t.Fatal("the disk is not as it was")
		}
		if d.Claimed(claim) == stopped {
			t.Fatalf("claimed: %t", !stopped)
		}
		ok(t, d.Crash(nil))
		if n := d.Claim(); n != claim+1 {
			t.Fatalf("the claim behind it is %d, not %d", n, claim+1)
		}
	}
}

// P24.1, ErrNil: no disk, in whichever way; the one of which there is a copy is not touched.
func TestNoDisk(t *testing.T) {
	refused(t, nil, api.ErrNil)
	refused(t, &disk.Disk{}, api.ErrNil)
	for _, stopped := range []bool{false, true} {
		for _, d := range []*disk.Disk{fresh(t, small()), load(t, api.Image{Blocks: 400})} {
			claim := d.Claim()
			if stopped {
				d.Fuse(0)
				d.Barrier()
			}
			was := watch(d)
			other := *d
			refused(t, &other, api.ErrNil)
			if !was.like(watch(d)) || d.Claimed(claim) == stopped {
				t.Error("the disk is not as it was")
			}
		}
	}
}

// P24.1, ErrDead: a disk that has stopped, whatever it holds; nothing is done to it.
func TestDead(t *testing.T) {
	sound := lived(t, small(), village())
	for _, im := range []api.Image{{Blocks: 1}, {Blocks: 400}, sound, with(sound, map[int]api.Block{1: header(0)}), valid(t, sound, ghosts()[:3])} {
		for _, fuse := range []int{0, 1} {
			d := load(t, im)
			claim := d.Claim()
			d.Fuse(fuse)
			d.Write(im.Blocks-1, filled(1))
			d.Barrier()
			was := watch(d)
			refused(t, d, api.ErrDead)
			refused(t, d, api.ErrDead)
			if !was.like(watch(d)) || !d.Stopped() || d.Claimed(claim) {
				t.Error("the disk is not as it was")
			}
			ok(t, d.Crash(nil))
			if n := d.Claim(); n != claim+1 {
				t.Errorf("the claim behind it is %d", n)
			}
		}
	}
}

// P24.1, P24.2: disks of noughts, of as many blocks as there may be and of fewer, and of bytes that are no superblock.
func TestNoSuper(t *testing.T) {
	for _, blocks := range []int{1, 2, 35, 36, 400, 1 << 20} {
		untouched(t, api.Image{Blocks: blocks}, api.ErrInval)
	}
	im := api.Image{Blocks: 400}
	for at := range im.Blocks {
		im.Data = append(im.Data, api.Held{Index: at, Data: filled(at % 255)})
	}
	untouched(t, im, api.ErrInval)
}

// supered is an image with another superblock, in which numbers stand from byte 8 on.
func supered(im api.Image, n ...int) api.Image {
	b := header(n...)
	copy(b[8:], b[4:4+4*len(n)])
	copy(b[:], "croftfs1")
	return with(im, map[int]api.Block{0: b})
}

// mayBe tells whether a block is the superblock of a file system with four blocks of inodes and one of the bitmap on a disk of 402 blocks.
func mayBe(b api.Block) bool {
	n := numbers(b, 8, 9)
	blocks, log, inodes := n[0], n[1], n[2]
	rest := b
	clear(rest[:44])
	return string(b[:8]) == "croftfs1" && rest == api.Block{} && log >= 32 && log <= 256 && blocks > log+6 && blocks <= 402 &&
		inodes >= 48 && inodes <= 63 && slices.Equal(n[3:], []int{1, 1 + log, 4, 5 + log, 1, 6 + log})
}

// P24.1, P24.2: superblocks that may not be, of each kind: another byte at whatever place, numbers that are none of a geometry, regions that lie elsewhere, more blocks than the disk has.
func TestSuper(t *testing.T) {
	plain, err := disk.New(402)
	ok(t, err, mkfs.Make(plain, small()))
	im := plain.Image()
	super, others := blockOf(im, 0), 0
	for i := range super {
		for _, by := range []byte{1, 2, 16, 128} {
			b := super
			b[i] ^= by
			if mayBe(b) {
				others++
				mounts(t, load(t, with(im, map[int]api.Block{0: b})))
				continue
			}
			d := load(t, with(im, map[int]api.Block{0: b}))
			refused(t, d, api.ErrInval)
			if d.Made() != 0 {
				t.Fatalf("byte %d is another: %d things were done", i, d.Made())
			}
		}
	}
	if others != 7 { // more or fewer blocks, more inodes in as many blocks of them
		t.Errorf("%d others may be", others)
	}
	good := []int{400, 32, 60, 1, 33, 4, 37, 1, 38}
	for i := range good {
		for _, n := range []int{0, good[i] - 1, good[i] + 1, 31, 257, 65536, 1<<20 + 1, math.MaxInt32, math.MaxUint32 & math.MaxInt} {
			if im := supered(im, slices.Replace(slices.Clone(good), i, i+1, n)...); !mayBe(blockOf(im, 0)) {
				untouched(t, im, api.ErrInval)
			}
		}
	}
	for _, l := range [][]int{
		{400, 31, 60, 1, 32, 4, 36, 1, 37}, {400, 257, 60, 1, 258, 4, 262, 1, 263}, {400, 32, 0, 1, 33, 1, 34, 1, 35}, {5000, 32, 65536, 1, 33, 4097, 4130, 1, 4131},
		{38, 32, 60, 1, 33, 4, 37, 1, 38}, {35, 32, 1, 1, 33, 1, 34, 1, 35}, {400, 32, 60, 2, 34, 4, 38, 1, 39}, {400, 32, 60, 1, 33, 4, 37, 2, 39}, good[:8], good[:1], nil,
	} {
		untouched(t, supered(im, l...), api.ErrInval)
	}
}

// P24.1, P24.2: a file system of more blocks than the disk has; one of as many, and one of fewer, are mounted.
func TestTooLarge(t *testing.T) {
	whole := lived(t, small(), village())
	for _, blocks := range []int{1, 2, 34, 38, 39, 200, 398, 399} {
		im := api.Image{Blocks: blocks, Data: slices.DeleteFunc(slices.Clone(whole.Data), func(h api.Held) bool { return h.Index >= blocks })}
		untouched(t, im, api.ErrInval)
	}
	for _, blocks := range []int{400, 401, 402, 1000, 1 << 20} {
		im := api.Image{Blocks: blocks, Data: slices.DeleteFunc(slices.Clone(whole.Data), func(h api.Held) bool { return h.Index >= blocks })}
		if v := mounts(t, load(t, im)); v.Log().Layout().Geometry != small() {
			t.Errorf("%d blocks: %+v", blocks, v.Log().Layout())
		}
	}
}

// wrongHeaders are headers that may not be, of each kind.
func wrongHeaders() []api.Block {
	var many []int
	for at := 40; len(many) < 32; at++ {
		many = append(many, at)
	}
	count := func(n int) api.Block {
		b := header(many[:31]...)
		for k := range 4 {
			b[k] = byte(n >> (8 * k))
		}
		return b
	}
	l := []api.Block{
		header(many...), count(32), count(255), count(256), count(1 << 16), count(1 << 24), count(math.MaxInt32), count(-1),
		// One that may be, and behind it one that is there already.
		header(40, 40), header(40, 41, 42, 40), header(399, 33, 399), header(append(slices.Clone(many[:30]), many[0])...), header(append(slices.Clone(many[:30]), many[29])...),
	}
	for _, bad := range []int{0, 1, 2, 5, 31, 32, 400, 401, 402, 1 << 20, math.MaxInt32, -1} {
		l = append(l, header(bad), header(40, bad), header(bad, 40), header(append(slices.Clone(many[:30]), bad)...))
	}
	return l
}

// P24.1, P24.2: headers that may not be.
func TestHeader(t *testing.T) {
	for _, im := range []api.Image{fresh(t, small()).Image(), lived(t, small(), village(), ghosts())} {
		for _, b := range wrongHeaders() {
			untouched(t, with(im, map[int]api.Block{1: b}), api.ErrInval)
		}
	}
	// Whatever else may be wrong comes later.
	im := with(lived(t, small(), village()), map[int]api.Block{33: filled(3), 37: {}, 38: filled(4), 1: header(5)})
	untouched(t, im, api.ErrInval)
}

// A number that is no data block's in an orphan is met by orphan.All, behind wal.New: that is ErrInval too, but what was there to recover is put in place, and the disk is claimed.
func TestBadOrphan(t *testing.T) {
	for _, number := range []int{1, 37, 400, 401, math.MaxInt32} {
		im := lived(t, small(), village(), []act{lost(4, api.KindFile)}, bytes(4, 0))
		nodes, b := blockOf(im, 33), header(number)
		copy(nodes[4*64+12:], b[4:8])
		im = with(im, map[int]api.Block{1: header(50, 60), 2: filled(9), 3: filled(10), 33: nodes})
		d := load(t, im)
		claim := d.Claim()
		refused(t, d, api.ErrInval)
		did(t, d, 0, []api.Op{write(50, filled(9)), write(60, filled(10)), barrier(), write(1, api.Block{}), barrier()})
		if d.Claimed(claim) || d.Claim() != claim+2 {
			t.Error("P24.1: it was not claimed once")
		}
		refused(t, d, api.ErrInval)
		holds(t, d, put(im, 50, 60))
	}
}

// What All did ahead of what it could not do is not synced: the errors come in their order.
func TestBadOrphanLater(t *testing.T) {
	im := lived(t, small(), village(), []act{lost(4, api.KindFile)}, bytes(4, 0, 20), []act{lost(5, api.KindFile)}, bytes(5, 0))
	nodes := blockOf(im, 33)
	nodes[5*64+12] = 1
	im = with(im, map[int]api.Block{33: nodes})
	d := load(t, im)
	refused(t, d, api.ErrInval)
	if d.Made() != 0 {
		t.Errorf("%d things were done", d.Made())
	}
	holds(t, d, im)
}

// Rule 4: volumes that are nil, that Mount did not make, and copies of such as it made.
func TestNoVolume(t *testing.T) {
	none(t, nil)
	none(t, &mount.Volume{})
	d := fresh(t, small())
	v := mounts(t, d)
	ok(t, v.Log().Begin(1), v.Log().Write(50, filled(1)), v.Log().End())
	was, l := watch(d), v.Log()
	other := *v
	none(t, &other)
	if !was.like(watch(d)) || v.Log() != l || l.Used() != 1 || l.Check() != api.OK {
		t.Error("the volume is not as it was")
	}
	ok(t, v.Close())
	none(t, &other)
	closed := *v
	none(t, &closed)
	none(t, v)
}

// none asks whether all calls of a volume are answered as of one that is none.
func none(t testing.TB, v *mount.Volume) {
	t.Helper()
	for range 2 {
		if l, desk := v.Log(), v.Desk(); l != nil || desk != nil {
			t.Fatalf("Log: %v, Desk: %v", l, desk)
		}
		if e, f := v.Sync(), v.Close(); e != api.ErrNil || f != api.ErrNil {
			t.Fatalf("Sync: %d, Close: %d", e, f)
		}
	}
}

// P24.5, rule 8: Mount of whatever disk ends, writes in the log and in the regions of inodes, bitmap and data alone, and says nothing beside an error; where the superblock or the header may not be, nothing is written and nobody's claim is over.
func TestAnyDisk(t *testing.T) {
	r := rand.New(rand.NewSource(24))
	base := []api.Image{lived(t, api.Geometry{Blocks: 130, Log: 32, Inodes: 60}, village(), ghosts()), lived(t, small(), village(), ghosts())}
	answers := map[api.Errno]int{}
	for range 1500 {
		im := base[r.Intn(len(base))]
		others := map[int]api.Block{}
		for range r.Intn(6) {
			at := []int{0, 1, 2, 33, 34, 35, 37, r.Intn(im.Blocks)}[1+r.Intn(7)]
			if r.Intn(40) == 0 {
				at = 0
			}
			others[at] = spoiled(r, blockOf(im, at), im.Blocks)
		}
		answers[anyDisk(t, with(im, others))]++
	}
	for range 300 { // all of it but the superblock
		im := base[0]
		others := map[int]api.Block{}
		for at := 1; at < im.Blocks; at++ {
			others[at] = spoiled(r, blockOf(im, at), im.Blocks)
		}
		if r.Intn(4) > 0 {
			others[1] = header(r.Perm(im.Blocks)[:r.Intn(5)]...)
		}
		answers[anyDisk(t, with(im, others))]++
	}
	if len(answers) != 2 || answers[api.OK] < 100 || answers[api.ErrInval] < 100 {
		t.Errorf("the answers: %v", answers)
	}
}

// spoiled is a block in which some bytes, or all, are others, or numbers of blocks.
func spoiled(r *rand.Rand, b api.Block, blocks int) api.Block {
	switch r.Intn(4) {
	case 0:
		for i := range b {
			b[i] = byte(r.Intn(256))
		}
	case 1:
		for i := range b {
			b[i] = []byte{byte(r.Intn(blocks)), 0, 0, 0}[i%4]
		}
	case 2:
		for range 1 + r.Intn(30) {
			b[r.Intn(1024)] = byte(r.Intn(256))
		}
	default:
		for i := range 16 { // inodes, many without links
			copy(b[64*i:], []byte{byte(r.Intn(4)), 0, byte(r.Intn(2)), 0, byte(r.Intn(256)), byte(r.Intn(8)), byte(r.Intn(2)), 0, 1, 0, 0, 0})
			for k := 12; k < 60; k += 4 {
				copy(b[64*i+k:], []byte{byte(r.Intn(3) * r.Intn(blocks) / 2), 0, 0, 0})
			}
		}
	}
	return b
}

// anyDisk mounts a disk that holds whatever: the answer.
func anyDisk(t testing.TB, im api.Image) api.Errno {
	t.Helper()
	d := load(t, im)
	claim := d.Claim()
	v, err := mount.Mount(d)
	if (v == nil) == (err == api.OK) || err != api.OK && err != api.ErrInval {
		t.Fatalf("Mount: %v, %d", v, err)
	}
	for _, op := range d.History() {
		if op.Kind == api.OpWrite && (op.At < 1 || op.At >= im.Blocks) {
			t.Fatalf("block %d was written", op.At)
		}
	}
	if d.Claimed(claim) && (d.Made() > 0 || err == api.OK) {
		t.Fatalf("Mount: %d; %d things were done to a disk that was not claimed", err, d.Made())
	}
	if v != nil && (v.Log().Check() != api.OK || v.Log().Used() != 0 || v.Log().Open() || v.Desk().Len() != 0 || len(d.Pending()) > 0 || blockOf(d.Image(), 1)[0] != 0) {
		t.Fatal("the volume is not as one that was just mounted")
	}
	if _, e := wal.Recover(d, layoutOf(im)); err == api.OK && e != api.OK {
		t.Fatalf("Recover: %d", e)
	}
	return err
}
