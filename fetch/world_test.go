package fetch_test

import (
	"bytes"
	"maps"
	"math"
	"reflect"
	"slices"
	"testing"

	"undercroft/api"
	"undercroft/disk"
	"undercroft/fetch"
	"undercroft/shape"
	"undercroft/wal"
)

// layout is a layout that may be.
func layout(t testing.TB, blocks, log, inodes int) api.Layout {
	t.Helper()
	where, err := shape.Of(api.Geometry{Blocks: blocks, Log: log, Inodes: inodes})
	if err != api.OK {
		t.Fatalf("a layout of %d, %d, %d: %d", blocks, log, inodes, err)
	}
	return where
}

// ten is the layout of the document's ten examples: the inodes are 33 to 36, the bitmap is 37, the data 38 to 399.
func ten(t testing.TB) api.Layout {
	t.Helper()
	return layout(t, 400, 32, 60)
}

// huge is a layout of as many blocks and inodes as there may be, so that numbers have several bytes.
func huge(t testing.TB) api.Layout {
	t.Helper()
	return layout(t, 1<<20, 256, 65535)
}

// far is like n in its lower 32 bits; it is n itself where an int has no others.
func far(n int) int { return int(int64(n) + 1<<32) }

// great are places behind all sizes: some at which a sum with a count, or with a size, wraps round.
func great() []int {
	shift := 40
	l := []int{api.MaxFile, api.MaxFile + 1, 1 << 30, 1 << shift, math.MaxInt32, far(0), far(1), far(100000), math.MaxInt - 65537, math.MaxInt - 65536, math.MaxInt - 65535, math.MaxInt - 1024, math.MaxInt - 1, math.MaxInt}
	return slices.DeleteFunc(l, func(at int) bool { return at < api.MaxFile })
}

// spoil is the byte of a block that no file has.
const spoil = 0xee

// file is a file or a directory by the document's words.
type file struct {
	kind  api.Kind
	links int
	size  int
	data  map[int][]byte // of each index that is mapped, the block's bytes
}

// read are the bytes from a place on, one by one.
func (f file) read(at, count int) []byte {
	p := []byte{}
	for ; at < f.size && len(p) < count; at++ {
		b, mapped := f.data[at/1024]
		switch {
		case mapped:
			p = append(p, b[at%1024])
		default:
			p = append(p, 0)
		}
	}
	return p
}

// sown is a file of a size with some indices mapped: no byte within its size is 0 there, bytes that stand near each other or at like places are unlike, and those behind the size are noughts.
func sown(seed, size int, indices ...int) file {
	f := file{kind: api.KindFile, links: 1, size: size, data: map[int][]byte{}}
	for _, index := range indices {
		b := make([]byte, 1024)
		for i := range b {
			if p := index*1024 + i; p < size {
				b[i] = byte(1 + (p*7+p/1024*11+p/(1<<18)*13+seed*29)%237) // never spoil
			}
		}
		f.data[index] = b
	}
	return f
}

// through are the indices from first to last.
func through(first, last int) []int {
	var l []int
	for i := first; i <= last; i++ {
		l = append(l, i)
	}
	return l
}

// rootFile is the root of a new file system, byte by byte.
func rootFile() file {
	b := make([]byte, 1024)
	copy(b, []byte{1, 0, '.'})
	copy(b[16:], []byte{1, 0, '.', '.'})
	return file{kind: api.KindDir, links: 2, size: 32, data: map[int][]byte{0: b}}
}

// put lays a number of four bytes into a list of bytes, the lowest byte first.
func put(b []byte, v uint32) {
	b[0], b[1], b[2], b[3] = byte(v), byte(v/256), byte(v/65536), byte(v/16777216)
}

// laid are an inode's 64 bytes by the document's words.
func laid(n api.Node) []byte {
	b := make([]byte, 64)
	put(b, uint32(n.Kind)+65536*uint32(n.Links))
	put(b[4:], n.Size)
	put(b[8:], n.Blocks)
	for i, v := range n.Direct {
		put(b[12+4*i:], v)
	}
	put(b[52:], n.Single)
	put(b[56:], n.Double)
	return b
}

// ground is what a disk holds, block by block.
type ground struct {
	where api.Layout
	now   map[int]api.Block
	pick  func() int // the next data block that is taken
}

// bare is a disk without an inode; its data blocks near both ends are spoiled, so that no nought comes from one.
func bare(t testing.TB, where api.Layout) *ground {
	t.Helper()
	super, err := shape.Encode(where)
	ok(t, err)
	g := &ground{where: where, now: map[int]api.Block{0: super}}
	for at := range where.DataAt {
		g.use(at)
	}
	b := api.Block(bytes.Repeat([]byte{spoil}, 1024))
	for i := range min(1000, where.Geometry.Blocks-where.DataAt) {
		g.now[where.DataAt+i], g.now[where.Geometry.Blocks-1-i] = b, b
	}
	g.pick = falling(where.Geometry.Blocks - 1)
	return g
}

// rising picks numbers from one on.
func rising(at int) func() int { return func() int { at++; return at - 1 } }

// falling picks numbers from one on, downwards.
func falling(at int) func() int { return func() int { at--; return at + 1 } }

// use has a block be used.
func (g *ground) use(at int) {
	b := g.now[g.where.BitsAt+at/8192]
	b[at%8192/8] |= 1 << (at % 8)
	g.now[g.where.BitsAt+at/8192] = b
}

// has has an inode be n.
func (g *ground) has(inum int, n api.Node) {
	b := g.now[g.where.NodeAt+inum/16]
	copy(b[64*(inum%16):], laid(n))
	g.now[g.where.NodeAt+inum/16] = b
}

// holds has an index block hold a number.
func (g *ground) holds(at uint32, place int, v uint32) {
	b := g.now[int(at)]
	put(b[4*place:], v)
	g.now[int(at)] = b
}

// take has a data block be used, and hold some bytes.
func (g *ground) take(p []byte) uint32 {
	at := g.pick()
	g.use(at)
	var b api.Block
	copy(b[:], p)
	g.now[at] = b
	return uint32(at)
}

// lay lays a file onto the disk, and gives its inode.
func (g *ground) lay(inum int, f file) api.Node {
	n := api.Node{Kind: f.kind, Links: uint16(f.links), Size: uint32(f.size)}
	below := map[int]uint32{} // the blocks below the double index block
	taken := func(p []byte) uint32 { n.Blocks++; return g.take(p) }
	for _, i := range slices.Sorted(maps.Keys(f.data)) {
		j := i - 266
		if i > 9 && i < 266 && n.Single == 0 {
			n.Single = taken(nil)
		}
		if j >= 0 && n.Double == 0 {
			n.Double = taken(nil)
		}
		if j >= 0 && below[j/256] == 0 {
			below[j/256] = taken(nil)
			g.holds(n.Double, j/256, below[j/256])
		}
		switch at := taken(f.data[i]); {
		case i <= 9:
			n.Direct[i] = at
		case j < 0:
			g.holds(n.Single, i-10, at)
		default:
			g.holds(below[j/256], j%256, at)
		}
	}
	g.has(inum, n)
	return n
}

// image is what a disk of two blocks more than the layout has holds.
func (g *ground) image() api.Image {
	im := api.Image{Blocks: min(1<<20, g.where.Geometry.Blocks+2)}
	for _, at := range slices.Sorted(maps.Keys(g.now)) {
		if g.now[at] != (api.Block{}) {
			im.Data = append(im.Data, api.Held{Index: at, Data: g.now[at]})
		}
	}
	return im
}

// world is a disk, a log of it, and the files that it has.
type world struct {
	where api.Layout
	d     *disk.Disk
	l     *wal.Log
	files map[int]file
}

// open is a disk that holds what the ground has, with a log.
func (g *ground) open(t testing.TB) *world {
	t.Helper()
	d, err := disk.Load(g.image())
	ok(t, err)
	return &world{where: g.where, d: d, l: newLog(t, d, g.where), files: map[int]file{}}
}

// newWorld is a disk with the root and some files.
func newWorld(t testing.TB, where api.Layout, files map[int]file) *world {
	t.Helper()
	all := maps.Clone(files)
	if all == nil {
		all = map[int]file{}
	}
	all[1] = rootFile()
	g := bare(t, where)
	for _, inum := range slices.Sorted(maps.Keys(all)) {
		g.lay(inum, all[inum])
	}
	w := g.open(t)
	w.files = all
	return w
}

func newLog(t testing.TB, d *disk.Disk, where api.Layout) *wal.Log {
	t.Helper()
	l, err := wal.New(d, where)
	if err != api.OK || l == nil {
		t.Fatalf("New: %v, %d", l, err)
	}
	return l
}

func ok(t testing.TB, errs ...api.Errno) {
	t.Helper()
	for i, err := range errs {
		if err != api.OK {
			t.Fatalf("call %d: %d", i, err)
		}
	}
}

// reads asks what one call answers.
func reads(t testing.TB, l *wal.Log, inum, at, count int, want []byte, e api.Errno) {
	t.Helper()
	p, err := fetch.Read(l, inum, at, count)
	if err != e || !bytes.Equal(p, want) {
		t.Fatalf("Read(%d, %d, %d): %d bytes, %d, not %d bytes, %d; unlike from %d on", inum, at, count, len(p), err, len(want), e, unlike(p, want))
	}
}

// unlike is the first place at which two lists differ.
func unlike(p, q []byte) int {
	for i := range min(len(p), len(q)) {
		if p[i] != q[i] {
			return i
		}
	}
	return min(len(p), len(q))
}

// told is what Read answers by the document's words, of a log that is there and lives.
func (w *world) told(inum, at, count int) ([]byte, api.Errno) {
	f, used := w.files[inum]
	switch {
	case inum < 1 || inum > w.where.Geometry.Inodes || at < 0 || count < 0 || count > 65536:
		return nil, api.ErrArg
	case !used:
		return nil, api.ErrInval
	}
	return f.read(at, count), api.OK
}

// reads asks what one call answers, and that it does nothing to the disk.
func (w *world) reads(t testing.TB, inum, at, count int) {
	t.Helper()
	made := w.d.Made()
	want, e := w.told(inum, at, count)
	reads(t, w.l, inum, at, count, want, e)
	if w.d.Made() != made {
		t.Fatalf("Read(%d, %d, %d): %d things done to the disk", inum, at, count, w.d.Made()-made)
	}
}

// whole asks for all bytes of a file, in parts of a length.
func (w *world) whole(t testing.TB, inum, part int) {
	t.Helper()
	for at := 0; at <= w.files[inum].size; at += part {
		w.reads(t, inum, at, part)
	}
}

// still is all that may be seen of a disk and a log.
type still struct {
	image   api.Image
	history []api.Op
	pending []int
	made    int
	stopped bool
	used    int
	open    bool
	commits int
	steps   int
}

func (w *world) still() still {
	return still{w.d.Image(), w.d.History(), w.d.Pending(), w.d.Made(), w.d.Stopped(), w.l.Used(), w.l.Open(), w.l.Commits(), w.l.Steps()}
}

// stays asks whether nothing has changed since.
func (w *world) stays(t testing.TB, was still) {
	t.Helper()
	if !reflect.DeepEqual(w.still(), was) {
		t.Fatalf("the disk or the log has changed")
	}
}
