package orphan_test

import (
	"bytes"
	"iter"
	"maps"
	"reflect"
	"slices"
	"testing"

	"undercroft/api"
	"undercroft/disk"
	"undercroft/orphan"
	"undercroft/rack"
	"undercroft/room"
	"undercroft/shape"
	"undercroft/trim"
	"undercroft/wal"
)

// layout is a layout that may be.
func layout(t testing.TB, blocks, log, inodes int) api.Layout {
	t.Helper()
	where, err := shape.Of(api.Geometry{Blocks: blocks, Log: log, Inodes: inodes})
	if err != api.OK {
		t.Fatalf("a layout of %d, %d, %d: %d", blocks, log, inodes, err)
	}
	return where
}

// ten is the layout of the document's ten examples: the inodes are 33 to 36, the bitmap is 37, the data 38 to 399.
func ten(t testing.TB) api.Layout {
	t.Helper()
	return layout(t, 400, 32, 60)
}

// snug is a layout with few data blocks: the inodes are 33 and 34, the bitmap is 35, the data 36 to 109.
func snug(t testing.TB) api.Layout {
	t.Helper()
	return layout(t, 110, 32, 16)
}

// far is like n in its lower 32 bits; it is n itself where an int has no others.
func far(n int) int { return int(int64(n) + 1<<32) }

// sown are n bytes, none of them 0; those that stand near each other or at like places are unlike.
func sown(seed, n int) []byte {
	p := make([]byte, n)
	for i := range p {
		p[i] = byte(1 + (i*7+i/1024*11+seed*29)%255)
	}
	return p
}

// mark is a block of which no byte is 0, and that few others are like.
func mark(n int) api.Block { return api.Block(sown(n+100, 1024)) }

// put lays a number of four bytes into a list of bytes, the lowest byte first.
func put(b []byte, v uint32) {
	b[0], b[1], b[2], b[3] = byte(v), byte(v/256), byte(v/65536), byte(v/16777216)
}

// number is the number that four bytes say.
func number(b []byte) uint32 {
	return uint32(b[0]) + 256*uint32(b[1]) + 65536*uint32(b[2]) + 16777216*uint32(b[3])
}

// laid are an inode's 64 bytes by the document's words.
func laid(n api.Node) []byte {
	b := make([]byte, 64)
	put(b, uint32(n.Kind)+65536*uint32(n.Links))
	put(b[4:], n.Size)
	put(b[8:], n.Blocks)
	for i, v := range n.Direct {
		put(b[12+4*i:], v)
	}
	put(b[52:], n.Single)
	put(b[56:], n.Double)
	return b
}

// told is the inode that 64 bytes say, by the document's words.
func told(b []byte) api.Node {
	n := api.Node{Kind: api.Kind(number(b) % 65536), Links: uint16(number(b) / 65536), Size: number(b[4:]), Blocks: number(b[8:])}
	for i := range n.Direct {
		n.Direct[i] = number(b[12+4*i:])
	}
	n.Single, n.Double = number(b[52:]), number(b[56:])
	return n
}

// account is a log and its files by the document's words, with all blocks as they are, and lists of those that were changed.
type account struct {
	where   api.Layout
	now     map[int]api.Block
	group   []int // in the order in which each was changed first
	step    []int // what the open step has changed
	open    bool
	r       int
	steps   int
	commits int
	made    int // writes and barriers
}

func (a *account) begin(r int) api.Errno {
	if a.open {
		return api.ErrStep
	}
	if len(a.group)+r > a.where.Geometry.Log-1 {
		a.commit()
	}
	a.open, a.r, a.step = true, r, nil
	return api.OK
}

func (a *account) commit() {
	a.made += 2*len(a.group) + 6
	a.commits++
	a.group = nil
}

func (a *account) end() api.Errno {
	if !a.open {
		return api.ErrStep
	}
	a.open = false
	a.steps++
	return api.OK
}

func (a *account) sync() api.Errno {
	if a.open {
		return api.ErrStep
	}
	if len(a.group) > 0 {
		a.commit()
	}
	return api.OK
}

// block is a write of a whole block, as wal has it.
func (a *account) block(at int, b api.Block) api.Errno {
	switch {
	case !a.open:
		return api.ErrStep
	case !slices.Contains(a.step, at) && len(a.step) == a.r:
		return api.ErrTight
	}
	a.now[at] = b
	if !slices.Contains(a.step, at) {
		a.step = append(a.step, at)
	}
	if !slices.Contains(a.group, at) {
		a.group = append(a.group, at)
	}
	return api.OK
}

func (a *account) data(at int) bool { return at >= a.where.DataAt && at < a.where.Geometry.Blocks }

func (a *account) bit(at int) bool {
	b := a.now[a.where.BitsAt+at/8192]
	return b[at%8192/8]>>(at%8)&1 == 1
}

// turn turns the bit of a block round.
func (a *account) turn(at int) api.Errno {
	b := a.now[a.where.BitsAt+at/8192]
	b[at%8192/8] ^= 1 << (at % 8)
	return a.block(a.where.BitsAt+at/8192, b)
}

// unused goes over the data blocks whose bit is 0, rising.
func (a *account) unused(yield func(at int) bool) {
	for base := 0; base < a.where.Geometry.Blocks; base += 8192 {
		b := a.now[a.where.BitsAt+base/8192]
		for i := range 8192 {
			if a.data(base+i) && b[i/8]>>(i%8)&1 == 0 && !yield(base+i) {
				return
			}
		}
	}
}

func (a *account) free() int {
	n := 0
	for range a.unused {
		n++
	}
	return n
}

func (a *account) node(inum int) api.Node {
	b := a.now[a.where.NodeAt+inum/16]
	return told(b[64*(inum%16):])
}

// setNode is rack's Write.
func (a *account) setNode(inum int, n api.Node) api.Errno {
	at := a.where.NodeAt + inum/16
	b := a.now[at]
	copy(b[64*(inum%16):], laid(n))
	return a.block(at, b)
}

// below is the number at a place of an index block; 0 of one that is missing.
func (a *account) below(at, place int) int {
	if at == 0 {
		return 0
	}
	b := a.now[at]
	return int(number(b[4*place:]))
}

// way are the numbers that one meets on the way to an index, from above, the block's own last.
func (a *account) way(inum, index int) []int {
	n := a.node(inum)
	switch {
	case index <= 9:
		return []int{int(n.Direct[index])}
	case index <= 265:
		return []int{int(n.Single), a.below(int(n.Single), index-10)}
	}
	j := index - 266
	beneath := a.below(int(n.Double), j/256)
	return []int{int(n.Double), beneath, a.below(beneath, j%256)}
}

// at is the block of an index; 0: a hole.
func (a *account) at(inum, index int) int {
	way := a.way(inum, index)
	return way[len(way)-1]
}

func (a *account) there(inum int) bool { return inum >= 1 && inum <= a.where.Geometry.Inodes }

// orphans are the inodes without names, rising.
func (a *account) orphans() []int {
	var l []int
	for inum := 1; a.there(inum); inum++ {
		if n := a.node(inum); n.Kind != api.KindFree && n.Links == 0 {
			l = append(l, inum)
		}
	}
	return l
}

// spare is how many inodes are free.
func (a *account) spare() int {
	n := 0
	for inum := 1; a.there(inum); inum++ {
		if a.node(inum).Kind == api.KindFree {
			n++
		}
	}
	return n
}

// next is the next step by which an orphan is reclaimed.
func (a *account) next(inum int) {
	l := a.mapped(inum)
	if len(l) == 0 {
		a.begin(1)
		a.setNode(inum, api.Node{})
		a.end()
		return
	}
	g := l[len(l)-1] / 8
	a.begin(15)
	a.drop(inum, slices.DeleteFunc(l, func(index int) bool { return index/8 != g }))
	n := a.node(inum)
	n.Size = min(n.Size, uint32(8192*g))
	a.setNode(inum, n)
	a.end()
}

// reclaim is Reclaim, of a log that is there and lives.
func (a *account) reclaim(inum int) api.Errno {
	switch {
	case a.open:
		return api.ErrStep
	case !a.there(inum):
		return api.ErrArg
	case a.node(inum).Kind == api.KindFree:
		return api.ErrNoEnt
	case a.node(inum).Links != 0:
		return api.ErrBusy
	}
	for a.node(inum).Kind != api.KindFree {
		a.next(inum)
	}
	return api.OK
}

// all is All.
func (a *account) all() (int, api.Errno) {
	if a.open {
		return 0, api.ErrStep
	}
	l := a.orphans()
	for _, inum := range l {
		a.reclaim(inum)
	}
	return len(l), api.OK
}

// stages are the accounts behind none, one and more of the steps by which all orphans are reclaimed.
func (a *account) stages() []*account {
	b := a.copied()
	out := []*account{b.copied()}
	for len(b.orphans()) > 0 {
		b.next(b.orphans()[0])
		out = append(out, b.copied())
	}
	return out
}

// drop is chart's Drop of indices that are mapped.
func (a *account) drop(inum int, indices []int) {
	n := a.node(inum)
	give := func(at int) {
		a.turn(at)
		n.Blocks--
	}
	tables := map[int]api.Block{} // the index blocks from which a number goes, as they become
	lose := func(at, place int) {
		b, ok := tables[at]
		if !ok {
			b = a.now[at]
		}
		put(b[4*place:], 0)
		tables[at] = b
	}
	for _, index := range indices {
		way := a.way(inum, index)
		give(way[len(way)-1])
		switch {
		case index <= 9:
			n.Direct[index] = 0
		case index <= 265:
			lose(way[0], index-10)
		default:
			lose(way[1], (index-266)%256)
		}
	}
	for _, index := range indices {
		if way := a.way(inum, index); index > 265 && tables[way[1]] == (api.Block{}) {
			lose(way[0], (index-266)/256)
		}
	}
	for _, at := range slices.Sorted(maps.Keys(tables)) {
		if tables[at] != (api.Block{}) {
			a.block(at, tables[at])
			continue
		}
		give(at) // and it keeps its bytes
		switch at {
		case int(n.Single):
			n.Single = 0
		case int(n.Double):
			n.Double = 0
		}
	}
	a.setNode(inum, n)
}

// table are the numbers of an index block that are not 0, by their places; none of one that is missing.
func (a *account) table(at int) iter.Seq2[int, int] {
	b := a.now[at]
	return func(yield func(place, v int) bool) {
		for i := range 256 {
			if v := number(b[4*i:]); at != 0 && v != 0 && !yield(i, int(v)) {
				return
			}
		}
	}
}

// mapped are the mapped indices of a file, rising.
func (a *account) mapped(inum int) []int {
	var l []int
	n := a.node(inum)
	for i, v := range n.Direct {
		if v != 0 {
			l = append(l, i)
		}
	}
	for i := range a.table(int(n.Single)) {
		l = append(l, 10+i)
	}
	for k, at := range a.table(int(n.Double)) {
		for i := range a.table(at) {
			l = append(l, 266+256*k+i)
		}
	}
	return l
}

// owned are all blocks of a file, its index blocks too.
func (a *account) owned(inum int) []int {
	var l []int
	for _, index := range a.mapped(inum) {
		l = append(l, a.at(inum, index))
	}
	n := a.node(inum)
	if n.Single != 0 {
		l = append(l, int(n.Single))
	}
	if n.Double != 0 {
		l = append(l, int(n.Double))
	}
	for _, at := range a.table(int(n.Double)) {
		l = append(l, at)
	}
	return l
}

// bare is an account of a disk with the root alone, in the first data block, and bytes in the free data blocks (in some of them) and in two blocks behind the layout's last one.
func bare(t testing.TB, where api.Layout) *account {
	t.Helper()
	super, err := shape.Encode(where)
	ok(t, err)
	a := &account{where: where, now: map[int]api.Block{0: super}}
	for at := range where.DataAt {
		a.use(at)
	}
	for at := where.DataAt; at < min(where.DataAt+400, where.Geometry.Blocks); at++ {
		a.now[at] = mark(at)
	}
	a.now[where.Geometry.Blocks], a.now[where.Geometry.Blocks+1] = mark(1), mark(2)
	a.use(where.DataAt)
	a.now[where.DataAt] = slots(1, ".", 1, "..")
	a.has(1, api.Node{Kind: api.KindDir, Links: 2, Size: 32, Blocks: 1, Direct: [10]uint32{uint32(where.DataAt)}})
	return a
}

// made is bare, and in the root a file, inode 2, and a directory, inode 3: the file has blocks at the disk's end, with both index blocks, and the directory has the second data block.
func made(t testing.TB, where api.Layout) *account {
	t.Helper()
	a := bare(t, where)
	a.now[where.DataAt] = slots(1, ".", 1, "..", 2, "a", 3, "d")
	a.has(1, api.Node{Kind: api.KindDir, Links: 3, Size: 64, Blocks: 1, Direct: [10]uint32{uint32(where.DataAt)}})
	a.use(where.DataAt + 1)
	a.now[where.DataAt+1] = slots(3, ".", 1, "..")
	a.has(3, api.Node{Kind: api.KindDir, Links: 2, Size: 32, Blocks: 1, Direct: [10]uint32{uint32(where.DataAt + 1)}})
	a.has(2, api.Node{Kind: api.KindFile, Links: 1})
	return a.own(2, 3, 10, 300)
}

// slots is a block of entries: a number and a name each.
func slots(all ...any) api.Block {
	var b api.Block
	for i := 0; i < len(all); i += 2 {
		b[8*i] = byte(all[i].(int))
		copy(b[8*i+2:], all[i+1].(string))
	}
	return b
}

// lost has an inode be an orphan with some indices mapped, without a step.
func (a *account) lost(inum int, kind api.Kind, indices ...int) *account {
	a.has(inum, api.Node{Kind: kind})
	return a.own(inum, indices...)
}

// use has a block be used, without a step.
func (a *account) use(at int) {
	b := a.now[a.where.BitsAt+at/8192]
	b[at%8192/8] |= 1 << (at % 8)
	a.now[a.where.BitsAt+at/8192] = b
}

// has has an inode be n, without a step.
func (a *account) has(inum int, n api.Node) {
	b := a.now[a.where.NodeAt+inum/16]
	copy(b[64*(inum%16):], laid(n))
	a.now[a.where.NodeAt+inum/16] = b
}

// holds has an index block hold a number, without a step.
func (a *account) holds(at, place int, v uint32) {
	b := a.now[at]
	put(b[4*place:], v)
	a.now[at] = b
}

// own has indices of a file be mapped and full of bytes, without a step; the blocks are taken from the disk's end on, and the file's size has them all.
func (a *account) own(inum int, indices ...int) *account {
	n := a.node(inum)
	next := a.where.Geometry.Blocks - 1
	fresh := func(b api.Block) int {
		for a.bit(next) {
			next--
		}
		a.use(next)
		a.now[next] = b
		n.Blocks++
		return next
	}
	index := func(at int) int { // an index block, which is made if it is missing
		if at != 0 {
			return at
		}
		return fresh(api.Block{})
	}
	for _, i := range indices {
		full := mark(i * 3)
		switch {
		case i <= 9:
			n.Direct[i] = uint32(fresh(full))
		case i <= 265:
			n.Single = uint32(index(int(n.Single)))
			a.holds(int(n.Single), i-10, uint32(fresh(full)))
		default:
			n.Double = uint32(index(int(n.Double)))
			beneath := index(a.below(int(n.Double), (i-266)/256))
			a.holds(int(n.Double), (i-266)/256, uint32(beneath))
			a.holds(beneath, (i-266)%256, uint32(fresh(full)))
		}
		n.Size = max(n.Size, uint32(i+1)*1024)
	}
	a.has(inum, n)
	return a
}

// ends has a file's size be less or more than what own made of it, without a step: noughts stand behind it, and no index that is mapped may be there.
func (a *account) ends(inum, size int) *account {
	n := a.node(inum)
	n.Size = uint32(size)
	a.has(inum, n)
	if size%1024 == 0 {
		return a
	}
	if at := a.at(inum, size/1024); at != 0 {
		b := a.now[at]
		clear(b[size%1024:])
		a.now[at] = b
	}
	return a
}

// image is a disk that holds what the account has.
func (a *account) image() api.Image {
	im := api.Image{Blocks: a.where.Geometry.Blocks + 2}
	for _, at := range slices.Sorted(maps.Keys(a.now)) {
		if a.now[at] != (api.Block{}) {
			im.Data = append(im.Data, api.Held{Index: at, Data: a.now[at]})
		}
	}
	return im
}

// copied is an account of a log that has done nothing yet, of a disk that holds what this one has.
func (a *account) copied() *account { return &account{where: a.where, now: maps.Clone(a.now)} }

// world is a disk, a log of it, and what the document says of both.
type world struct {
	d     *disk.Disk
	l     *wal.Log
	a     *account
	count int // acts so far
}

func load(t testing.TB, im api.Image) *disk.Disk {
	t.Helper()
	d, err := disk.Load(im)
	if err != api.OK {
		t.Fatalf("a disk of %d blocks: %d", im.Blocks, err)
	}
	return d
}

func newLog(t testing.TB, d *disk.Disk, where api.Layout) *wal.Log {
	t.Helper()
	l, err := wal.New(d, where)
	if err != api.OK || l == nil {
		t.Fatalf("New: %v, %d", l, err)
	}
	return l
}

// newWorld is a disk that an account tells of; the account itself stays as it is.
func newWorld(t testing.TB, a *account) *world {
	t.Helper()
	d := load(t, a.image())
	return &world{d: d, l: newLog(t, d, a.where), a: a.copied()}
}

func ok(t testing.TB, errs ...api.Errno) {
	t.Helper()
	for i, err := range errs {
		if err != api.OK {
			t.Fatalf("call %d: %d", i, err)
		}
	}
}

type act func(t testing.TB, w *world)

func beginning(r int) act {
	return func(t testing.TB, w *world) {
		err := w.l.Begin(r)
		if e := w.a.begin(r); err != e {
			t.Fatalf("act %d: Begin(%d): %d, not %d", w.count, r, err, e)
		}
	}
}

func ending() act {
	return func(t testing.TB, w *world) {
		err := w.l.End()
		if e := w.a.end(); err != e {
			t.Fatalf("act %d: End: %d, not %d", w.count, err, e)
		}
	}
}

func syncing() act {
	return func(t testing.TB, w *world) {
		err := w.l.Sync()
		if e := w.a.sync(); err != e {
			t.Fatalf("act %d: Sync: %d, not %d", w.count, err, e)
		}
	}
}

// changing is a write of a block by somebody else in the step.
func changing(at int, b api.Block) act {
	return func(t testing.TB, w *world) {
		err := w.l.Write(at, b)
		if e := w.a.block(at, b); err != e {
			t.Fatalf("act %d: a write of block %d: %d, not %d", w.count, at, err, e)
		}
	}
}

func reclaiming(inum int) act {
	return func(t testing.TB, w *world) {
		want := w.a.reclaim(inum)
		if err := orphan.Reclaim(w.l, inum); err != want {
			t.Fatalf("act %d: Reclaim(%d): %d, not %d", w.count, inum, err, want)
		}
	}
}

func all() act {
	return func(t testing.TB, w *world) {
		want, e := w.a.all()
		if n, err := orphan.All(w.l); n != want || err != e {
			t.Fatalf("act %d: All: %d, %d, not %d, %d", w.count, n, err, want, e)
		}
	}
}

// trimming is one of the steps of another one's hand: trim's Step to 0.
func trimming(inum int) act {
	return func(t testing.TB, w *world) {
		w.a.next(inum)
		if more, err := trim.Step(w.l, inum, 0); more != (len(w.a.mapped(inum)) > 0) || err != api.OK {
			t.Fatalf("act %d: Step(%d, 0): %t, %d", w.count, inum, more, err)
		}
	}
}

// step makes acts in a step of its own.
func step(r int, acts ...act) act {
	return func(t testing.TB, w *world) {
		w.do(t, beginning(r))
		w.do(t, acts...)
		w.do(t, ending())
	}
}

// do makes acts, and asks behind each for what it cost. (No t.Helper here and in what it calls: it takes longer than the acts.)
func (w *world) do(t testing.TB, acts ...act) {
	for _, do := range acts {
		w.count++
		do(t, w)
		if w.l.Used() != len(w.a.group) || w.l.Open() != w.a.open || w.l.Steps() != w.a.steps || w.l.Commits() != w.a.commits || w.d.Made() != w.a.made {
			t.Fatalf("behind act %d: the group has %d blocks, not %v; a step is open: %t; %d steps, not %d; %d commits, not %d; %d things done, not %d", w.count, w.l.Used(), w.a.group, w.l.Open(), w.l.Steps(), w.a.steps, w.l.Commits(), w.a.commits, w.d.Made(), w.a.made)
		}
	}
}

// agree asks for the bytes of all blocks that were ever other than noughts, how many blocks and inodes are free, and which inodes are orphans.
func (w *world) agree(t testing.TB) {
	t.Helper()
	for at, want := range w.a.now {
		if at >= w.a.where.Geometry.Blocks {
			continue
		}
		if b, err := w.l.Read(at); b != want || err != api.OK {
			t.Fatalf("behind act %d: block %d is not what it should be: %d", w.count, at, err)
		}
	}
	if n, err := room.Free(w.l); n != w.a.free() || err != api.OK {
		t.Fatalf("behind act %d: %d are free, %d, not %d", w.count, n, err, w.a.free())
	}
	if n, err := rack.Spare(w.l); n != w.a.spare() || err != api.OK {
		t.Fatalf("behind act %d: %d inodes are free, %d, not %d", w.count, n, err, w.a.spare())
	}
	if l, err := rack.Orphans(w.l); !slices.Equal(l, w.a.orphans()) || err != api.OK {
		t.Fatalf("behind act %d: %v are orphans, %d, not %v", w.count, l, err, w.a.orphans())
	}
}

// sound asks what audit would of files that are wholly written: an inode tells how many blocks it has, each used data block but those of the list has one owner, none is mapped behind a size, and the bytes behind a size are noughts.
func (w *world) sound(t testing.TB, others ...int) {
	t.Helper()
	used := slices.Clone(others)
	for inum := 1; inum <= w.a.where.Geometry.Inodes; inum++ {
		n, err := rack.Read(w.l, inum)
		if err != api.OK || n != w.a.node(inum) {
			t.Fatalf("behind act %d: inode %d is %v, %d, not %v", w.count, inum, n, err, w.a.node(inum))
		}
		if n.Kind == api.KindFree {
			continue
		}
		own := w.a.owned(inum)
		if int(n.Blocks) != len(own) {
			t.Fatalf("behind act %d: inode %d has %d blocks, not %v", w.count, inum, n.Blocks, own)
		}
		used = slices.Concat(used, own)
		for _, index := range w.a.mapped(inum) {
			b, err := w.l.Read(w.a.at(inum, index))
			within := int(n.Size) - index*1024
			if err != api.OK || within <= 0 || within < 1024 && bytes.ContainsFunc(b[within:], func(r rune) bool { return r != 0 }) {
				t.Fatalf("behind act %d: inode %d, of size %d, has bytes at the index %d", w.count, inum, n.Size, index)
			}
		}
	}
	// The used and the unused ones are all data blocks, each once.
	all := slices.Sorted(slices.Values(slices.AppendSeq(used, w.a.unused)))
	for i, at := range all {
		if at != w.a.where.DataAt+i {
			t.Fatalf("behind act %d: about block %d one has two owners, or none", w.count, at)
		}
	}
	if len(all) != w.a.where.Geometry.Blocks-w.a.where.DataAt {
		t.Fatalf("behind act %d: %d blocks have owners or are free", w.count, len(all))
	}
}

// wrote has the group committed, and asks which blocks it had, in whichever order.
func (w *world) wrote(t testing.TB, group ...int) {
	t.Helper()
	before := len(w.d.History())
	w.do(t, syncing())
	var wrote []int
	for _, op := range w.d.History()[before:] {
		if op.Kind == api.OpWrite && op.At >= w.a.where.NodeAt {
			wrote = append(wrote, op.At)
		}
	}
	slices.Sort(wrote)
	if !slices.Equal(wrote, slices.Sorted(slices.Values(group))) {
		t.Fatalf("the group's blocks are %v, not %v", wrote, group)
	}
	w.onDisk(t)
}

// onDisk asks whether the disk holds, outside the log, just what the account has.
func (w *world) onDisk(t testing.TB) {
	t.Helper()
	held := map[int]api.Block{}
	for _, h := range w.d.Image().Data {
		held[h.Index] = h.Data
	}
	for at := range w.d.Len() {
		if at < w.a.where.LogAt || at >= w.a.where.NodeAt {
			if held[at] != w.a.now[at] {
				t.Fatalf("block %d of the disk is not what it should be", at)
			}
		}
	}
}

// still is all that may be seen of a disk and a log.
type still struct {
	image   api.Image
	history []api.Op
	pending []int
	stopped bool
	used    int
	open    bool
	commits int
	steps   int
	blocks  map[int]api.Block
}

func (w *world) still() still {
	s := still{w.d.Image(), w.d.History(), w.d.Pending(), w.d.Stopped(), w.l.Used(), w.l.Open(), w.l.Commits(), w.l.Steps(), map[int]api.Block{}}
	for at := range w.l.Layout().Geometry.Blocks {
		if b, err := w.l.Read(at); b != (api.Block{}) && err == api.OK {
			s.blocks[at] = b
		}
	}
	return s
}

// stays asks whether nothing has changed since.
func (w *world) stays(t testing.TB, was still) {
	t.Helper()
	if !reflect.DeepEqual(w.still(), was) {
		t.Fatalf("the disk or the log has changed")
	}
}
