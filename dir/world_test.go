package dir_test

import (
	"bytes"
	"fmt"
	"maps"
	"reflect"
	"slices"
	"strings"
	"testing"

	"undercroft/api"
	"undercroft/dir"
	"undercroft/disk"
	"undercroft/rack"
	"undercroft/room"
	"undercroft/shape"
	"undercroft/wal"
)

// layout is a layout that may be.
func layout(t testing.TB, blocks, log, inodes int) api.Layout {
	t.Helper()
	where, err := shape.Of(api.Geometry{Blocks: blocks, Log: log, Inodes: inodes})
	if err != api.OK {
		t.Fatalf("a layout of %d, %d, %d: %d", blocks, log, inodes, err)
	}
	return where
}

// ten is the layout of the document's ten examples: the inodes are 33 to 36, the bitmap is 37, the data 38 to 399.
func ten(t testing.TB) api.Layout {
	t.Helper()
	return layout(t, 400, 32, 60)
}

// snug is a layout with few data blocks: the inodes are 33 and 34, the bitmap is 35, the data 36 to 109.
func snug(t testing.TB) api.Layout {
	t.Helper()
	return layout(t, 110, 32, 16)
}

// far is like n in its lower 32 bits; it is n itself where an int has no others.
func far(n int) int { return int(int64(n) + 1<<32) }

// sown are n bytes, none of them 0; those that stand near each other or at like places are unlike.
func sown(seed, n int) []byte {
	p := make([]byte, n)
	for i := range p {
		p[i] = byte(1 + (i*7+i/1024*11+seed*29)%255)
	}
	return p
}

// mark is a block of which no byte is 0, and that few others are like.
func mark(n int) api.Block { return api.Block(sown(n+100, 1024)) }

// put lays a number of four bytes into a list of bytes, the lowest byte first.
func put(b []byte, v uint32) {
	b[0], b[1], b[2], b[3] = byte(v), byte(v/256), byte(v/65536), byte(v/16777216)
}

// number is the number that four bytes say.
func number(b []byte) uint32 {
	return uint32(b[0]) + 256*uint32(b[1]) + 65536*uint32(b[2]) + 16777216*uint32(b[3])
}

// laid are an inode's 64 bytes by the document's words.
func laid(n api.Node) []byte {
	b := make([]byte, 64)
	put(b, uint32(n.Kind)+65536*uint32(n.Links))
	put(b[4:], n.Size)
	put(b[8:], n.Blocks)
	for i, v := range n.Direct {
		put(b[12+4*i:], v)
	}
	put(b[52:], n.Single)
	put(b[56:], n.Double)
	return b
}

// told is the inode that 64 bytes say, by the document's words.
func told(b []byte) api.Node {
	n := api.Node{Kind: api.Kind(number(b) % 65536), Links: uint16(number(b) / 65536), Size: number(b[4:]), Blocks: number(b[8:])}
	for i := range n.Direct {
		n.Direct[i] = number(b[12+4*i:])
	}
	n.Single, n.Double = number(b[52:]), number(b[56:])
	return n
}

// account is a log and its files by the document's words, with all blocks as they are, and lists of those that were changed.
type account struct {
	where   api.Layout
	now     map[int]api.Block
	group   []int // in the order in which each was changed first
	step    []int // what the open step has changed
	open    bool
	r       int
	steps   int
	commits int
	made    int // writes and barriers
}

func (a *account) begin(r int) api.Errno {
	if a.open {
		return api.ErrStep
	}
	if len(a.group)+r > a.where.Geometry.Log-1 {
		a.commit()
	}
	a.open, a.r, a.step = true, r, nil
	return api.OK
}

func (a *account) commit() {
	a.made += 2*len(a.group) + 6
	a.commits++
	a.group = nil
}

func (a *account) end() api.Errno {
	if !a.open {
		return api.ErrStep
	}
	a.open = false
	a.steps++
	return api.OK
}

func (a *account) sync() api.Errno {
	if a.open {
		return api.ErrStep
	}
	if len(a.group) > 0 {
		a.commit()
	}
	return api.OK
}

// block is a write of a whole block, as wal has it.
func (a *account) block(at int, b api.Block) api.Errno {
	switch {
	case !a.open:
		return api.ErrStep
	case !slices.Contains(a.step, at) && len(a.step) == a.r:
		return api.ErrTight
	}
	a.now[at] = b
	if !slices.Contains(a.step, at) {
		a.step = append(a.step, at)
	}
	if !slices.Contains(a.group, at) {
		a.group = append(a.group, at)
	}
	return api.OK
}

func (a *account) data(at int) bool { return at >= a.where.DataAt && at < a.where.Geometry.Blocks }

func (a *account) bit(at int) bool {
	b := a.now[a.where.BitsAt+at/8192]
	return b[at%8192/8]>>(at%8)&1 == 1
}

// turn turns the bit of a block round.
func (a *account) turn(at int) api.Errno {
	b := a.now[a.where.BitsAt+at/8192]
	b[at%8192/8] ^= 1 << (at % 8)
	return a.block(a.where.BitsAt+at/8192, b)
}

// unused goes over the data blocks whose bit is 0, rising.
func (a *account) unused(yield func(at int) bool) {
	for base := 0; base < a.where.Geometry.Blocks; base += 8192 {
		b := a.now[a.where.BitsAt+base/8192]
		for i := range 8192 {
			if a.data(base+i) && b[i/8]>>(i%8)&1 == 0 && !yield(base+i) {
				return
			}
		}
	}
}

// take is room's Take.
func (a *account) take() (int, api.Errno) {
	for at := range a.unused {
		if err := a.turn(at); err != api.OK {
			return 0, err
		}
		if err := a.block(at, api.Block{}); err != api.OK {
			a.turn(at)
			return 0, err
		}
		return at, api.OK
	}
	return 0, api.ErrNoSpace
}

func (a *account) free() int {
	n := 0
	for range a.unused {
		n++
	}
	return n
}

func (a *account) node(inum int) api.Node {
	b := a.now[a.where.NodeAt+inum/16]
	return told(b[64*(inum%16):])
}

// setNode is rack's Write.
func (a *account) setNode(inum int, n api.Node) api.Errno {
	at := a.where.NodeAt + inum/16
	b := a.now[at]
	copy(b[64*(inum%16):], laid(n))
	return a.block(at, b)
}

// below is the number at a place of an index block; 0 of one that is missing.
func (a *account) below(at, place int) int {
	if at == 0 {
		return 0
	}
	b := a.now[at]
	return int(number(b[4*place:]))
}

// number is a number laid into an index block.
func (a *account) number(at, place, v int) api.Errno {
	b := a.now[at]
	put(b[4*place:], uint32(v))
	return a.block(at, b)
}

// way are the numbers that one meets on the way to an index, from above, the block's own last.
func (a *account) way(inum, index int) []int {
	n := a.node(inum)
	switch {
	case index <= 9:
		return []int{int(n.Direct[index])}
	case index <= 265:
		return []int{int(n.Single), a.below(int(n.Single), index-10)}
	}
	j := index - 266
	beneath := a.below(int(n.Double), j/256)
	return []int{int(n.Double), beneath, a.below(beneath, j%256)}
}

// at is the block of an index; 0: a hole.
func (a *account) at(inum, index int) int {
	way := a.way(inum, index)
	return way[len(way)-1]
}

func (a *account) there(inum int) bool { return inum >= 1 && inum <= a.where.Geometry.Inodes }

// need counts what is missing for an index to be mapped: it, if it is a hole, and the index blocks above it.
func (a *account) need(inum, index int) int {
	n := 0
	for _, at := range a.way(inum, index) {
		if at == 0 {
			n++
		}
	}
	return n
}

// mapIt is chart's Map.
func (a *account) mapIt(inum, index int) (int, api.Errno) {
	if at := a.at(inum, index); at != 0 {
		return at, api.OK
	}
	n := a.node(inum)
	// fresh takes a block, and has its number laid; of one whose number stands in the inode there is nothing to lay yet.
	fresh := func(above, place int) (int, api.Errno) {
		at, err := a.take()
		if err == api.OK && above != 0 {
			err = a.number(above, place, at)
		}
		n.Blocks++
		return at, err
	}
	at, err := 0, api.OK
	switch {
	case index <= 9:
		at, err = fresh(0, 0)
		n.Direct[index] = uint32(at)
	case index <= 265:
		single := int(n.Single)
		if single == 0 {
			single, err = fresh(0, 0)
		}
		if err == api.OK {
			at, err = fresh(single, index-10)
		}
		n.Single = uint32(single)
	default:
		j, double := index-266, int(n.Double)
		if double == 0 {
			double, err = fresh(0, 0)
		}
		beneath := 0
		if err == api.OK {
			if beneath = a.below(double, j/256); beneath == 0 {
				beneath, err = fresh(double, j/256)
			}
		}
		if err == api.OK {
			at, err = fresh(beneath, j%256)
		}
		n.Double = uint32(double)
	}
	if err == api.OK {
		err = a.setNode(inum, n)
	}
	return at, err
}

// sixteen are an entry's bytes by the document's words.
func sixteen(e api.Entry) []byte {
	b := make([]byte, 16)
	b[0], b[1] = byte(e.Inum%256), byte(e.Inum/256)
	for i := range len(e.Name) {
		b[2+i] = e.Name[i]
	}
	return b
}

// said is the entry that sixteen bytes say.
func said(b []byte) api.Entry {
	name := b[2:16]
	for len(name) > 0 && name[len(name)-1] == 0 {
		name = name[:len(name)-1]
	}
	return api.Entry{Inum: uint16(b[0]) + 256*uint16(b[1]), Name: string(name)}
}

// shown are entries as a failure's text has them.
func shown(l ...api.Entry) string {
	var words []string
	for _, e := range l {
		words = append(words, fmt.Sprintf("%d %q", e.Inum, e.Name))
	}
	return fmt.Sprintf("%d: %s", len(l), strings.Join(words, ", "))
}

// named is chapter 18's error of a name.
func named(name string) api.Errno {
	switch {
	case name == "" || strings.ContainsAny(name, "\x00/"):
		return api.ErrInval
	case len(name) > 14:
		return api.ErrName
	}
	return api.OK
}

// first are the errors of P19.1, of a log that is there and lives, but for ErrStep.
func (a *account) first(dir int) api.Errno {
	switch {
	case !a.there(dir):
		return api.ErrArg
	case a.node(dir).Kind != api.KindDir:
		return api.ErrNotDir
	}
	return api.OK
}

// slots are a directory's slots, in order.
func (a *account) slots(dir int) []api.Entry {
	var l []api.Entry
	for index := range (int(a.node(dir).Size) + 1023) / 1024 {
		b := a.now[a.at(dir, index)]
		for i := 0; i < 1024 && len(l) < int(a.node(dir).Size)/16; i += 16 {
			l = append(l, said(b[i:i+16]))
		}
	}
	return l
}

// list is Slots.
func (a *account) list(dir int) ([]api.Entry, api.Errno) {
	if err := a.first(dir); err != api.OK {
		return nil, err
	}
	return a.slots(dir), api.OK
}

// find is Find.
func (a *account) find(dir int, name string) (int, int, api.Errno) {
	if err := a.first(dir); err != api.OK {
		return 0, 0, err
	}
	if err := named(name); err != api.OK {
		return 0, 0, err
	}
	for slot, e := range a.slots(dir) {
		if e.Inum != 0 && e.Name == name {
			return slot, int(e.Inum), api.OK
		}
	}
	return 0, 0, api.ErrNoEnt
}

// empty is Empty.
func (a *account) empty(dir int) (bool, api.Errno) {
	if err := a.first(dir); err != api.OK {
		return false, err
	}
	for slot, e := range a.slots(dir) {
		if slot >= 2 && e.Inum != 0 {
			return false, api.OK
		}
	}
	return true, api.OK
}

// spot is Spot.
func (a *account) spot(dir int) (int, int, api.Errno) {
	if err := a.first(dir); err != api.OK {
		return 0, 0, err
	}
	slots := a.slots(dir)
	for slot, e := range slots {
		if e.Inum == 0 {
			return slot, 0, api.OK
		}
	}
	if a.node(dir).Size == 67381248 {
		return 0, 0, api.ErrBig
	}
	return len(slots), a.need(dir, len(slots)/64), api.OK
}

// refuses are Set's errors ahead of any change.
func (a *account) refuses(dir, slot int, e api.Entry) api.Errno {
	if !a.open {
		return api.ErrStep
	}
	if err := a.first(dir); err != api.OK {
		return err
	}
	size := int(a.node(dir).Size)
	behind := slot == size/16
	switch {
	case slot < 0 || slot > size/16:
		return api.ErrArg
	case e.Inum == 0 && e.Name != "":
		return api.ErrInval
	case e.Inum != 0 && named(e.Name) != api.OK:
		return named(e.Name)
	case behind && size == 67381248:
		return api.ErrBig
	case behind && a.need(dir, slot/64) > a.free():
		return api.ErrNoSpace
	}
	return api.OK
}

// set is Set. (The chapter leaves free in which order the blocks are written; here it is that of lay's Put, so that one may say what stays behind an ErrTight.)
func (a *account) set(dir, slot int, e api.Entry) api.Errno {
	if err := a.refuses(dir, slot, e); err != api.OK {
		return err
	}
	behind := slot == int(a.node(dir).Size)/16
	at, err := a.mapIt(dir, slot/64)
	if err != api.OK {
		return err
	}
	b := a.now[at]
	copy(b[slot%64*16:], sixteen(e))
	if err := a.block(at, b); err != api.OK || !behind {
		return err
	}
	n := a.node(dir)
	n.Size += 16
	return a.setNode(dir, n)
}

// mapped are the mapped indices of a file, rising.
func (a *account) mapped(inum int) []int {
	var l []int
	n := a.node(inum)
	for i := range 266 {
		if (i < 10 || n.Single != 0) && a.at(inum, i) != 0 {
			l = append(l, i)
		}
	}
	for k := range 256 {
		if beneath := a.below(int(n.Double), k); beneath != 0 {
			for i := range 256 {
				if a.below(beneath, i) != 0 {
					l = append(l, 266+256*k+i)
				}
			}
		}
	}
	return l
}

// owned are all blocks of a file, its index blocks too.
func (a *account) owned(inum int) []int {
	var l []int
	for _, index := range a.mapped(inum) {
		l = append(l, a.at(inum, index))
	}
	n := a.node(inum)
	if n.Single != 0 {
		l = append(l, int(n.Single))
	}
	if n.Double != 0 {
		l = append(l, int(n.Double))
		for k := range 256 {
			if at := a.below(int(n.Double), k); at != 0 {
				l = append(l, at)
			}
		}
	}
	return l
}

// made is an account of a disk with a small file system: the root, in the first data block; inode 2, a file without blocks, and inode 3, one of five bytes that is a hole; bytes in the free data blocks (in some of them), and in two blocks behind the layout's last one.
func made(t testing.TB, where api.Layout) *account {
	t.Helper()
	super, err := shape.Encode(where)
	ok(t, err)
	a := &account{where: where, now: map[int]api.Block{0: super}}
	for at := range where.DataAt {
		a.use(at)
	}
	for at := where.DataAt; at < min(where.DataAt+400, where.Geometry.Blocks); at++ {
		a.now[at] = mark(at)
	}
	a.now[where.Geometry.Blocks], a.now[where.Geometry.Blocks+1] = mark(1), mark(2)
	a.use(where.DataAt)
	root := api.Block{}
	copy(root[:], []byte{1, 0, '.'})
	copy(root[16:], []byte{1, 0, '.', '.'})
	a.now[where.DataAt] = root
	a.has(1, api.Node{Kind: api.KindDir, Links: 2, Size: 32, Blocks: 1, Direct: [10]uint32{uint32(where.DataAt)}})
	a.has(2, api.Node{Kind: api.KindFile, Links: 1})
	a.has(3, api.Node{Kind: api.KindFile, Links: 1, Size: 5})
	return a
}

// use has a block be used, without a step.
func (a *account) use(at int) {
	b := a.now[a.where.BitsAt+at/8192]
	b[at%8192/8] |= 1 << (at % 8)
	a.now[a.where.BitsAt+at/8192] = b
}

// leave has all data blocks be used but the last n free ones.
func (a *account) leave(n int) *account {
	for at := a.where.Geometry.Blocks - 1; a.data(at); at-- {
		if a.bit(at) {
			continue
		}
		if n == 0 {
			a.use(at)
			continue
		}
		n--
	}
	return a
}

// has has an inode be n, without a step.
func (a *account) has(inum int, n api.Node) {
	b := a.now[a.where.NodeAt+inum/16]
	copy(b[64*(inum%16):], laid(n))
	a.now[a.where.NodeAt+inum/16] = b
}

// holds has an index block hold a number, without a step.
func (a *account) holds(at, place int, v uint32) {
	b := a.now[at]
	put(b[4*place:], v)
	a.now[at] = b
}

// own has an index of a file be mapped to a block of these bytes, without a step: to the one that it has, else to the last that is free, its index blocks likewise.
func (a *account) own(inum, index int, full api.Block) {
	n := a.node(inum)
	fresh := func(at int, b api.Block) uint32 {
		if at != 0 {
			return uint32(at)
		}
		for at = a.where.Geometry.Blocks - 1; a.bit(at); at-- {
		}
		a.use(at)
		a.now[at] = b
		n.Blocks++
		return uint32(at)
	}
	at := 0
	switch way := a.way(inum, index); {
	case index <= 9:
		at = int(fresh(way[0], full))
		n.Direct[index] = uint32(at)
	case index <= 265:
		n.Single = fresh(way[0], api.Block{})
		at = int(fresh(way[1], full))
		a.holds(int(n.Single), index-10, uint32(at))
	default:
		n.Double = fresh(way[0], api.Block{})
		beneath := fresh(way[1], api.Block{})
		a.holds(int(n.Double), (index-266)/256, beneath)
		at = int(fresh(way[2], full))
		a.holds(int(beneath), (index-266)%256, uint32(at))
	}
	a.now[at] = full
	a.has(inum, n)
}

// lists has an inode be a directory of these slots, without a step.
func (a *account) lists(inum int, slots ...api.Entry) *account {
	n := a.node(inum)
	n.Kind, n.Links, n.Size = api.KindDir, 2, uint32(16*len(slots))
	a.has(inum, n)
	for index := range (len(slots) + 63) / 64 {
		var b api.Block
		for i, e := range slots[64*index : min(len(slots), 64*index+64)] {
			copy(b[16*i:], sixteen(e))
		}
		a.own(inum, index, b)
	}
	return a
}

// image is a disk that holds what the account has.
func (a *account) image() api.Image {
	im := api.Image{Blocks: a.where.Geometry.Blocks + 2}
	for _, at := range slices.Sorted(maps.Keys(a.now)) {
		if a.now[at] != (api.Block{}) {
			im.Data = append(im.Data, api.Held{Index: at, Data: a.now[at]})
		}
	}
	return im
}

// copied is an account of a log that has done nothing yet, of a disk that holds what this one has.
func (a *account) copied() *account { return &account{where: a.where, now: maps.Clone(a.now)} }

// world is a disk, a log of it, and what the document says of both.
type world struct {
	d     *disk.Disk
	l     *wal.Log
	a     *account
	count int // acts so far
}

func load(t testing.TB, im api.Image) *disk.Disk {
	t.Helper()
	d, err := disk.Load(im)
	if err != api.OK {
		t.Fatalf("a disk of %d blocks: %d", im.Blocks, err)
	}
	return d
}

func newLog(t testing.TB, d *disk.Disk, where api.Layout) *wal.Log {
	t.Helper()
	l, err := wal.New(d, where)
	if err != api.OK || l == nil {
		t.Fatalf("New: %v, %d", l, err)
	}
	return l
}

// newWorld is a disk that an account tells of; the account itself stays as it is.
func newWorld(t testing.TB, a *account) *world {
	t.Helper()
	d := load(t, a.image())
	return &world{d: d, l: newLog(t, d, a.where), a: a.copied()}
}

func ok(t testing.TB, errs ...api.Errno) {
	t.Helper()
	for i, err := range errs {
		if err != api.OK {
			t.Fatalf("call %d: %d", i, err)
		}
	}
}

type act func(t testing.TB, w *world)

func beginning(r int) act {
	return func(t testing.TB, w *world) {
		err := w.l.Begin(r)
		if e := w.a.begin(r); err != e {
			t.Fatalf("act %d: Begin(%d): %d, not %d", w.count, r, err, e)
		}
	}
}

func ending() act {
	return func(t testing.TB, w *world) {
		err := w.l.End()
		if e := w.a.end(); err != e {
			t.Fatalf("act %d: End: %d, not %d", w.count, err, e)
		}
	}
}

func syncing() act {
	return func(t testing.TB, w *world) {
		err := w.l.Sync()
		if e := w.a.sync(); err != e {
			t.Fatalf("act %d: Sync: %d, not %d", w.count, err, e)
		}
	}
}

// changing is a write of a block by somebody else in the step.
func changing(at int, b api.Block) act {
	return func(t testing.TB, w *world) {
		err := w.l.Write(at, b)
		if e := w.a.block(at, b); err != e {
			t.Fatalf("act %d: a write of block %d: %d, not %d", w.count, at, err, e)
		}
	}
}

func finding(inum int, name string) act {
	return func(t testing.TB, w *world) {
		slot, found, e := w.a.find(inum, name)
		if s, n, err := dir.Find(w.l, inum, name); s != slot || n != found || err != e {
			t.Fatalf("act %d: Find(%d, %q): %d, %d, %d, not %d, %d, %d", w.count, inum, name, s, n, err, slot, found, e)
		}
	}
}

func listing(inum int) act {
	return func(t testing.TB, w *world) {
		want, e := w.a.list(inum)
		if l, err := dir.Slots(w.l, inum); !slices.Equal(l, want) || err != e {
			t.Fatalf("act %d: Slots(%d): %s, %d, not %s, %d", w.count, inum, shown(l...), err, shown(want...), e)
		}
	}
}

func spotting(inum int) act {
	return func(t testing.TB, w *world) {
		slot, need, e := w.a.spot(inum)
		if s, n, err := dir.Spot(w.l, inum); s != slot || n != need || err != e {
			t.Fatalf("act %d: Spot(%d): %d, %d, %d, not %d, %d, %d", w.count, inum, s, n, err, slot, need, e)
		}
	}
}

func emptying(inum int) act {
	return func(t testing.TB, w *world) {
		want, e := w.a.empty(inum)
		if is, err := dir.Empty(w.l, inum); is != want || err != e {
			t.Fatalf("act %d: Empty(%d): %t, %d, not %t, %d", w.count, inum, is, err, want, e)
		}
	}
}

func setting(inum, slot int, e api.Entry) act {
	return func(t testing.TB, w *world) {
		want := w.a.set(inum, slot, e)
		if err := dir.Set(w.l, inum, slot, e); err != want {
			t.Fatalf("act %d: Set(%d, %d, %s): %d, not %d", w.count, inum, slot, shown(e), err, want)
		}
	}
}

// asking asks all of a directory that may be asked, but for names.
func asking(inum int) act {
	return func(t testing.TB, w *world) {
		w.do(t, listing(inum), spotting(inum), emptying(inum))
	}
}

// step makes acts in a step of its own.
func step(r int, acts ...act) act {
	return func(t testing.TB, w *world) {
		w.do(t, beginning(r))
		w.do(t, acts...)
		w.do(t, ending())
	}
}

// do makes acts, and asks behind each for what it cost. (No t.Helper here and in what it calls: it takes longer than the acts.)
func (w *world) do(t testing.TB, acts ...act) {
	for _, do := range acts {
		w.count++
		do(t, w)
		if w.l.Used() != len(w.a.group) || w.l.Open() != w.a.open || w.l.Steps() != w.a.steps || w.l.Commits() != w.a.commits || w.d.Made() != w.a.made {
			t.Fatalf("behind act %d: the group has %d blocks, not %v; a step is open: %t; %d steps, not %d; %d commits, not %d; %d things done, not %d", w.count, w.l.Used(), w.a.group, w.l.Open(), w.l.Steps(), w.a.steps, w.l.Commits(), w.a.commits, w.d.Made(), w.a.made)
		}
	}
}

// agree asks for the bytes of all blocks that were ever other than noughts, and how many blocks are free.
func (w *world) agree(t testing.TB) {
	t.Helper()
	for at, want := range w.a.now {
		if at >= w.a.where.Geometry.Blocks {
			continue
		}
		if b, err := w.l.Read(at); b != want || err != api.OK {
			t.Fatalf("behind act %d: block %d is not what it should be: %d", w.count, at, err)
		}
	}
	if n, err := room.Free(w.l); n != w.a.free() || err != api.OK {
		t.Fatalf("behind act %d: %d are free, %d, not %d", w.count, n, err, w.a.free())
	}
}

// sound asks what audit would of files and directories: an inode tells how many blocks it has, each used data block but those of the list has one owner, none is mapped behind a size, all are within that of a directory, and the bytes behind a size are noughts.
func (w *world) sound(t testing.TB, others ...int) {
	t.Helper()
	used := slices.Clone(others)
	for inum := 1; inum <= w.a.where.Geometry.Inodes; inum++ {
		n, err := rack.Read(w.l, inum)
		if err != api.OK || n != w.a.node(inum) {
			t.Fatalf("behind act %d: inode %d is %v, %d, not %v", w.count, inum, n, err, w.a.node(inum))
		}
		if n.Kind == api.KindFree {
			continue
		}
		own := w.a.owned(inum)
		if int(n.Blocks) != len(own) {
			t.Fatalf("behind act %d: inode %d has %d blocks, not %v", w.count, inum, n.Blocks, own)
		}
		used = slices.Concat(used, own)
		if n.Kind == api.KindDir && len(w.a.mapped(inum)) != (int(n.Size)+1023)/1024 {
			t.Fatalf("behind act %d: the directory %d, of size %d, has the indices %v", w.count, inum, n.Size, w.a.mapped(inum))
		}
		for _, index := range w.a.mapped(inum) {
			b, err := w.l.Read(w.a.at(inum, index))
			within := int(n.Size) - index*1024
			if err != api.OK || within <= 0 || within < 1024 && bytes.ContainsFunc(b[within:], func(r rune) bool { return r != 0 }) {
				t.Fatalf("behind act %d: inode %d, of size %d, has bytes at the index %d", w.count, inum, n.Size, index)
			}
		}
	}
	// The used and the unused ones are all data blocks, each once.
	all := slices.Sorted(slices.Values(slices.AppendSeq(used, w.a.unused)))
	for i, at := range all {
		if at != w.a.where.DataAt+i {
			t.Fatalf("behind act %d: about block %d one has two owners, or none", w.count, at)
		}
	}
	if len(all) != w.a.where.Geometry.Blocks-w.a.where.DataAt {
		t.Fatalf("behind act %d: %d blocks have owners or are free", w.count, len(all))
	}
}

// wrote ends the step if one is open, has the group committed, and asks which blocks it had, in whatever order.
func (w *world) wrote(t testing.TB, group ...int) {
	t.Helper()
	before := len(w.d.History())
	if w.l.Open() {
		w.do(t, ending())
	}
	w.do(t, syncing())
	var wrote []int
	for _, op := range w.d.History()[before:] {
		if op.Kind == api.OpWrite && op.At >= w.a.where.NodeAt {
			wrote = append(wrote, op.At)
		}
	}
	slices.Sort(wrote)
	if !slices.Equal(wrote, slices.Sorted(slices.Values(group))) {
		t.Fatalf("the group's blocks are %v, not %v", wrote, group)
	}
	w.onDisk(t)
}

// onDisk asks whether the disk holds, outside the log, just what the account has.
func (w *world) onDisk(t testing.TB) {
	t.Helper()
	held := map[int]api.Block{}
	for _, h := range w.d.Image().Data {
		held[h.Index] = h.Data
	}
	for at := range w.d.Len() {
		if at < w.a.where.LogAt || at >= w.a.where.NodeAt {
			if held[at] != w.a.now[at] {
				t.Fatalf("block %d of the disk is not what it should be", at)
			}
		}
	}
}

// still is all that may be seen of a disk and a log.
type still struct {
	image   api.Image
	history []api.Op
	pending []int
	stopped bool
	used    int
	open    bool
	commits int
	steps   int
	blocks  map[int]api.Block
}

func (w *world) still() still {
	s := still{w.d.Image(), w.d.History(), w.d.Pending(), w.d.Stopped(), w.l.Used(), w.l.Open(), w.l.Commits(), w.l.Steps(), map[int]api.Block{}}
	for at := range w.l.Layout().Geometry.Blocks {
		if b, err := w.l.Read(at); b != (api.Block{}) && err == api.OK {
			s.blocks[at] = b
		}
	}
	return s
}

// stays asks whether nothing has changed since.
func (w *world) stays(t testing.TB, was still) {
	t.Helper()
	if !reflect.DeepEqual(w.still(), was) {
		t.Fatalf("the disk or the log has changed")
	}
}
