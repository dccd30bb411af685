package trim_test

import (
	"bytes"
	"iter"
	"maps"
	"reflect"
	"slices"
	"testing"

	"undercroft/api"
	"undercroft/disk"
	"undercroft/fetch"
	"undercroft/lay"
	"undercroft/rack"
	"undercroft/room"
	"undercroft/shape"
	"undercroft/trim"
	"undercroft/wal"
)

// layout is a layout that may be.
func layout(t testing.TB, blocks, log, inodes int) api.Layout {
	t.Helper()
	where, err := shape.Of(api.Geometry{Blocks: blocks, Log: log, Inodes: inodes})
	if err != api.OK {
		t.Fatalf("a layout of %d, %d, %d: %d", blocks, log, inodes, err)
	}
	return where
}

// ten is the layout of the document's ten examples: the inodes are 33 to 36, the bitmap is 37, the data 38 to 399.
func ten(t testing.TB) api.Layout {
	t.Helper()
	return layout(t, 400, 32, 60)
}

// snug is a layout with few data blocks: the inodes are 33 and 34, the bitmap is 35, the data 36 to 109.
func snug(t testing.TB) api.Layout {
	t.Helper()
	return layout(t, 110, 32, 16)
}

// far is like n in its lower 32 bits; it is n itself where an int has no others.
func far(n int) int { return int(int64(n) + 1<<32) }

// sown are n bytes, none of them 0; those that stand near each other or at like places are unlike.
func sown(seed, n int) []byte {
	p := make([]byte, n)
	for i := range p {
		p[i] = byte(1 + (i*7+i/1024*11+seed*29)%255)
	}
	return p
}

// mark is a block of which no byte is 0, and that few others are like.
func mark(n int) api.Block { return api.Block(sown(n+100, 1024)) }

// put lays a number of four bytes into a list of bytes, the lowest byte first.
func put(b []byte, v uint32) {
	b[0], b[1], b[2], b[3] = byte(v), byte(v/256), byte(v/65536), byte(v/16777216)
}

// number is the number that four bytes say.
func number(b []byte) uint32 {
	return uint32(b[0]) + 256*uint32(b[1]) + 65536*uint32(b[2]) + 16777216*uint32(b[3])
}

// laid are an inode's 64 bytes by the document's words.
func laid(n api.Node) []byte {
	b := make([]byte, 64)
	put(b, uint32(n.Kind)+65536*uint32(n.Links))
	put(b[4:], n.Size)
	put(b[8:], n.Blocks)
	for i, v := range n.Direct {
		put(b[12+4*i:], v)
	}
	put(b[52:], n.Single)
	put(b[56:], n.Double)
	return b
}

// told is the inode that 64 bytes say, by the document's words.
func told(b []byte) api.Node {
	n := api.Node{Kind: api.Kind(number(b) % 65536), Links: uint16(number(b) / 65536), Size: number(b[4:]), Blocks: number(b[8:])}
	for i := range n.Direct {
		n.Direct[i] = number(b[12+4*i:])
	}
	n.Single, n.Double = number(b[52:]), number(b[56:])
	return n
}

// account is a log and its files by the document's words, with all blocks as they are, and lists of those that were changed.
type account struct {
	where   api.Layout
	now     map[int]api.Block
	group   []int // in the order in which each was changed first
	step    []int // what the open step has changed
	open    bool
	r       int
	steps   int
	commits int
	made    int // writes and barriers
}

func (a *account) begin(r int) api.Errno {
	if a.open {
		return api.ErrStep
	}
	if len(a.group)+r > a.where.Geometry.Log-1 {
		a.commit()
	}
	a.open, a.r, a.step = true, r, nil
	return api.OK
}

func (a *account) commit() {
	a.made += 2*len(a.group) + 6
	a.commits++
	a.group = nil
}

func (a *account) end() api.Errno {
	if !a.open {
		return api.ErrStep
	}
	a.open = false
	a.steps++
	return api.OK
}

func (a *account) sync() api.Errno {
	if a.open {
		return api.ErrStep
	}
	if len(a.group) > 0 {
		a.commit()
	}
	return api.OK
}

// block is a write of a whole block, as wal has it.
func (a *account) block(at int, b api.Block) api.Errno {
	switch {
	case !a.open:
		return api.ErrStep
	case !slices.Contains(a.step, at) && len(a.step) == a.r:
		return api.ErrTight
	}
	a.now[at] = b
	if !slices.Contains(a.step, at) {
		a.step = append(a.step, at)
	}
	if !slices.Contains(a.group, at) {
		a.group = append(a.group, at)
	}
	return api.OK
}

func (a *account) data(at int) bool { return at >= a.where.DataAt && at < a.where.Geometry.Blocks }

func (a *account) bit(at int) bool {
	b := a.now[a.where.BitsAt+at/8192]
	return b[at%8192/8]>>(at%8)&1 == 1
}

// turn turns the bit of a block round.
func (a *account) turn(at int) api.Errno {
	b := a.now[a.where.BitsAt+at/8192]
	b[at%8192/8] ^= 1 << (at % 8)
	return a.block(a.where.BitsAt+at/8192, b)
}

// unused goes over the data blocks whose bit is 0, rising.
func (a *account) unused(yield func(at int) bool) {
	for base := 0; base < a.where.Geometry.Blocks; base += 8192 {
		b := a.now[a.where.BitsAt+base/8192]
		for i := range 8192 {
			if a.data(base+i) && b[i/8]>>(i%8)&1 == 0 && !yield(base+i) {
				return
			}
		}
	}
}

// take is room's Take.
func (a *account) take() (int, api.Errno) {
	for at := range a.unused {
		if err := a.turn(at); err != api.OK {
			return 0, err
		}
		if err := a.block(at, api.Block{}); err != api.OK {
			a.turn(at)
			return 0, err
		}
		return at, api.OK
	}
	return 0, api.ErrNoSpace
}

func (a *account) free() int {
	n := 0
	for range a.unused {
		n++
	}
	return n
}

func (a *account) node(inum int) api.Node {
	b := a.now[a.where.NodeAt+inum/16]
	return told(b[64*(inum%16):])
}

// setNode is rack's Write.
func (a *account) setNode(inum int, n api.Node) api.Errno {
	at := a.where.NodeAt + inum/16
	b := a.now[at]
	copy(b[64*(inum%16):], laid(n))
	return a.block(at, b)
}

// below is the number at a place of an index block; 0 of one that is missing.
func (a *account) below(at, place int) int {
	if at == 0 {
		return 0
	}
	b := a.now[at]
	return int(number(b[4*place:]))
}

// number is a number laid into an index block.
func (a *account) number(at, place, v int) api.Errno {
	b := a.now[at]
	put(b[4*place:], uint32(v))
	return a.block(at, b)
}

// way are the numbers that one meets on the way to an index, from above, the block's own last.
func (a *account) way(inum, index int) []int {
	n := a.node(inum)
	switch {
	case index <= 9:
		return []int{int(n.Direct[index])}
	case index <= 265:
		return []int{int(n.Single), a.below(int(n.Single), index-10)}
	}
	j := index - 266
	beneath := a.below(int(n.Double), j/256)
	return []int{int(n.Double), beneath, a.below(beneath, j%256)}
}

// at is the block of an index; 0: a hole.
func (a *account) at(inum, index int) int {
	way := a.way(inum, index)
	return way[len(way)-1]
}

func (a *account) there(inum int) bool { return inum >= 1 && inum <= a.where.Geometry.Inodes }

// mapIt is chart's Map.
func (a *account) mapIt(inum, index int) (int, api.Errno) {
	if at := a.at(inum, index); at != 0 {
		return at, api.OK
	}
	n := a.node(inum)
	// fresh takes a block, and has its number laid; of one whose number stands in the inode there is nothing to lay yet.
	fresh := func(above, place int) (int, api.Errno) {
		at, err := a.take()
		if err == api.OK && above != 0 {
			err = a.number(above, place, at)
		}
		n.Blocks++
		return at, err
	}
	at, err := 0, api.OK
	switch {
	case index <= 9:
		at, err = fresh(0, 0)
		n.Direct[index] = uint32(at)
	case index <= 265:
		single := int(n.Single)
		if single == 0 {
			single, err = fresh(0, 0)
		}
		if err == api.OK {
			at, err = fresh(single, index-10)
		}
		n.Single = uint32(single)
	default:
		j, double := index-266, int(n.Double)
		if double == 0 {
			double, err = fresh(0, 0)
		}
		beneath := 0
		if err == api.OK {
			if beneath = a.below(double, j/256); beneath == 0 {
				beneath, err = fresh(double, j/256)
			}
		}
		if err == api.OK {
			at, err = fresh(beneath, j%256)
		}
		n.Double = uint32(double)
	}
	if err == api.OK {
		err = a.setNode(inum, n)
	}
	return at, err
}

// refuses are the errors of P16.1, of a log that is there and lives.
func (a *account) refuses(inum, size int) api.Errno {
	switch {
	case a.open:
		return api.ErrStep
	case !a.there(inum):
		return api.ErrArg
	case size < 0:
		return api.ErrInval
	case a.node(inum).Kind == api.KindFree:
		return api.ErrNoEnt
	}
	return api.OK
}

// bound is a size in blocks.
func bound(size int) int {
	k := size / 1024
	if size%1024 != 0 {
		k++
	}
	return k
}

// behind are the mapped indices from the bound of a size on, rising.
func (a *account) behind(inum, size int) []int {
	return slices.DeleteFunc(a.mapped(inum), func(index int) bool { return index < bound(size) })
}

// trim is Step.
func (a *account) trim(inum, size int) (bool, api.Errno) {
	if err := a.refuses(inum, size); err != api.OK {
		return false, err
	}
	if n := a.node(inum); n.Kind == api.KindDir && n.Links != 0 {
		return false, api.ErrIsDir
	}
	l := a.behind(inum, size)
	if len(l) == 0 {
		return false, api.OK
	}
	g := l[len(l)-1] / 8
	a.begin(15)
	defer a.end()
	a.drop(inum, slices.DeleteFunc(l, func(index int) bool { return index/8 != g }))
	n := a.node(inum)
	n.Size = min(n.Size, uint32(max(1024*bound(size), 8192*g)))
	return len(a.behind(inum, size)) > 0, a.setNode(inum, n)
}

// cut is Cut.
func (a *account) cut(inum, size int) api.Errno {
	if err := a.refuses(inum, size); err != api.OK {
		return err
	}
	if a.node(inum).Kind == api.KindDir {
		return api.ErrIsDir
	}
	if int(a.node(inum).Size) <= size {
		return api.OK
	}
	for len(a.behind(inum, size)) > 0 {
		a.trim(inum, size)
	}
	if int(a.node(inum).Size) > size {
		return a.size(inum, size)
	}
	return api.OK
}

// size is Size.
func (a *account) size(inum, size int) api.Errno {
	if err := a.refuses(inum, size); err != api.OK {
		return err
	}
	n := a.node(inum)
	switch {
	case n.Kind == api.KindDir:
		return api.ErrIsDir
	case size > 67381248:
		return api.ErrBig
	case len(a.behind(inum, size)) > 0:
		return api.ErrInval
	}
	was := int(n.Size)
	a.begin(2)
	defer a.end()
	n.Size = uint32(size)
	if err := a.setNode(inum, n); err != api.OK || was <= size || size%1024 == 0 {
		return err
	}
	at := a.at(inum, size/1024)
	if at == 0 {
		return api.OK
	}
	b := a.now[at]
	for i := size % 1024; i < 1024; i++ {
		b[i] = 0
	}
	return a.block(at, b)
}

// drop is chart's Drop of indices that are mapped.
func (a *account) drop(inum int, indices []int) {
	n := a.node(inum)
	give := func(at int) {
		a.turn(at)
		n.Blocks--
	}
	tables := map[int]api.Block{} // the index blocks from which a number goes, as they become
	lose := func(at, place int) {
		b, ok := tables[at]
		if !ok {
			b = a.now[at]
		}
		put(b[4*place:], 0)
		tables[at] = b
	}
	for _, index := range indices {
		way := a.way(inum, index)
		give(way[len(way)-1])
		switch {
		case index <= 9:
			n.Direct[index] = 0
		case index <= 265:
			lose(way[0], index-10)
		default:
			lose(way[1], (index-266)%256)
		}
	}
	for _, index := range indices {
		if way := a.way(inum, index); index > 265 && tables[way[1]] == (api.Block{}) {
			lose(way[0], (index-266)/256)
		}
	}
	for _, at := range slices.Sorted(maps.Keys(tables)) {
		if tables[at] != (api.Block{}) {
			a.block(at, tables[at])
			continue
		}
		give(at) // and it keeps its bytes
		switch at {
		case int(n.Single):
			n.Single = 0
		case int(n.Double):
			n.Double = 0
		}
	}
	a.setNode(inum, n)
}

// write is lay's Write, with room for all of it.
func (a *account) write(inum, at int, p []byte) {
	for done := 0; done < len(p); {
		end := min(len(p), ((at+done)/8192+1)*8192-at)
		a.begin(23)
		a.put(inum, at+done, p[done:end])
		a.end()
		done = end
	}
}

// put is lay's Put, with room for all of it.
func (a *account) put(inum, at int, p []byte) {
	for index := at / 1024; index <= (at+len(p)-1)/1024; index++ {
		block, _ := a.mapIt(inum, index)
		b := a.now[block]
		for i := range b {
			if place := index*1024 + i; place >= at && place < at+len(p) {
				b[i] = p[place-at]
			}
		}
		a.block(block, b)
	}
	n := a.node(inum)
	if at+len(p) > int(n.Size) {
		n.Size = uint32(at + len(p))
		a.setNode(inum, n)
	}
}

// table are the numbers of an index block that are not 0, by their places; none of one that is missing.
func (a *account) table(at int) iter.Seq2[int, int] {
	b := a.now[at]
	return func(yield func(place, v int) bool) {
		for i := range 256 {
			if v := number(b[4*i:]); at != 0 && v != 0 && !yield(i, int(v)) {
				return
			}
		}
	}
}

// mapped are the mapped indices of a file, rising.
func (a *account) mapped(inum int) []int {
	var l []int
	n := a.node(inum)
	for i, v := range n.Direct {
		if v != 0 {
			l = append(l, i)
		}
	}
	for i := range a.table(int(n.Single)) {
		l = append(l, 10+i)
	}
	for k, at := range a.table(int(n.Double)) {
		for i := range a.table(at) {
			l = append(l, 266+256*k+i)
		}
	}
	return l
}

// owned are all blocks of a file, its index blocks too.
func (a *account) owned(inum int) []int {
	var l []int
	for _, index := range a.mapped(inum) {
		l = append(l, a.at(inum, index))
	}
	n := a.node(inum)
	if n.Single != 0 {
		l = append(l, int(n.Single))
	}
	if n.Double != 0 {
		l = append(l, int(n.Double))
	}
	for _, at := range a.table(int(n.Double)) {
		l = append(l, at)
	}
	return l
}

// read are the bytes of a file from a place on, one by one.
func (a *account) read(inum, at, count int) []byte {
	p := []byte{}
	size, index, b := int(a.node(inum).Size), -1, api.Block{}
	for ; at < size && len(p) < count; at++ {
		if at/1024 != index {
			index, b = at/1024, api.Block{}
			if block := a.at(inum, index); block != 0 {
				b = a.now[block]
			}
		}
		p = append(p, b[at%1024])
	}
	return p
}

// made is an account of a disk with a small file system: the root, in the first data block; inode 2, a file without blocks, and inode 3, one of five bytes that is a hole; bytes in the free data blocks (in some of them), and in two blocks behind the layout's last one.
func made(t testing.TB, where api.Layout) *account {
	t.Helper()
	super, err := shape.Encode(where)
	ok(t, err)
	a := &account{where: where, now: map[int]api.Block{0: super}}
	for at := range where.DataAt {
		a.use(at)
	}
	for at := where.DataAt; at < min(where.DataAt+400, where.Geometry.Blocks); at++ {
		a.now[at] = mark(at)
	}
	a.now[where.Geometry.Blocks], a.now[where.Geometry.Blocks+1] = mark(1), mark(2)
	a.use(where.DataAt)
	root := api.Block{}
	copy(root[:], []byte{1, 0, '.'})
	copy(root[16:], []byte{1, 0, '.', '.'})
	a.now[where.DataAt] = root
	a.has(1, api.Node{Kind: api.KindDir, Links: 2, Size: 32, Blocks: 1, Direct: [10]uint32{uint32(where.DataAt)}})
	a.has(2, api.Node{Kind: api.KindFile, Links: 1})
	a.has(3, api.Node{Kind: api.KindFile, Links: 1, Size: 5})
	return a
}

// use has a block be used, without a step.
func (a *account) use(at int) {
	b := a.now[a.where.BitsAt+at/8192]
	b[at%8192/8] |= 1 << (at % 8)
	a.now[a.where.BitsAt+at/8192] = b
}

// has has an inode be n, without a step.
func (a *account) has(inum int, n api.Node) {
	b := a.now[a.where.NodeAt+inum/16]
	copy(b[64*(inum%16):], laid(n))
	a.now[a.where.NodeAt+inum/16] = b
}

// holds has an index block hold a number, without a step.
func (a *account) holds(at, place int, v uint32) {
	b := a.now[at]
	put(b[4*place:], v)
	a.now[at] = b
}

// own has indices of a file be mapped and full of bytes, without a step; the blocks are taken from the disk's end on, and the file's size has them all.
func (a *account) own(inum int, indices ...int) *account {
	n := a.node(inum)
	next := a.where.Geometry.Blocks - 1
	fresh := func(b api.Block) int {
		for a.bit(next) {
			next--
		}
		a.use(next)
		a.now[next] = b
		n.Blocks++
		return next
	}
	index := func(at int) int { // an index block, which is made if it is missing
		if at != 0 {
			return at
		}
		return fresh(api.Block{})
	}
	for _, i := range indices {
		full := mark(i * 3)
		switch {
		case i <= 9:
			n.Direct[i] = uint32(fresh(full))
		case i <= 265:
			n.Single = uint32(index(int(n.Single)))
			a.holds(int(n.Single), i-10, uint32(fresh(full)))
		default:
			n.Double = uint32(index(int(n.Double)))
			beneath := index(a.below(int(n.Double), (i-266)/256))
			a.holds(int(n.Double), (i-266)/256, uint32(beneath))
			a.holds(beneath, (i-266)%256, uint32(fresh(full)))
		}
		n.Size = max(n.Size, uint32(i+1)*1024)
	}
	a.has(inum, n)
	return a
}

// ends has a file's size be less or more than what own made of it, without a step: noughts stand behind it, and no index that is mapped may be there.
func (a *account) ends(inum, size int) *account {
	n := a.node(inum)
	n.Size = uint32(size)
	a.has(inum, n)
	if size%1024 == 0 {
		return a
	}
	if at := a.at(inum, size/1024); at != 0 {
		b := a.now[at]
		clear(b[size%1024:])
		a.now[at] = b
	}
	return a
}

// image is a disk that holds what the account has.
func (a *account) image() api.Image {
	im := api.Image{Blocks: a.where.Geometry.Blocks + 2}
	for _, at := range slices.Sorted(maps.Keys(a.now)) {
		if a.now[at] != (api.Block{}) {
			im.Data = append(im.Data, api.Held{Index: at, Data: a.now[at]})
		}
	}
	return im
}

// copied is an account of a log that has done nothing yet, of a disk that holds what this one has.
func (a *account) copied() *account { return &account{where: a.where, now: maps.Clone(a.now)} }

// world is a disk, a log of it, and what the document says of both.
type world struct {
	d     *disk.Disk
	l     *wal.Log
	a     *account
	count int // acts so far
}

func load(t testing.TB, im api.Image) *disk.Disk {
	t.Helper()
	d, err := disk.Load(im)
	if err != api.OK {
		t.Fatalf("a disk of %d blocks: %d", im.Blocks, err)
	}
	return d
}

func newLog(t testing.TB, d *disk.Disk, where api.Layout) *wal.Log {
	t.Helper()
	l, err := wal.New(d, where)
	if err != api.OK || l == nil {
		t.Fatalf("New: %v, %d", l, err)
	}
	return l
}

// newWorld is a disk that an account tells of; the account itself stays as it is.
func newWorld(t testing.TB, a *account) *world {
	t.Helper()
	d := load(t, a.image())
	return &world{d: d, l: newLog(t, d, a.where), a: a.copied()}
}

func ok(t testing.TB, errs ...api.Errno) {
	t.Helper()
	for i, err := range errs {
		if err != api.OK {
			t.Fatalf("call %d: %d", i, err)
		}
	}
}

type act func(t testing.TB, w *world)

func beginning(r int) act {
	return func(t testing.TB, w *world) {
		err := w.l.Begin(r)
		if e := w.a.begin(r); err != e {
			t.Fatalf("act %d: Begin(%d): %d, not %d", w.count, r, err, e)
		}
	}
}

func ending() act {
	return func(t testing.TB, w *world) {
		err := w.l.End()
		if e := w.a.end(); err != e {
			t.Fatalf("act %d: End: %d, not %d", w.count, err, e)
		}
	}
}

func syncing() act {
	return func(t testing.TB, w *world) {
		err := w.l.Sync()
		if e := w.a.sync(); err != e {
			t.Fatalf("act %d: Sync: %d, not %d", w.count, err, e)
		}
	}
}

// changing is a write of a block by somebody else in the step.
func changing(at int, b api.Block) act {
	return func(t testing.TB, w *world) {
		err := w.l.Write(at, b)
		if e := w.a.block(at, b); err != e {
			t.Fatalf("act %d: a write of block %d: %d, not %d", w.count, at, err, e)
		}
	}
}

func stepping(inum, size int) act {
	return func(t testing.TB, w *world) {
		want, e := w.a.trim(inum, size)
		if more, err := trim.Step(w.l, inum, size); more != want || err != e {
			t.Fatalf("act %d: Step(%d, %d): %t, %d, not %t, %d", w.count, inum, size, more, err, want, e)
		}
	}
}

func cutting(inum, size int) act {
	return func(t testing.TB, w *world) {
		want := w.a.cut(inum, size)
		if err := trim.Cut(w.l, inum, size); err != want {
			t.Fatalf("act %d: Cut(%d, %d): %d, not %d", w.count, inum, size, err, want)
		}
	}
}

func sizing(inum, size int) act {
	return func(t testing.TB, w *world) {
		want := w.a.size(inum, size)
		if err := trim.Size(w.l, inum, size); err != want {
			t.Fatalf("act %d: Size(%d, %d): %d, not %d", w.count, inum, size, err, want)
		}
	}
}

// writing is lay's Write, for which there is room.
func writing(inum, at int, p []byte) act {
	return func(t testing.TB, w *world) {
		w.a.write(inum, at, p)
		if n, err := lay.Write(w.l, inum, at, p); n != len(p) || err != api.OK {
			t.Fatalf("act %d: Write(%d, %d, %d bytes): %d, %d", w.count, inum, at, len(p), n, err)
		}
	}
}

// step makes acts in a step of its own.
func step(r int, acts ...act) act {
	return func(t testing.TB, w *world) {
		w.do(t, beginning(r))
		w.do(t, acts...)
		w.do(t, ending())
	}
}

// do makes acts, and asks behind each for what it cost. (No t.Helper here and in what it calls: it takes longer than the acts.)
func (w *world) do(t testing.TB, acts ...act) {
	for _, do := range acts {
		w.count++
		do(t, w)
		if w.l.Used() != len(w.a.group) || w.l.Open() != w.a.open || w.l.Steps() != w.a.steps || w.l.Commits() != w.a.commits || w.d.Made() != w.a.made {
			t.Fatalf("behind act %d: the group has %d blocks, not %v; a step is open: %t; %d steps, not %d; %d commits, not %d; %d things done, not %d", w.count, w.l.Used(), w.a.group, w.l.Open(), w.l.Steps(), w.a.steps, w.l.Commits(), w.a.commits, w.d.Made(), w.a.made)
		}
	}
}

// agree asks for the bytes of all blocks that were ever other than noughts, and how many blocks are free.
func (w *world) agree(t testing.TB) {
	t.Helper()
	for at, want := range w.a.now {
		if at >= w.a.where.Geometry.Blocks {
			continue
		}
		if b, err := w.l.Read(at); b != want || err != api.OK {
			t.Fatalf("behind act %d: block %d is not what it should be: %d", w.count, at, err)
		}
	}
	if n, err := room.Free(w.l); n != w.a.free() || err != api.OK {
		t.Fatalf("behind act %d: %d are free, %d, not %d", w.count, n, err, w.a.free())
	}
}

// sound asks what audit would of files that are wholly written: an inode tells how many blocks it has, each used data block but those of the list has one owner, none is mapped behind a size, and the bytes behind a size are noughts.
func (w *world) sound(t testing.TB, others ...int) {
	t.Helper()
	used := slices.Clone(others)
	for inum := 1; inum <= w.a.where.Geometry.Inodes; inum++ {
		n, err := rack.Read(w.l, inum)
		if err != api.OK || n != w.a.node(inum) {
			t.Fatalf("behind act %d: inode %d is %v, %d, not %v", w.count, inum, n, err, w.a.node(inum))
		}
		if n.Kind == api.KindFree {
			continue
		}
		own := w.a.owned(inum)
		if int(n.Blocks) != len(own) {
			t.Fatalf("behind act %d: inode %d has %d blocks, not %v", w.count, inum, n.Blocks, own)
		}
		used = slices.Concat(used, own)
		for _, index := range w.a.mapped(inum) {
			b, err := w.l.Read(w.a.at(inum, index))
			within := int(n.Size) - index*1024
			if err != api.OK || within <= 0 || within < 1024 && bytes.ContainsFunc(b[within:], func(r rune) bool { return r != 0 }) {
				t.Fatalf("behind act %d: inode %d, of size %d, has bytes at the index %d", w.count, inum, n.Size, index)
			}
		}
	}
	// The used and the unused ones are all data blocks, each once.
	all := slices.Sorted(slices.Values(slices.AppendSeq(used, w.a.unused)))
	for i, at := range all {
		if at != w.a.where.DataAt+i {
			t.Fatalf("behind act %d: about block %d one has two owners, or none", w.count, at)
		}
	}
	if len(all) != w.a.where.Geometry.Blocks-w.a.where.DataAt {
		t.Fatalf("behind act %d: %d blocks have owners or are free", w.count, len(all))
	}
}

// reads asks fetch for bytes of a file.
func (w *world) reads(t testing.TB, inum, at int, want []byte) {
	t.Helper()
	for len(want) > 0 {
		part := min(len(want), 65536)
		if p, err := fetch.Read(w.l, inum, at, part); err != api.OK || !bytes.Equal(p, want[:part]) {
			t.Fatalf("behind act %d: %d bytes of inode %d from %d on are not what they should be: %d bytes, %d", w.count, part, inum, at, len(p), err)
		}
		at, want = at+part, want[part:]
	}
}

// whole asks fetch for all bytes of a file.
func (w *world) whole(t testing.TB, inum int) {
	t.Helper()
	size := int(w.a.node(inum).Size)
	w.reads(t, inum, 0, w.a.read(inum, 0, size))
	if p, err := fetch.Read(w.l, inum, size, 100); len(p) != 0 || err != api.OK {
		t.Fatalf("behind act %d: %d bytes behind the size, %d", w.count, len(p), err)
	}
}

// wrote has the group committed, and asks which blocks it had, in whichever order.
func (w *world) wrote(t testing.TB, group ...int) {
	t.Helper()
	before := len(w.d.History())
	w.do(t, syncing())
	var wrote []int
	for _, op := range w.d.History()[before:] {
		if op.Kind == api.OpWrite && op.At >= w.a.where.NodeAt {
			wrote = append(wrote, op.At)
		}
	}
	slices.Sort(wrote)
	if !slices.Equal(wrote, slices.Sorted(slices.Values(group))) {
		t.Fatalf("the group's blocks are %v, not %v", wrote, group)
	}
	w.onDisk(t)
}

// onDisk asks whether the disk holds, outside the log, just what the account has.
func (w *world) onDisk(t testing.TB) {
	t.Helper()
	held := map[int]api.Block{}
	for _, h := range w.d.Image().Data {
		held[h.Index] = h.Data
	}
	for at := range w.d.Len() {
		if at < w.a.where.LogAt || at >= w.a.where.NodeAt {
			if held[at] != w.a.now[at] {
				t.Fatalf("block %d of the disk is not what it should be", at)
			}
		}
	}
}

// still is all that may be seen of a disk and a log.
type still struct {
	image   api.Image
	history []api.Op
	pending []int
	stopped bool
	used    int
	open    bool
	commits int
	steps   int
	blocks  map[int]api.Block
}

func (w *world) still() still {
	s := still{w.d.Image(), w.d.History(), w.d.Pending(), w.d.Stopped(), w.l.Used(), w.l.Open(), w.l.Commits(), w.l.Steps(), map[int]api.Block{}}
	for at := range w.l.Layout().Geometry.Blocks {
		if b, err := w.l.Read(at); b != (api.Block{}) && err == api.OK {
			s.blocks[at] = b
		}
	}
	return s
}

// stays asks whether nothing has changed since.
func (w *world) stays(t testing.TB, was still) {
	t.Helper()
	if !reflect.DeepEqual(w.still(), was) {
		t.Fatalf("the disk or the log has changed")
	}
}
