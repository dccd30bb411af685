package chart_test

import (
	"maps"
	"slices"
	"testing"

	"undercroft/api"
	"undercroft/chart"
	"undercroft/disk"
	"undercroft/room"
	"undercroft/shape"
	"undercroft/wal"
)

// layout is a layout that may be.
func layout(t testing.TB, blocks, log, inodes int) api.Layout {
	t.Helper()
	where, err := shape.Of(api.Geometry{Blocks: blocks, Log: log, Inodes: inodes})
	if err != api.OK {
		t.Fatalf("a layout of %d, %d, %d: %d", blocks, log, inodes, err)
	}
	return where
}

// ten is the layout of the document's ten examples: the inodes are 33 to 36, the bitmap is 37, the data 38 to 399.
func ten(t testing.TB) api.Layout {
	t.Helper()
	return layout(t, 400, 32, 60)
}

// small is a layout with seven data blocks: the inodes are 33 and 34, the bitmap is 35, the data 36 to 42.
func small(t testing.TB) api.Layout {
	t.Helper()
	return layout(t, 43, 32, 16)
}

// wide is a layout whose bitmap has three blocks: the inodes are 33 and 34, the bitmap is 35 to 37, the data 38 to 19999.
func wide(t testing.TB) api.Layout {
	t.Helper()
	return layout(t, 20000, 32, 20)
}

// mark is a block of which no byte is 0, and that few others are like.
func mark(n int) api.Block {
	var b api.Block
	for i := range b {
		b[i] = byte(1 + (i*7+n)%255)
	}
	return b
}

// put lays a number of four bytes into a list of bytes, the lowest byte first.
func put(b []byte, v uint32) {
	b[0], b[1], b[2], b[3] = byte(v), byte(v/256), byte(v/65536), byte(v/16777216)
}

// number is the number that four bytes say.
func number(b []byte) uint32 {
	return uint32(b[0]) + 256*uint32(b[1]) + 65536*uint32(b[2]) + 16777216*uint32(b[3])
}

// laid are an inode's 64 bytes by the document's words.
func laid(n api.Node) []byte {
	b := make([]byte, 64)
	put(b, uint32(n.Kind)+65536*uint32(n.Links))
	put(b[4:], n.Size)
	put(b[8:], n.Blocks)
	for i, v := range n.Direct {
		put(b[12+4*i:], v)
	}
	put(b[52:], n.Single)
	put(b[56:], n.Double)
	return b
}

// told is the inode that 64 bytes say, by the document's words.
func told(b []byte) api.Node {
	n := api.Node{Kind: api.Kind(number(b) % 65536), Links: uint16(number(b) / 65536), Size: number(b[4:]), Blocks: number(b[8:])}
	for i := range n.Direct {
		n.Direct[i] = number(b[12+4*i:])
	}
	n.Single, n.Double = number(b[52:]), number(b[56:])
	return n
}

// pair is an index and its block.
type pair struct{ index, at int }

// account is a log and its files by the document's words, with all blocks as they are, and lists of those that were changed.
type account struct {
	where api.Layout
	now   map[int]api.Block
	group []int
	step  []int // what the open step has changed
	open  bool
	r     int
}

func (a *account) begin(r int) api.Errno {
	switch {
	case a.open:
		return api.ErrStep
	case len(a.group)+r > a.where.Geometry.Log-1:
		a.group = nil
	}
	a.open, a.r, a.step = true, r, nil
	return api.OK
}

func (a *account) end() api.Errno {
	if !a.open {
		return api.ErrStep
	}
	a.open = false
	return api.OK
}

func (a *account) sync() api.Errno {
	if a.open {
		return api.ErrStep
	}
	a.group = nil
	return api.OK
}

// block is a write of a whole block, as wal has it.
func (a *account) block(at int, b api.Block) api.Errno {
	switch {
	case !a.open:
		return api.ErrStep
	case !slices.Contains(a.step, at) && len(a.step) == a.r:
		return api.ErrTight
	}
	a.now[at] = b
	if !slices.Contains(a.step, at) {
		a.step = append(a.step, at)
	}
	if !slices.Contains(a.group, at) {
		a.group = append(a.group, at)
	}
	return api.OK
}

func (a *account) data(at int) bool { return at >= a.where.DataAt && at < a.where.Geometry.Blocks }

func (a *account) bit(at int) bool {
	b := a.now[a.where.BitsAt+at/8192]
	return b[at%8192/8]>>(at%8)&1 == 1
}

// turn turns the bit of a block round.
func (a *account) turn(at int) api.Errno {
	b := a.now[a.where.BitsAt+at/8192]
	b[at%8192/8] ^= 1 << (at % 8)
	return a.block(a.where.BitsAt+at/8192, b)
}

// take is room's Take.
func (a *account) take() (int, api.Errno) {
	for at := a.where.DataAt; a.data(at); at++ {
		if a.bit(at) {
			continue
		}
		if err := a.turn(at); err != api.OK {
			return 0, err
		}
		if err := a.block(at, api.Block{}); err != api.OK {
			a.turn(at)
			return 0, err
		}
		return at, api.OK
	}
	return 0, api.ErrNoSpace
}

// give is room's Give.
func (a *account) give(at int) api.Errno {
	if !a.data(at) || !a.bit(at) {
		return api.ErrInval
	}
	return a.turn(at)
}

func (a *account) free() int {
	n := 0
	for at := a.where.DataAt; a.data(at); at++ {
		if !a.bit(at) {
			n++
		}
	}
	return n
}

func (a *account) node(inum int) api.Node {
	b := a.now[a.where.NodeAt+inum/16]
	return told(b[64*(inum%16):])
}

// setNode is rack's Write.
func (a *account) setNode(inum int, n api.Node) api.Errno {
	at := a.where.NodeAt + inum/16
	b := a.now[at]
	copy(b[64*(inum%16):], laid(n))
	return a.block(at, b)
}

// below is the number at a place of an index block; 0 of one that is missing.
func (a *account) below(at, place int) int {
	if at == 0 {
		return 0
	}
	b := a.now[at]
	return int(number(b[4*place:]))
}

// lay is a number laid into an index block.
func (a *account) lay(at, place, v int) api.Errno {
	b := a.now[at]
	put(b[4*place:], uint32(v))
	return a.block(at, b)
}

// way is where an index stands: the numbers that one meets, from above.
func (a *account) way(inum, index int) []int {
	n := a.node(inum)
	switch {
	case index <= 9:
		return []int{int(n.Direct[index])}
	case index <= 265:
		return []int{int(n.Single), a.below(int(n.Single), index-10)}
	}
	j := index - 266
	beneath := a.below(int(n.Double), j/256)
	return []int{int(n.Double), beneath, a.below(beneath, j%256)}
}

func (a *account) there(inum int) bool { return inum >= 1 && inum <= a.where.Geometry.Inodes }

func (a *account) at(inum, index int) (int, api.Errno) {
	if !a.there(inum) || index < 0 || index > 65801 {
		return 0, api.ErrArg
	}
	at := 0
	for _, at = range a.way(inum, index) {
		if at != 0 && !a.data(at) {
			return 0, api.ErrInval
		}
	}
	return at, api.OK
}

// isSpan tells whether a file may have so many indices from first on.
func isSpan(first, count int) bool {
	return first >= 0 && count >= 0 && first <= 65802 && count <= 65802 && first+count <= 65802
}

// need counts the holes, and the index blocks that are missing above one of them.
func (a *account) need(inum, first, count int) (int, api.Errno) {
	if !a.there(inum) || !isSpan(first, count) {
		return 0, api.ErrArg
	}
	need := count
	for _, p := range a.all(inum) {
		if p.index >= first && p.index < first+count {
			need--
		}
	}
	// missing counts an index block that leads to the indices from base to end - 1.
	missing := func(at, base, end int) {
		if at == 0 && count > 0 && base < first+count && end > first {
			need++
		}
	}
	n := a.node(inum)
	missing(int(n.Single), 10, 266)
	missing(int(n.Double), 266, 65802)
	for k := range 256 {
		missing(a.below(int(n.Double), k), 266+256*k, 522+256*k)
	}
	return need, api.OK
}

func (a *account) last(inum, from int) (int, api.Errno) {
	if !a.there(inum) || from < 0 {
		return 0, api.ErrArg
	}
	for _, p := range slices.Backward(a.all(inum)) {
		if p.index >= from {
			return p.index, api.OK
		}
	}
	return -1, api.OK
}

// all are all mapped indices; nil, if there is no such inode, or a number is no data block's.
func (a *account) all(inum int) []pair {
	if !a.there(inum) {
		return nil
	}
	var out []pair
	bad := false
	add := func(index, at int) bool {
		bad = bad || at != 0 && !a.data(at)
		if at != 0 && index >= 0 {
			out = append(out, pair{index, at})
		}
		return at != 0 && !bad
	}
	n := a.node(inum)
	for i, v := range n.Direct {
		add(i, int(v))
	}
	if add(-1, int(n.Single)) {
		for i := range 256 {
			add(10+i, a.below(int(n.Single), i))
		}
	}
	if add(-1, int(n.Double)) {
		for k := range 256 {
			if beneath := a.below(int(n.Double), k); add(-1, beneath) {
				for i := range 256 {
					add(266+256*k+i, a.below(beneath, i))
				}
			}
		}
	}
	if bad {
		return nil
	}
	return out
}

func (a *account) mapIt(inum, index int) (int, api.Errno) {
	if !a.open {
		return 0, api.ErrStep
	}
	if at, err := a.at(inum, index); at != 0 || err != api.OK {
		return at, err
	}
	if need, _ := a.need(inum, index, 1); a.free() < need {
		return 0, api.ErrNoSpace
	}
	n := a.node(inum)
	// fresh takes a block, and has its number laid; of one whose number stands in the inode there is nothing to lay yet.
	fresh := func(above, place int) (int, api.Errno) {
		at, err := a.take()
		if err == api.OK && above != 0 {
			err = a.lay(above, place, at)
		}
		n.Blocks++
		return at, err
	}
	at, err := 0, api.OK
	switch {
	case index <= 9:
		at, err = fresh(0, 0)
		n.Direct[index] = uint32(at)
	case index <= 265:
		single := int(n.Single)
		if single == 0 {
			single, err = fresh(0, 0)
		}
		if err == api.OK {
			at, err = fresh(single, index-10)
		}
		n.Single = uint32(single)
	default:
		j, double := index-266, int(n.Double)
		if double == 0 {
			double, err = fresh(0, 0)
		}
		beneath := 0
		if err == api.OK {
			if beneath = a.below(double, j/256); beneath == 0 {
				beneath, err = fresh(double, j/256)
			}
		}
		if err == api.OK {
			at, err = fresh(beneath, j%256)
		}
		n.Double = uint32(double)
	}
	if err == api.OK {
		err = a.setNode(inum, n)
	}
	if err != api.OK {
		return 0, err
	}
	return at, api.OK
}

// drop is Drop on an account, none of whose numbers is out of place.
func (a *account) drop(inum, first, count int) (int, api.Errno) {
	switch {
	case !a.open:
		return 0, api.ErrStep
	case !a.there(inum) || !isSpan(first, count):
		return 0, api.ErrArg
	}
	n := a.node(inum)
	given := 0
	give := func(at int) api.Errno {
		given++
		return a.give(at)
	}
	for i, v := range n.Direct {
		if v != 0 && i >= first && i < first+count {
			if err := give(int(v)); err != api.OK {
				return 0, err
			}
			n.Direct[i] = 0
		}
	}
	// settle gives an index block back, or writes it; it tells whether it is gone.
	settle := func(at int, b api.Block) (bool, api.Errno) {
		if b == (api.Block{}) {
			return true, give(at)
		}
		return false, a.block(at, b)
	}
	// thin drops what stands below an index block that has the indices from base on.
	thin := func(at, base int) (bool, api.Errno) {
		if at == 0 {
			return false, api.OK
		}
		b, was := a.now[at], a.now[at]
		for i := range 256 {
			if v := number(b[4*i:]); v != 0 && base+i >= first && base+i < first+count {
				if err := give(int(v)); err != api.OK {
					return false, err
				}
				put(b[4*i:], 0)
			}
		}
		if b == was {
			return false, api.OK
		}
		return settle(at, b)
	}
	gone, err := thin(int(n.Single), 10)
	if err != api.OK {
		return 0, err
	}
	if gone {
		n.Single = 0
	}
	double := a.now[int(n.Double)]
	if n.Double == 0 {
		double = api.Block{}
	}
	was := double
	for k := range 256 {
		v := int(number(double[4*k:]))
		if v == 0 {
			continue
		}
		gone, err := thin(v, 266+256*k)
		if err != api.OK {
			return 0, err
		}
		if gone {
			put(double[4*k:], 0)
		}
	}
	if double != was {
		gone, err := settle(int(n.Double), double)
		if err != api.OK {
			return 0, err
		}
		if gone {
			n.Double = 0
		}
	}
	if given == 0 {
		return 0, api.OK
	}
	n.Blocks -= uint32(given)
	if err := a.setNode(inum, n); err != api.OK {
		return 0, err
	}
	return given, api.OK
}

// made is an account of a disk with a small file system: the root, in the first data block; inode 2, a file without blocks; bytes in the free data blocks (in some of them), and in two blocks behind the layout's last one.
func made(t testing.TB, where api.Layout) *account {
	t.Helper()
	super, err := shape.Encode(where)
	ok(t, err)
	a := &account{where: where, now: map[int]api.Block{0: super}}
	for at := range where.DataAt {
		a.use(at)
	}
	for at := where.DataAt; at < min(where.DataAt+60, where.Geometry.Blocks); at++ {
		a.now[at] = mark(at)
	}
	a.now[where.Geometry.Blocks], a.now[where.Geometry.Blocks+1] = mark(1), mark(2)
	a.use(where.DataAt)
	a.has(1, api.Node{Kind: api.KindDir, Links: 2, Size: 32, Blocks: 1, Direct: [10]uint32{uint32(where.DataAt)}})
	a.has(2, api.Node{Kind: api.KindFile, Links: 1, Size: 5})
	return a
}

// use has a block be used, without a step.
func (a *account) use(at int) {
	b := a.now[a.where.BitsAt+at/8192]
	b[at%8192/8] |= 1 << (at % 8)
	a.now[a.where.BitsAt+at/8192] = b
}

// has has an inode be n, without a step.
func (a *account) has(inum int, n api.Node) {
	b := a.now[a.where.NodeAt+inum/16]
	copy(b[64*(inum%16):], laid(n))
	a.now[a.where.NodeAt+inum/16] = b
}

// holds has an index block hold a number, without a step.
func (a *account) holds(at, place, v int) {
	b := a.now[at]
	put(b[4*place:], uint32(v))
	a.now[at] = b
}

// own has indices of a file be mapped, without a step: the blocks are those that are picked one behind the other, index blocks ahead of what is below them.
func (a *account) own(inum int, pick func() int, indices ...int) *account {
	n := a.node(inum)
	fresh := func() int {
		at := pick()
		a.use(at)
		n.Blocks++
		return at
	}
	index := func(at uint32) int { // an index block, which is made if it is missing
		if at != 0 {
			return int(at)
		}
		made := fresh()
		delete(a.now, made)
		return made
	}
	for _, i := range indices {
		switch {
		case i <= 9:
			n.Direct[i] = uint32(fresh())
		case i <= 265:
			n.Single = uint32(index(n.Single))
			a.holds(int(n.Single), i-10, fresh())
		default:
			n.Double = uint32(index(n.Double))
			beneath := index(uint32(a.below(int(n.Double), (i-266)/256)))
			a.holds(int(n.Double), (i-266)/256, beneath)
			a.holds(beneath, (i-266)%256, fresh())
		}
	}
	a.has(inum, n)
	return a
}

// rising picks numbers from one on.
func rising(at int) func() int { return func() int { at++; return at - 1 } }

// falling picks numbers from one on, downwards.
func falling(at int) func() int { return func() int { at--; return at + 1 } }

// image is a disk that holds what the account has.
func (a *account) image() api.Image {
	im := api.Image{Blocks: a.where.Geometry.Blocks + 2}
	for _, at := range slices.Sorted(maps.Keys(a.now)) {
		if a.now[at] != (api.Block{}) {
			im.Data = append(im.Data, api.Held{Index: at, Data: a.now[at]})
		}
	}
	return im
}

// world is a disk, a log of it, and what the document says of both.
type world struct {
	d     *disk.Disk
	l     *wal.Log
	a     *account
	count int // acts so far
}

func load(t testing.TB, im api.Image) *disk.Disk {
	t.Helper()
	d, err := disk.Load(im)
	if err != api.OK {
		t.Fatalf("a disk of %d blocks: %d", im.Blocks, err)
	}
	return d
}

func newLog(t testing.TB, d *disk.Disk, where api.Layout) *wal.Log {
	t.Helper()
	l, err := wal.New(d, where)
	if err != api.OK || l == nil {
		t.Fatalf("New: %v, %d", l, err)
	}
	return l
}

// newWorld is a disk that an account tells of; the account itself stays as it is.
func newWorld(t testing.TB, a *account) *world {
	t.Helper()
	d := load(t, a.image())
	return &world{d: d, l: newLog(t, d, a.where), a: &account{where: a.where, now: maps.Clone(a.now)}}
}

func ok(t testing.TB, errs ...api.Errno) {
	t.Helper()
	for i, err := range errs {
		if err != api.OK {
			t.Fatalf("call %d: %d", i, err)
		}
	}
}

type act func(t testing.TB, w *world)

func beginning(r int) act {
	return func(t testing.TB, w *world) {
		err := w.l.Begin(r)
		if e := w.a.begin(r); err != e {
			t.Fatalf("act %d: Begin(%d): %d, not %d", w.count, r, err, e)
		}
	}
}

func ending() act {
	return func(t testing.TB, w *world) {
		err := w.l.End()
		if e := w.a.end(); err != e {
			t.Fatalf("act %d: End: %d, not %d", w.count, err, e)
		}
	}
}

func syncing() act {
	return func(t testing.TB, w *world) {
		err := w.l.Sync()
		if e := w.a.sync(); err != e {
			t.Fatalf("act %d: Sync: %d, not %d", w.count, err, e)
		}
	}
}

// writing is a write of a block by somebody else in the step.
func writing(at int, b api.Block) act {
	return func(t testing.TB, w *world) {
		err := w.l.Write(at, b)
		if e := w.a.block(at, b); err != e {
			t.Fatalf("act %d: a write of block %d: %d, not %d", w.count, at, err, e)
		}
	}
}

// asking is a call whose answer is the account's, and that does nothing to the disk.
func asking(name string, args [3]int, call func(l *wal.Log) (int, api.Errno), told func(a *account) (int, api.Errno)) act {
	return func(t testing.TB, w *world) {
		made := w.d.Made()
		n, err := call(w.l)
		want, e := told(w.a)
		if n != want || err != e || w.d.Made() != made {
			t.Fatalf("act %d: %s%v: %d, %d, not %d, %d; %d things done", w.count, name, args, n, err, want, e, w.d.Made()-made)
		}
	}
}

func finding(inum, index int) act {
	return asking("At", [3]int{inum, index},
		func(l *wal.Log) (int, api.Errno) { return chart.At(l, inum, index) },
		func(a *account) (int, api.Errno) { return a.at(inum, index) })
}

func needing(inum, first, count int) act {
	return asking("Need", [3]int{inum, first, count},
		func(l *wal.Log) (int, api.Errno) { return chart.Need(l, inum, first, count) },
		func(a *account) (int, api.Errno) { return a.need(inum, first, count) })
}

func mapping(inum, index int) act {
	return asking("Map", [3]int{inum, index},
		func(l *wal.Log) (int, api.Errno) { return chart.Map(l, inum, index) },
		func(a *account) (int, api.Errno) { return a.mapIt(inum, index) })
}

func lasting(inum, from int) act {
	return asking("Last", [3]int{inum, from},
		func(l *wal.Log) (int, api.Errno) { return chart.Last(l, inum, from) },
		func(a *account) (int, api.Errno) { return a.last(inum, from) })
}

func dropping(inum, first, count int) act {
	return asking("Drop", [3]int{inum, first, count},
		func(l *wal.Log) (int, api.Errno) { return chart.Drop(l, inum, first, count) },
		func(a *account) (int, api.Errno) { return a.drop(inum, first, count) })
}

// step makes acts in a step of its own.
func step(r int, acts ...act) act {
	return func(t testing.TB, w *world) {
		w.do(t, beginning(r))
		w.do(t, acts...)
		w.do(t, ending())
	}
}

// do makes acts. (No t.Helper here and in what it calls: it takes longer than the acts.)
func (w *world) do(t testing.TB, acts ...act) {
	for _, do := range acts {
		w.count++
		do(t, w)
		if w.l.Used() != len(w.a.group) || w.l.Open() != w.a.open {
			t.Fatalf("behind act %d: the group has %d blocks, not %v; a step is open: %t", w.count, w.l.Used(), w.a.group, w.l.Open())
		}
	}
}

// listed is what All goes over.
func listed(l *wal.Log, inum int) []pair {
	var out []pair
	for index, at := range chart.All(l, inum) {
		out = append(out, pair{index, at})
	}
	return out
}

// agree asks for the bytes of all blocks that were ever other than noughts, for all that is mapped of some inodes, and how many blocks are free.
func (w *world) agree(t testing.TB, inums ...int) {
	made := w.d.Made()
	for at, want := range w.a.now {
		if at >= w.a.where.Geometry.Blocks {
			continue
		}
		if b, err := w.l.Read(at); b != want || err != api.OK {
			t.Fatalf("behind act %d: block %d is not what it should be: %d", w.count, at, err)
		}
	}
	for _, inum := range inums {
		if got, want := listed(w.l, inum), w.a.all(inum); !slices.Equal(got, want) {
			t.Fatalf("behind act %d: All(%d): %v, not %v", w.count, inum, got, want)
		}
	}
	if n, err := room.Free(w.l); n != w.a.free() || err != api.OK || w.d.Made() != made {
		t.Fatalf("behind act %d: %d are free, %d, not %d; %d things done", w.count, n, err, w.a.free(), w.d.Made()-made)
	}
}

// kept asks whether an inode says how many blocks it has, and whether just these, each once, are used, with what else is in the list.
func (w *world) kept(t testing.TB, inum int, others ...int) {
	t.Helper()
	own := w.owned(inum)
	if n := w.a.node(inum); int(n.Blocks) != len(own) {
		t.Fatalf("behind act %d: inode %d has %d blocks, not %v", w.count, inum, n.Blocks, own)
	}
	used := slices.Sorted(slices.Values(slices.Concat(own, others)))
	if len(slices.Compact(slices.Clone(used))) != len(used) {
		t.Fatalf("behind act %d: a block stands twice in %v", w.count, used)
	}
	var bits []int
	for at := w.a.where.DataAt; w.a.data(at); at++ {
		if w.a.bit(at) {
			bits = append(bits, at)
		}
	}
	if !slices.Equal(bits, used) {
		t.Fatalf("behind act %d: %v are used, not %v", w.count, bits, used)
	}
}

// owned are all blocks of a file, its index blocks too.
func (w *world) owned(inum int) []int {
	var out []int
	for _, p := range w.a.all(inum) {
		out = append(out, p.at)
	}
	n := w.a.node(inum)
	if n.Single != 0 {
		out = append(out, int(n.Single))
	}
	if n.Double != 0 {
		out = append(out, int(n.Double))
		for k := range 256 {
			if at := w.a.below(int(n.Double), k); at != 0 {
				out = append(out, at)
			}
		}
	}
	return out
}

// wrote ends the step, has the group committed, and asks which blocks it had, in which order.
func (w *world) wrote(t testing.TB, group ...int) {
	t.Helper()
	before := len(w.d.History())
	w.do(t, ending(), syncing())
	var wrote []int
	for _, op := range w.d.History()[before:] {
		if op.Kind == api.OpWrite && op.At >= w.a.where.NodeAt {
			wrote = append(wrote, op.At)
		}
	}
	if !slices.Equal(wrote, group) {
		t.Fatalf("the group's blocks are %v, not %v", wrote, group)
	}
}

// commits does so, and asks for all blocks of the disk.
func (w *world) commits(t testing.TB, group ...int) {
	t.Helper()
	w.wrote(t, group...)
	w.agree(t, 1, 2)
	w.onDisk(t)
}

// onDisk asks whether the disk holds, outside the log, just what the account has.
func (w *world) onDisk(t testing.TB) {
	t.Helper()
	held := map[int]api.Block{}
	for _, h := range w.d.Image().Data {
		held[h.Index] = h.Data
	}
	for at := range w.d.Len() {
		if at < w.a.where.LogAt || at >= w.a.where.NodeAt {
			if held[at] != w.a.now[at] {
				t.Errorf("block %d of the disk is not what it should be", at)
			}
		}
	}
}
