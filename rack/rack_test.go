package rack_test

import (
	"math"
	"math/rand"
	"slices"
	"testing"

	"undercroft/api"
	"undercroft/disk"
	"undercroft/rack"
	"undercroft/shape"
	"undercroft/wal"
)

// layout is a layout that may be.
func layout(t testing.TB, blocks, log, inodes int) api.Layout {
	t.Helper()
	where, err := shape.Of(api.Geometry{Blocks: blocks, Log: log, Inodes: inodes})
	if err != api.OK {
		t.Fatalf("a layout of %d, %d, %d: %d", blocks, log, inodes, err)
	}
	return where
}

// small is a layout whose inodes just begin their second block: the log is 1 to 32, the inodes 33 and 34, the bitmap 35, the data 36 to 43. Inode 15 ends the first block, inode 16 alone stands in the second.
func small(t testing.TB) api.Layout {
	t.Helper()
	return layout(t, 44, 32, 16)
}

// ten is the layout of the document's ten examples: the inodes are 33 to 36.
func ten(t testing.TB) api.Layout {
	t.Helper()
	return layout(t, 400, 32, 60)
}

// table is what the inodes' region of a layout holds, byte by byte.
type table []byte

// blank is a region of noughts.
func blank(where api.Layout) table { return make(table, 1024*where.NodeBlocks) }

// drawn is a region of any bytes, with Kinds and Links of 0 often enough.
func drawn(where api.Layout, draw *rand.Rand) table {
	b := blank(where)
	draw.Read(b)
	for at := 0; at < len(b); at += 64 {
		if draw.Intn(2) == 0 {
			b[at], b[at+1] = byte(draw.Intn(4)), 0
		}
		if draw.Intn(3) == 0 {
			b[at], b[at+1] = 0, byte(draw.Intn(2))
		}
		if draw.Intn(3) == 0 {
			b[at+2], b[at+3] = 0, byte(draw.Intn(2))
		}
	}
	return b
}

// with is a region in which an inode is n.
func (b table) with(inum int, n api.Node) table {
	b = slices.Clone(b)
	copy(b[64*inum:], laid(n))
	return b
}

// filled has every inode that is there, and inode 0 and the places behind the last one if others is true, be n.
func filled(where api.Layout, n api.Node, others bool) table {
	b, bytes := blank(where), laid(n)
	for i := range len(b) / 64 {
		if others || i >= 1 && i <= where.Geometry.Inodes {
			copy(b[64*i:], bytes)
		}
	}
	return b
}

// put puts a number of so many bytes at the end, its lowest byte first.
func put(b []byte, v uint32, n int) []byte {
	for range n {
		b = append(b, byte(v%256))
		v /= 256
	}
	return b
}

// laid are an inode's 64 bytes by the document's words.
func laid(n api.Node) []byte {
	b := put(nil, uint32(n.Kind), 2)
	b = put(b, uint32(n.Links), 2)
	b = put(b, n.Size, 4)
	b = put(b, n.Blocks, 4)
	for _, v := range n.Direct {
		b = put(b, v, 4)
	}
	return put(put(put(b, n.Single, 4), n.Double, 4), 0, 4)
}

// number is the number that bytes say, the lowest one first.
func number(b []byte) uint32 {
	v := uint32(0)
	for i := len(b) - 1; i >= 0; i-- {
		v = 256*v + uint32(b[i])
	}
	return v
}

// told is the inode that 64 bytes say, by the document's words.
func told(b []byte) api.Node {
	n := api.Node{Kind: api.Kind(number(b[:2])), Links: uint16(number(b[2:4])), Size: number(b[4:8]), Blocks: number(b[8:12])}
	for i := range n.Direct {
		n.Direct[i] = number(b[12+4*i:][:4])
	}
	n.Single, n.Double = number(b[52:56]), number(b[56:60])
	return n
}

// mark is a block of which no byte is 0, and that few others are like.
func mark(n int) api.Block {
	var b api.Block
	for i := range b {
		b[i] = byte(1 + (i*7+n)%255)
	}
	return b
}

// newImage is a disk whose inodes' region is as told; all its other blocks from the bitmap on, two behind the layout's last one too, hold bytes that are told from each other.
func newImage(where api.Layout, nodes table) api.Image {
	im := api.Image{Blocks: where.Geometry.Blocks + 2}
	add := func(at int, b api.Block) {
		if b != (api.Block{}) {
			im.Data = append(im.Data, api.Held{Index: at, Data: b})
		}
	}
	for i := range where.NodeBlocks {
		add(where.NodeAt+i, api.Block(nodes[1024*i:]))
	}
	for at := where.BitsAt; at < im.Blocks && at < where.BitsAt+40; at++ {
		add(at, mark(at))
	}
	return im
}

func load(t testing.TB, im api.Image) *disk.Disk {
	t.Helper()
	d, err := disk.Load(im)
	if err != api.OK {
		t.Fatalf("a disk of %d blocks: %d", im.Blocks, err)
	}
	return d
}

func newLog(t testing.TB, d *disk.Disk, where api.Layout) *wal.Log {
	t.Helper()
	l, err := wal.New(d, where)
	if err != api.OK || l == nil {
		t.Fatalf("New: %v, %d", l, err)
	}
	return l
}

// account is a log and its inodes by the document's words, with all blocks as they are, and lists of those that were changed.
type account struct {
	where api.Layout
	now   map[int]api.Block
	group []int
	step  []int // what the open step has changed
	open  bool
	r     int
}

func newAccount(where api.Layout, im api.Image) *account {
	a := &account{where: where, now: map[int]api.Block{}}
	for _, held := range im.Data {
		a.now[held.Index] = held.Data
	}
	return a
}

func (a *account) begin(r int) api.Errno {
	switch {
	case a.open:
		return api.ErrStep
	case len(a.group)+r > a.where.Geometry.Log-1:
		a.group = nil
	}
	a.open, a.r, a.step = true, r, nil
	return api.OK
}

func (a *account) end() api.Errno {
	if !a.open {
		return api.ErrStep
	}
	a.open = false
	return api.OK
}

func (a *account) sync() api.Errno {
	if a.open {
		return api.ErrStep
	}
	a.group = nil
	return api.OK
}

// block is a write of a whole block, as wal has it.
func (a *account) block(at int, b api.Block) api.Errno {
	switch {
	case !a.open:
		return api.ErrStep
	case !slices.Contains(a.step, at) && len(a.step) == a.r:
		return api.ErrTight
	}
	a.now[at] = b
	if !slices.Contains(a.step, at) {
		a.step = append(a.step, at)
	}
	if !slices.Contains(a.group, at) {
		a.group = append(a.group, at)
	}
	return api.OK
}

// bytes is the inodes' region.
func (a *account) bytes() table {
	var b table
	for i := range a.where.NodeBlocks {
		whole := a.now[a.where.NodeAt+i]
		b = append(b, whole[:]...)
	}
	return b
}

func (a *account) there(inum int) bool { return inum >= 1 && inum <= a.where.Geometry.Inodes }

func (a *account) read(inum int) (api.Node, api.Errno) {
	if !a.there(inum) {
		return api.Node{}, api.ErrArg
	}
	return told(a.bytes()[64*inum:]), api.OK
}

func (a *account) write(inum int, n api.Node) api.Errno {
	switch {
	case !a.open:
		return api.ErrStep
	case !a.there(inum):
		return api.ErrArg
	}
	whole := a.bytes().with(inum, n)
	i := inum / 16
	return a.block(a.where.NodeAt+i, api.Block(whole[1024*i:]))
}

func (a *account) take(n api.Node) (int, api.Errno) {
	switch {
	case !a.open:
		return 0, api.ErrStep
	case n.Kind == 0:
		return 0, api.ErrArg
	}
	whole := a.bytes()
	for inum := 1; a.there(inum); inum++ {
		if told(whole[64*inum:]).Kind == 0 {
			if a.write(inum, n) != api.OK {
				return 0, api.ErrTight
			}
			return inum, api.OK
		}
	}
	return 0, api.ErrNoSpace
}

func (a *account) spare() int {
	n := 0
	whole := a.bytes()
	for inum := 1; a.there(inum); inum++ {
		if number(whole[64*inum:][:2]) == 0 {
			n++
		}
	}
	return n
}

func (a *account) orphans() []int {
	var out []int
	whole := a.bytes()
	for inum := 1; a.there(inum); inum++ {
		if number(whole[64*inum:][:2]) != 0 && number(whole[64*inum+2:][:2]) == 0 {
			out = append(out, inum)
		}
	}
	return out
}

// world is a disk, a log of it, and what the document says of both.
type world struct {
	d     *disk.Disk
	l     *wal.Log
	a     *account
	count int // acts so far
}

func newWorld(t testing.TB, where api.Layout, nodes table) *world {
	t.Helper()
	return worldOn(t, where, newImage(where, nodes))
}

func worldOn(t testing.TB, where api.Layout, im api.Image) *world {
	t.Helper()
	d := load(t, im)
	return &world{d: d, l: newLog(t, d, where), a: newAccount(where, im)}
}

type act func(t testing.TB, w *world)

func beginning(r int) act {
	return func(t testing.TB, w *world) {
		err := w.l.Begin(r)
		if e := w.a.begin(r); err != e {
			t.Fatalf("act %d: Begin(%d): %d, not %d", w.count, r, err, e)
		}
	}
}

func ending() act {
	return func(t testing.TB, w *world) {
		err := w.l.End()
		if e := w.a.end(); err != e {
			t.Fatalf("act %d: End: %d, not %d", w.count, err, e)
		}
	}
}

func syncing() act {
	return func(t testing.TB, w *world) {
		err := w.l.Sync()
		if e := w.a.sync(); err != e {
			t.Fatalf("act %d: Sync: %d, not %d", w.count, err, e)
		}
	}
}

// writing is a write of a block by somebody else in the step.
func writing(at int, b api.Block) act {
	return func(t testing.TB, w *world) {
		err := w.l.Write(at, b)
		if e := w.a.block(at, b); err != e {
			t.Fatalf("act %d: a write of block %d: %d, not %d", w.count, at, err, e)
		}
	}
}

func putting(inum int, n api.Node) act {
	return func(t testing.TB, w *world) {
		made := w.d.Made()
		err := rack.Write(w.l, inum, n)
		if e := w.a.write(inum, n); err != e || w.d.Made() != made {
			t.Fatalf("act %d: Write(%d): %d, not %d; %d things done", w.count, inum, err, e, w.d.Made()-made)
		}
	}
}

func taking(n api.Node) act {
	return func(t testing.TB, w *world) {
		made := w.d.Made()
		inum, err := rack.Take(w.l, n)
		want, e := w.a.take(n)
		if inum != want || err != e || w.d.Made() != made {
			t.Fatalf("act %d: Take: %d, %d, not %d, %d; %d things done", w.count, inum, err, want, e, w.d.Made()-made)
		}
	}
}

func reading(inum int) act {
	return func(t testing.TB, w *world) {
		made := w.d.Made()
		n, err := rack.Read(w.l, inum)
		want, e := w.a.read(inum)
		if n != want || err != e || w.d.Made() != made {
			t.Fatalf("act %d: Read(%d): %v, %d, not %v, %d; %d things done", w.count, inum, n, err, want, e, w.d.Made()-made)
		}
	}
}

// step makes acts in a step of its own.
func step(r int, acts ...act) act {
	return func(t testing.TB, w *world) {
		w.do(t, beginning(r))
		w.do(t, acts...)
		w.do(t, ending())
	}
}

// do makes acts, and asks behind each what is told of the whole table. (No t.Helper here and in what it calls: it takes longer than the acts.)
func (w *world) do(t testing.TB, acts ...act) {
	for _, do := range acts {
		w.count++
		do(t, w)
		made := w.d.Made()
		if n, err := rack.Spare(w.l); n != w.a.spare() || err != api.OK {
			t.Fatalf("behind act %d: Spare: %d, %d, not %d", w.count, n, err, w.a.spare())
		}
		if l, err := rack.Orphans(w.l); !slices.Equal(l, w.a.orphans()) || err != api.OK {
			t.Fatalf("behind act %d: Orphans: %v, %d, not %v", w.count, l, err, w.a.orphans())
		}
		if w.l.Used() != len(w.a.group) || w.l.Open() != w.a.open || w.d.Made() != made {
			t.Fatalf("behind act %d: the group has %d blocks, not %v; a step is open: %t; %d things done", w.count, w.l.Used(), w.a.group, w.l.Open(), w.d.Made()-made)
		}
	}
}

// agree asks for all inodes, and for the bytes of all blocks as the log has them.
func (w *world) agree(t testing.TB) {
	for inum := range w.a.where.Geometry.Inodes + 2 {
		reading(inum)(t, w)
	}
	for at := w.a.where.NodeAt; at < w.a.where.Geometry.Blocks; at++ {
		if b, err := w.l.Read(at); b != w.a.now[at] || err != api.OK {
			t.Fatalf("behind act %d: block %d is not what it should be: %d", w.count, at, err)
		}
	}
}

// commits ends the step, has the group committed, and asks which blocks it had, in which order, and for all blocks of the disk.
func (w *world) commits(t testing.TB, group ...int) {
	t.Helper()
	before := len(w.d.History())
	w.do(t, ending(), syncing())
	var wrote []int
	for _, op := range w.d.History()[before:] {
		if op.Kind == api.OpWrite && op.At >= w.a.where.NodeAt {
			wrote = append(wrote, op.At)
		}
	}
	if !slices.Equal(wrote, group) {
		t.Errorf("the group's blocks are %v, not %v", wrote, group)
	}
	w.agree(t)
	w.onDisk(t)
}

// onDisk asks whether the disk holds, outside the log, just what the account has.
func (w *world) onDisk(t testing.TB) {
	t.Helper()
	held := map[int]api.Block{}
	for _, h := range w.d.Image().Data {
		held[h.Index] = h.Data
	}
	for at := range w.d.Len() {
		if at < w.a.where.LogAt || at >= w.a.where.NodeAt {
			if held[at] != w.a.now[at] {
				t.Errorf("block %d of the disk is not what it should be", at)
			}
		}
	}
}

// from are n numbers that follow each other.
func from(at, n int) []int {
	ats := make([]int, n)
	for i := range ats {
		ats[i] = at + i
	}
	return ats
}

// lists goes over all lists of so many numbers below n.
func lists(n, length int, do func(list []int)) {
	list := make([]int, length)
	var more func(i int)
	more = func(i int) {
		if i == length {
			do(list)
			return
		}
		for list[i] = range n {
			more(i + 1)
		}
	}
	more(0)
}

// The answers that a call is asked for.

func read(t testing.TB, l *wal.Log, inum int, want api.Node, e api.Errno) {
	t.Helper()
	if n, err := rack.Read(l, inum); n != want || err != e {
		t.Errorf("Read(%d): %v, %d, not %v, %d", inum, n, err, want, e)
	}
}

func write(t testing.TB, l *wal.Log, inum int, n api.Node, e api.Errno) {
	t.Helper()
	if err := rack.Write(l, inum, n); err != e {
		t.Errorf("Write(%d, %v): %d, not %d", inum, n, err, e)
	}
}

func take(t testing.TB, l *wal.Log, n api.Node, want int, e api.Errno) {
	t.Helper()
	if inum, err := rack.Take(l, n); inum != want || err != e {
		t.Errorf("Take(%v): %d, %d, not %d, %d", n, inum, err, want, e)
	}
}

func spare(t testing.TB, l *wal.Log, want int, e api.Errno) {
	t.Helper()
	if n, err := rack.Spare(l); n != want || err != e {
		t.Errorf("Spare: %d, %d, not %d, %d", n, err, want, e)
	}
}

func orphans(t testing.TB, l *wal.Log, e api.Errno, want ...int) {
	t.Helper()
	if inums, err := rack.Orphans(l); !slices.Equal(inums, want) || err != e {
		t.Errorf("Orphans: %v, %d, not %v, %d", inums, err, want, e)
	}
}

func ok(t testing.TB, errs ...api.Errno) {
	t.Helper()
	for i, err := range errs {
		if err != api.OK {
			t.Fatalf("call %d: %d", i, err)
		}
	}
}

// Inodes that may be, more or less.
var (
	none    = api.Node{}
	file    = api.Node{Kind: api.KindFile, Links: 1, Size: 7}
	orphan  = api.Node{Kind: api.KindFile}
	folder  = api.Node{Kind: api.KindDir, Links: 2, Size: 32, Blocks: 1, Direct: [api.Direct]uint32{38}}
	strange = api.Node{Kind: 3, Links: 65535, Size: math.MaxUint32, Blocks: math.MaxUint32, Direct: [api.Direct]uint32{1, 2, 3, 4, 5, 6, 7, 8, 9, 10}, Single: math.MaxUint32, Double: 0x01020304}
)

// leftover is free by its Kind, though other fields are not 0.
var leftover = api.Node{Links: 5, Size: 6, Blocks: 7, Direct: [api.Direct]uint32{39}, Single: 40, Double: 41}

// each of these is told from the others by all of its bytes; one that is not free.
func distinct(k int) api.Node {
	b := make([]byte, 60)
	for i := range b {
		b[i] = byte(1 + (k*61+i*5)%255)
	}
	return told(b)
}

// made is the image of an empty file system of the ten examples, byte by byte.
func made(t testing.TB) api.Image {
	t.Helper()
	super, err := shape.Encode(ten(t))
	ok(t, err)
	var nodes, bits, root api.Block
	copy(nodes[64:], []byte{2, 0, 2, 0, 32, 0, 0, 0, 1, 0, 0, 0, 38})
	copy(bits[:], []byte{255, 255, 255, 255, 127})
	copy(root[:], []byte{1, 0, '.'})
	copy(root[16:], []byte{1, 0, '.', '.'})
	return api.Image{Blocks: 400, Data: []api.Held{{Index: 0, Data: super}, {Index: 33, Data: nodes}, {Index: 37, Data: bits}, {Index: 38, Data: root}}}
}

// Chapter 11's examples, call by call.
func TestExamples(t *testing.T) {
	d := load(t, made(t))
	l := newLog(t, d, ten(t))
	read(t, l, 1, folder, api.OK)
	read(t, l, 2, none, api.OK)
	read(t, l, 0, none, api.ErrArg)
	read(t, l, 61, none, api.ErrArg)
	spare(t, l, 59, api.OK)
	orphans(t, l, api.OK)

	write(t, l, 2, orphan, api.ErrStep)
	write(t, l, 0, orphan, api.ErrStep)
	ok(t, l.Begin(1))
	take(t, l, orphan, 2, api.OK)
	spare(t, l, 58, api.OK)
	orphans(t, l, api.OK, 2)
	take(t, l, file, 3, api.OK)
	write(t, l, 20, file, api.ErrTight)
	take(t, l, none, 0, api.ErrArg)
	ok(t, l.End(), l.Sync())

	history := d.History()
	if len(history) != 8 || history[0].At != 2 || history[4].At != 33 {
		t.Errorf("%d things done", len(history))
	}
}

// The numbers of the errors.
func TestErrorNumbers(t *testing.T) {
	is := func(name string, err api.Errno, n int) {
		t.Helper()
		if int(err) != n {
			t.Errorf("%s is %d, not %d", name, int(err), n)
		}
	}
	d := load(t, newImage(small(t), filled(small(t), file, false)))
	l := newLog(t, d, small(t))
	is("ErrNil", rack.Write(nil, 1, file), 1)
	is("ErrStep", rack.Write(l, 1, file), 180)
	ok(t, l.Begin(1))
	is("ErrArg", rack.Write(l, 0, file), 2)
	is("OK", rack.Write(l, 1, file), 0)
	is("ErrTight", rack.Write(l, 16, file), 181)
	_, err := rack.Take(l, file)
	is("ErrNoSpace", err, 16)
	d.Crash(nil)
	is("ErrDead", rack.Write(l, 1, file), 3)
}

// extremes are numbers that no inode has.
var extremes = []int{math.MinInt, math.MinInt + 1, -65536, -1024, -64, -17, -16, -15, -2, -1, 0, 65536, 65537, 1 << 20, math.MaxInt - 1, math.MaxInt}

// refusesAll asks all five calls, with arguments that would be refused else and with others.
func refusesAll(t testing.TB, l *wal.Log, e api.Errno) {
	t.Helper()
	spare(t, l, 0, e)
	orphans(t, l, e)
	for _, n := range []api.Node{none, file, orphan, leftover, strange} {
		take(t, l, n, 0, e)
		for _, inum := range slices.Concat([]int{1, 2, 15, 16, 17}, extremes) {
			write(t, l, inum, n, e)
		}
	}
	for _, inum := range slices.Concat([]int{1, 2, 15, 16, 17}, extremes) {
		read(t, l, inum, none, e)
	}
}

// P11.1: logs that are nil or that nobody made, in whichever way.
func TestNoLog(t *testing.T) {
	refusesAll(t, nil, api.ErrNil)
	refusesAll(t, &wal.Log{}, api.ErrNil)
	l := newLog(t, load(t, newImage(small(t), filled(small(t), orphan, true).with(3, none))), small(t))
	ok(t, l.Begin(3))
	copied := *l
	refusesAll(t, &copied, api.ErrNil)
	spare(t, l, 1, api.OK)
	take(t, l, file, 3, api.OK)
}

// P11.1: a log that is closed, also where its disk has stopped or is claimed anew.
func TestClosedLog(t *testing.T) {
	for _, then := range []func(d *disk.Disk){
		func(d *disk.Disk) {},
		func(d *disk.Disk) { d.Fuse(0); d.Barrier() },
		func(d *disk.Disk) { d.Claim() },
		func(d *disk.Disk) { d.Crash(nil) },
	} {
		d := load(t, newImage(small(t), blank(small(t))))
		l := newLog(t, d, small(t))
		ok(t, l.Begin(2))
		take(t, l, orphan, 1, api.OK)
		ok(t, l.End(), l.Close())
		then(d)
		refusesAll(t, l, api.ErrNil)
	}
}

// P11.1: a log that is dead, with a step open and without: ErrDead is ahead of ErrStep, ErrArg, ErrNoSpace and ErrTight.
func TestDeadLog(t *testing.T) {
	ways := map[string]func(t *testing.T, d *disk.Disk){
		"stopped":      func(t *testing.T, d *disk.Disk) { d.Fuse(0); d.Barrier() },
		"claimed":      func(t *testing.T, d *disk.Disk) { d.Claim() },
		"another log":  func(t *testing.T, d *disk.Disk) { newLog(t, d, small(t)) },
		"power":        func(t *testing.T, d *disk.Disk) { d.Crash(nil) },
		"power, again": func(t *testing.T, d *disk.Disk) { d.Crash(nil); newLog(t, d, small(t)) },
		"stopped, power": func(t *testing.T, d *disk.Disk) {
			d.Fuse(0)
			d.Write(36, mark(1))
			d.Crash([]bool{true})
		},
	}
	for name, die := range ways {
		for _, nodes := range []table{blank(small(t)), filled(small(t), orphan, true), filled(small(t), file, false).with(16, none)} {
			for _, open := range []bool{false, true} {
				t.Run(name, func(t *testing.T) {
					d := load(t, newImage(small(t), nodes))
					l := newLog(t, d, small(t))
					if open {
						ok(t, l.Begin(1), l.Write(37, mark(1)))
					}
					die(t, d)
					made := d.Made()
					refusesAll(t, l, api.ErrDead)
					if d.Made() != made {
						t.Errorf("%d things were done to the disk", d.Made()-made)
					}
				})
			}
		}
	}
}

// P11.1: no step is open: before the first one, behind one, behind a commit; whatever the number and the inode, and where none is free. Read, Spare and Orphans want none.
func TestNoStep(t *testing.T) {
	for _, nodes := range []table{blank(small(t)), filled(small(t), orphan, false), filled(small(t), strange, true), filled(small(t), file, true).with(9, leftover)} {
		w := newWorld(t, small(t), nodes)
		refused := func() {
			t.Helper()
			for _, n := range []api.Node{none, file, orphan, leftover, strange} {
				take(t, w.l, n, 0, api.ErrStep)
				for _, inum := range slices.Concat(from(1, 18), extremes) {
					write(t, w.l, inum, n, api.ErrStep)
				}
			}
			w.do(t)
			w.agree(t)
		}
		refused()
		w.do(t, step(1))
		refused()
		w.do(t, step(2, putting(7, distinct(1)), putting(8, none), putting(16, none), taking(orphan)))
		refused()
		w.do(t, syncing())
		refused()
		w.onDisk(t)
	}
}

// P11.1: where several errors would do, the first that the chapter names is told: ErrStep ahead of ErrArg (TestNoStep), ErrArg ahead of ErrNoSpace and of ErrTight, ErrNoSpace ahead of ErrTight.
func TestOrderOfErrors(t *testing.T) {
	full := newWorld(t, small(t), filled(small(t), file, false))
	full.do(t, beginning(1), writing(37, mark(1)))
	take(t, full.l, none, 0, api.ErrArg)
	take(t, full.l, leftover, 0, api.ErrArg)
	take(t, full.l, file, 0, api.ErrNoSpace)
	write(t, full.l, 16, file, api.ErrTight)
	for _, inum := range append(extremes, 17) {
		write(t, full.l, inum, file, api.ErrArg)
		read(t, full.l, inum, none, api.ErrArg)
	}
	full.agree(t)
	full.commits(t, 37)

	some := newWorld(t, small(t), filled(small(t), file, false).with(16, none))
	some.do(t, beginning(1), writing(37, mark(1)))
	take(t, some.l, none, 0, api.ErrArg)
	take(t, some.l, leftover, 0, api.ErrArg)
	take(t, some.l, file, 0, api.ErrTight)
	some.agree(t)
	some.commits(t, 37)
}

// layouts are tables that just begin their last block, that fill it, and that stand in between: in one block, in two, in several, in as many as there may be.
func layouts(t testing.TB) []api.Layout {
	var out []api.Layout
	for _, inodes := range []int{1, 2, 14, 15, 16, 17, 30, 31, 32, 33, 60, 63, 64, 255, 256, 1000} {
		out = append(out, layout(t, 200, 32, inodes))
	}
	for _, inodes := range []int{65519, 65520, 65534, 65535} {
		out = append(out, layout(t, 4500, 256, inodes))
	}
	return out
}

// alike are numbers that are like n in their lower bits, as far as int has more, or that stand at n's place in another block.
func alike(n int) []int {
	var out []int
	for _, m := range []int{int(int64(n) + 1<<32), int(int64(n) - 1<<32), n + 1<<16, n - 1<<16, n + 1<<20, n - 1<<20, n + 1<<30, n - 1<<30, n - 1024, n - 16, -n} {
		if m != n {
			out = append(out, m)
		}
	}
	return out
}

// P11.1: numbers at both ends of the table and outside of it, where every place of its blocks, inode 0's and those behind the last one too, holds an orphan or a free inode.
func TestBounds(t *testing.T) {
	for _, where := range layouts(t) {
		last := where.Geometry.Inodes
		inside := slices.DeleteFunc([]int{1, 2, 15, 16, 17, last/16*16 - 1, last / 16 * 16, last - 1, last}, func(inum int) bool { return inum < 1 || inum > last })
		inside = slices.Compact(slices.Sorted(slices.Values(inside)))
		outside := slices.Concat(extremes, alike(1), alike(last), []int{last + 1, last + 2, last + 15, last + 16, last + 17})
		outside = slices.DeleteFunc(outside, func(inum int) bool { return inum >= 1 && inum <= last })
		for _, n := range []api.Node{orphan, leftover} {
			d := load(t, newImage(where, filled(where, n, true)))
			l := newLog(t, d, where)
			is := 0
			if n.Kind == api.KindFree {
				is = last
			}
			spare(t, l, is, api.OK)
			ok(t, l.Begin(8))
			for i, inum := range inside {
				read(t, l, inum, n, api.OK)
				write(t, l, inum, distinct(i), api.OK)
				read(t, l, inum, distinct(i), api.OK)
			}
			changed := l.Used()
			for _, inum := range outside {
				read(t, l, inum, none, api.ErrArg)
				write(t, l, inum, file, api.ErrArg)
			}
			want := from(1, last)
			if is > 0 {
				is -= len(inside)
				want = nil
			}
			spare(t, l, is, api.OK)
			orphans(t, l, api.OK, slices.DeleteFunc(want, func(inum int) bool { return slices.Contains(inside, inum) })...)
			if l.Used() != changed || d.Made() != 0 {
				t.Errorf("%v: %d blocks changed, %d things done", where, l.Used(), d.Made())
			}
		}
	}
}

// P11.2, P11.3: Write of every inode of a table: all other bytes of the disk are as they were, those of inode 0, those behind the last inode, and the last four of every other inode too; the written inode's last four are noughts.
func TestPlaces(t *testing.T) {
	for _, inodes := range []int{1, 15, 16, 31, 40} {
		where := layout(t, 60, 32, inodes)
		nodes := drawn(where, rand.New(rand.NewSource(int64(inodes))))
		for inum := 1; inum <= inodes; inum++ {
			for k, n := range []api.Node{distinct(inum), strange, folder, leftover, none} {
				w := newWorld(t, where, nodes)
				w.do(t, beginning(1), putting(inum, n))
				w.agree(t)
				if k == 0 && !slices.Equal(w.a.bytes()[64*inum+60:64*inum+64], []byte{0, 0, 0, 0}) {
					t.Fatal("the account has no noughts behind the inode")
				}
				w.commits(t, where.NodeAt+inum/16)
			}
		}
	}
}

// P11.2: the bytes of a block, written out.
func TestBytes(t *testing.T) {
	l := newLog(t, load(t, made(t)), ten(t))
	ok(t, l.Begin(2))
	n := api.Node{Kind: api.KindFile, Links: 0x0102, Size: 0x03040506, Blocks: 0x0708090a, Direct: [api.Direct]uint32{39, 0x0b0c0d0e, 3, 4, 5, 6, 7, 8, 9, 0x100}, Single: 0x0f101112, Double: 0x13141516}
	want := []byte{
		1, 0, 2, 1, 6, 5, 4, 3, 10, 9, 8, 7, 39, 0, 0, 0, 14, 13, 12, 11, 3, 0, 0, 0, 4, 0, 0, 0, 5, 0, 0, 0,
		6, 0, 0, 0, 7, 0, 0, 0, 8, 0, 0, 0, 9, 0, 0, 0, 0, 1, 0, 0, 18, 17, 16, 15, 22, 21, 20, 19, 0, 0, 0, 0,
	}
	take(t, l, n, 2, api.OK)
	write(t, l, 31, n, api.OK)
	var first, second api.Block
	copy(first[64:], []byte{2, 0, 2, 0, 32, 0, 0, 0, 1, 0, 0, 0, 38})
	copy(first[128:], want)
	copy(second[960:], want)
	for at, block := range map[int]api.Block{33: first, 34: second, 35: {}, 36: {}} {
		if b, err := l.Read(at); b != block || err != api.OK {
			t.Errorf("block %d is %v, %d", at, b, err)
		}
	}
}

// P11.1, P11.2: whatever bytes a table has: what is told of it, of each inode in it, and what becomes of it by writes and takes, within a step and outside.
func TestAnyBytes(t *testing.T) {
	for seed := range 60 {
		draw := rand.New(rand.NewSource(int64(seed)))
		where := layout(t, 60, 32, 1+draw.Intn(70))
		w := newWorld(t, where, drawn(where, draw))
		w.do(t)
		w.agree(t)
		w.do(t, step(9, taking(strange), putting(1+draw.Intn(where.Geometry.Inodes), none), taking(orphan)))
		w.agree(t)
		w.do(t, beginning(9), taking(distinct(seed)))
		for i := range where.NodeBlocks {
			w.do(t, writing(where.NodeAt+i, api.Block(drawn(where, draw)[1024*i:])))
		}
		w.agree(t)
		w.do(t, taking(folder), taking(file), ending(), syncing())
		w.agree(t)
		w.onDisk(t)
	}
}

// P11.1: an inode is free by its Kind alone, and an orphan by that and its Links: Kinds that are none of the kinds, and what else may stand in the fields.
func TestKinds(t *testing.T) {
	where := small(t)
	for _, kind := range []api.Kind{0, 1, 2, 3, 4, 255, 256, 257, 512, 0x8000, 65535} {
		for _, links := range []uint16{0, 1, 2, 255, 256, 1000, 1001, 0x8000, 65535} {
			for _, rest := range []api.Node{none, strange} {
				n := rest
				n.Kind, n.Links = kind, links
				for _, inum := range []int{1, 2, 15, 16} {
					w := newWorld(t, where, filled(where, file, true).with(inum, n))
					w.do(t, reading(inum))
					free, want := 0, []int{}
					switch {
					case kind == 0:
						free = 1
					case links == 0:
						want = []int{inum}
					}
					spare(t, w.l, free, api.OK)
					orphans(t, w.l, api.OK, want...)
					w.do(t, beginning(2), taking(file), putting(inum, none), taking(n), reading(inum), putting(3, n), reading(3))
					w.agree(t)
				}
			}
		}
	}
}

// P11.1: Take where this one or that one is free, alone or with others: the least one is taken, whatever the free one's other fields are.
func TestTakeLeast(t *testing.T) {
	for _, where := range layouts(t) {
		last := where.Geometry.Inodes
		sets := [][]int{nil, {last - 1, last}, {1, last}, {1}, {last}, {15}, {16}, {15, 16}, {16, 17}, {14, 16, last}, {3, 5, 40}, {last / 2}}
		if last > 1000 { // long to go through
			sets = sets[:2]
		}
		for _, inums := range sets {
			inums = slices.Compact(slices.DeleteFunc(slices.Sorted(slices.Values(inums)), func(inum int) bool { return inum < 1 || inum > last }))
			takesAll(t, where, none, inums)
			takesAll(t, where, leftover, inums)
		}
	}
}

// takesAll asks for all inodes of a table in which these are free, rising; inode 0 and those behind the last one are free too.
func takesAll(t *testing.T, where api.Layout, free api.Node, inums []int) {
	t.Helper()
	nodes := filled(where, file, false)
	for _, inum := range inums {
		copy(nodes[64*inum:], laid(free))
	}
	d := load(t, newImage(where, nodes))
	l := newLog(t, d, where)
	spare(t, l, len(inums), api.OK)
	ok(t, l.Begin(5))
	for i, inum := range inums {
		take(t, l, orphan, inum, api.OK)
		read(t, l, inum, orphan, api.OK)
		spare(t, l, len(inums)-i-1, api.OK)
		orphans(t, l, api.OK, inums[:i+1]...)
	}
	changed := l.Used()
	take(t, l, orphan, 0, api.ErrNoSpace)
	spare(t, l, 0, api.OK)
	if l.Used() != changed || d.Made() != 0 {
		t.Errorf("%d inodes, %v: Take of none changes a block, or things are done", where.Geometry.Inodes, inums)
	}
}

// P11.2: inodes come rising till none is left; then they are made free in another order, and come again.
func TestTakeAll(t *testing.T) {
	for _, inodes := range []int{1, 15, 16, 17, 31, 32, 60} {
		where := layout(t, 60, 32, inodes)
		l := newLog(t, load(t, newImage(where, blank(where))), where)
		inStep := func(do func()) {
			ok(t, l.Begin(1))
			do()
			ok(t, l.End())
		}
		for inum := 1; inum <= inodes; inum++ {
			spare(t, l, inodes-inum+1, api.OK)
			inStep(func() { take(t, l, distinct(inum), inum, api.OK) })
		}
		inStep(func() { take(t, l, file, 0, api.ErrNoSpace) })
		spare(t, l, 0, api.OK)
		orphans(t, l, api.OK)
		back := rand.New(rand.NewSource(int64(inodes))).Perm(inodes)[:(inodes+1)/2]
		for i, k := range back {
			inStep(func() { write(t, l, k+1, none, api.OK); write(t, l, k+1, leftover, api.OK) })
			spare(t, l, i+1, api.OK)
		}
		slices.Sort(back)
		for i, k := range back {
			read(t, l, k+1, leftover, api.OK)
			inStep(func() { take(t, l, orphan, k+1, api.OK) })
			spare(t, l, len(back)-i-1, api.OK)
		}
		inStep(func() { take(t, l, file, 0, api.ErrNoSpace) })
		for inum := 1; inum <= inodes; inum++ {
			if slices.Contains(back, inum-1) {
				read(t, l, inum, orphan, api.OK)
			} else {
				read(t, l, inum, distinct(inum), api.OK)
			}
		}
	}
}

// P11.2: Spare goes by what a Write makes of an inode: one more where it becomes free, one less where it does no longer, the same else.
func TestSpareByWrite(t *testing.T) {
	kinds := []api.Node{none, leftover, file, orphan, folder, strange}
	for _, was := range kinds {
		for _, is := range kinds {
			l := newLog(t, load(t, newImage(small(t), filled(small(t), file, true).with(5, was).with(7, none))), small(t))
			before, err := rack.Spare(l)
			ok(t, err, l.Begin(1))
			write(t, l, 5, is, api.OK)
			want := before
			if was.Kind == api.KindFree {
				want--
			}
			if is.Kind == api.KindFree {
				want++
			}
			spare(t, l, want, api.OK)
			if is.Kind != api.KindFree {
				take(t, l, file, 7, api.OK)
				spare(t, l, want-1, api.OK)
			}
		}
	}
}

// P11.1: a step whose reservation is 1, 2 and 3, where it has changed the inode's block already, another one or none, and where the group has changed blocks ahead of it, which count for the step anew. Where it is ErrTight nothing has changed.
func TestTight(t *testing.T) {
	const first, second, other = 33, 34, 40 // inode 3 stands in the first, inode 16, the least free one, in the second
	cases := []struct {
		name    string
		earlier []int // changed by a step ahead
		r       int
		already []int // changed by this step
		e       api.Errno
	}{
		{"1", nil, 1, nil, api.OK},
		{"1, its block", nil, 1, []int{second}, api.OK},
		{"1, the block ahead", nil, 1, []int{first}, api.ErrTight},
		{"1, another", nil, 1, []int{other}, api.ErrTight},
		{"2, another", nil, 2, []int{other}, api.OK},
		{"2, its block and another", nil, 2, []int{second, other}, api.OK},
		{"2, two others", nil, 2, []int{other, first}, api.ErrTight},
		{"3, two others", nil, 3, []int{first, other}, api.OK},
		{"3, three others", nil, 3, []int{first, other, 41}, api.ErrTight},
		{"3, three with its block", nil, 3, []int{first, second, 41}, api.OK},
		{"1, its block ahead", []int{second}, 1, nil, api.OK},
		{"1, its block ahead, another", []int{second}, 1, []int{other}, api.ErrTight},
		{"1, both ahead, the other again", []int{second, other}, 1, []int{other}, api.ErrTight},
	}
	calls := map[string]func(l *wal.Log) (int, api.Errno){
		"Write": func(l *wal.Log) (int, api.Errno) { return 0, rack.Write(l, 16, strange) },
		"Take":  func(l *wal.Log) (int, api.Errno) { return rack.Take(l, strange) },
	}
	for _, c := range cases {
		for name, call := range calls {
			t.Run(c.name+", "+name, func(t *testing.T) {
				w := newWorld(t, small(t), filled(small(t), file, true).with(16, none))
				again := func(at int) act { return writing(at, w.a.now[at]) }
				for _, at := range c.earlier {
					w.do(t, step(1, again(at)))
				}
				w.do(t, beginning(c.r))
				for _, at := range c.already {
					w.do(t, again(at))
				}
				inum, err := call(w.l)
				want := 0
				if name == "Take" && c.e == api.OK {
					want = 16
				}
				if inum != want || err != c.e {
					t.Errorf("%d, %d, not %d, %d", inum, err, want, c.e)
				}
				if e := w.a.write(16, strange); e != c.e {
					t.Fatalf("the account: %d", e)
				}
				w.do(t)
				w.agree(t)
				group := slices.Concat(c.earlier, c.already)
				if c.e == api.OK {
					group = append(group, second)
				}
				w.commits(t, compact(group)...)
			})
		}
	}
}

// compact leaves each number once, where it stands first.
func compact(ats []int) []int {
	var out []int
	for _, at := range ats {
		if !slices.Contains(out, at) {
			out = append(out, at)
		}
	}
	return out
}

// P11.1: a step that ErrTight was answered goes on: what fits is still done.
func TestTightAndOn(t *testing.T) {
	w := newWorld(t, ten(t), filled(ten(t), file, false).with(14, none).with(15, none).with(16, none).with(40, none))
	w.do(t, beginning(1), taking(orphan), putting(20, folder), putting(3, none), putting(60, none), taking(orphan), taking(folder), taking(orphan), taking(orphan), putting(15, none), taking(strange))
	w.agree(t)
	w.commits(t, 33)
	w.do(t, beginning(2), taking(orphan), taking(orphan), putting(5, file), putting(17, none), taking(none), taking(folder))
	w.agree(t)
	w.commits(t, 34, 35)
}

// P11.3: which blocks the calls change, and that those that answer an error, Read, Spare and Orphans change none; one that is written with what it was counts none the less.
func TestWhatIsWritten(t *testing.T) {
	w := newWorld(t, ten(t), filled(ten(t), file, true).with(30, none).with(50, none))
	w.do(t, beginning(9), putting(60, folder))
	w.commits(t, 36)
	w.do(t, beginning(9), taking(orphan), taking(orphan), putting(31, none), putting(47, orphan), putting(1, folder), putting(15, folder))
	w.commits(t, 34, 36, 35, 33)
	w.do(t, beginning(9), putting(16, file))
	w.commits(t, 34)
	w.do(t, beginning(9), reading(1), reading(61), putting(0, file), putting(61, file), taking(none), reading(60))
	w.commits(t)
	w.do(t, beginning(9), taking(orphan), taking(orphan), taking(file))
	w.commits(t, 34)
}

// P11.1 to P11.3: all short lists of acts, in steps and outside them, on tables in which some are free and in which one is.
func TestShortLists(t *testing.T) {
	where := layout(t, 40, 32, 17)
	acts := []act{beginning(1), beginning(2), ending(), taking(orphan), putting(2, none), putting(16, file), putting(17, none), syncing()}
	for _, nodes := range []table{filled(where, file, true).with(15, none).with(17, leftover), filled(where, orphan, false).with(16, none)} {
		im := newImage(where, nodes)
		lists(len(acts), 4, func(list []int) {
			w := worldOn(t, where, im)
			for _, k := range list {
				w.do(t, acts[k])
			}
			w.agree(t)
		})
	}
}

// P11.1 to P11.3: all lists of writes and takes in a step with room for all, and in one with room for a block.
func TestWritesAndTakes(t *testing.T) {
	where := layout(t, 40, 32, 16)
	acts := []act{taking(file), taking(orphan), putting(15, none), putting(16, leftover), putting(15, strange), putting(3, none)}
	im := newImage(where, filled(where, file, false).with(14, none))
	for _, r := range []int{1, 2} {
		lists(len(acts), 4, func(list []int) {
			w := worldOn(t, where, im)
			w.do(t, beginning(r))
			for _, k := range list {
				w.do(t, acts[k])
			}
			w.agree(t)
		})
	}
}

// P11.2: long rows of acts, drawn anew the same way each time, over steps and commits, with blocks written by others between.
func TestLongRows(t *testing.T) {
	for seed := range 6 {
		draw := rand.New(rand.NewSource(int64(seed)))
		where := layout(t, 60, 32, []int{1, 15, 16, 33, 60, 100}[seed])
		w := newWorld(t, where, drawn(where, draw))
		for i := range 600 {
			nodes := []api.Node{none, leftover, file, orphan, folder, strange, distinct(i)}
			n, inum := nodes[draw.Intn(len(nodes))], draw.Intn(where.Geometry.Inodes+3)
			switch draw.Intn(8) {
			case 0:
				w.do(t, beginning(1+draw.Intn(3)))
			case 1:
				w.do(t, ending())
			case 2:
				w.do(t, syncing())
			case 3, 4:
				w.do(t, taking(n))
			case 5, 6:
				w.do(t, putting(inum, n))
			case 7:
				w.do(t, writing(where.DataAt, mark(i)), reading(inum))
			}
			if i%20 == 0 {
				w.agree(t)
			}
		}
		if w.l.Open() {
			w.do(t, ending())
		}
		w.do(t, syncing())
		w.agree(t)
		w.onDisk(t)
	}
}

// P11.1: a table of many more blocks than a log holds in memory, with as many of them changed as a group may have.
func TestWideTable(t *testing.T) {
	where := layout(t, 200, 32, 1039)
	w := newWorld(t, where, filled(where, file, true).with(1039, none))
	w.do(t, beginning(31))
	for i := range 31 {
		w.do(t, putting(16*i+5, orphan))
	}
	w.do(t, taking(orphan), putting(16*31, none), putting(5, none), taking(strange), taking(orphan))
	w.agree(t)
	w.do(t, ending(), step(1, taking(orphan)), syncing())
	w.agree(t)
	w.onDisk(t)
}

// P11.3: Read, Spare and Orphans change nothing and write nothing, in a step and outside one.
func TestAskingIsQuiet(t *testing.T) {
	w := newWorld(t, ten(t), drawn(ten(t), rand.New(rand.NewSource(1))))
	ask := func() {
		for _, inum := range []int{-1, 0, 1, 15, 16, 60, 61} {
			w.do(t, reading(inum))
		}
	}
	ask()
	w.do(t, beginning(1))
	ask()
	w.do(t, putting(20, orphan))
	ask()
	w.do(t, ending())
	ask()
	if w.d.Made() != 0 || w.l.Used() != 1 || w.l.Steps() != 1 {
		t.Errorf("%d things done, %d blocks, %d steps", w.d.Made(), w.l.Used(), w.l.Steps())
	}
}

// Rule 3: a list of orphans is new memory, its spare room too, and changes with nothing that is called later.
func TestNewMemory(t *testing.T) {
	l := newLog(t, load(t, newImage(small(t), filled(small(t), orphan, true).with(2, none))), small(t))
	want := slices.Concat([]int{1}, from(3, 14))
	one, err := rack.Orphans(l)
	two, other := rack.Orphans(l)
	ok(t, err, other)
	for _, list := range [][]int{one, two} {
		if !slices.Equal(list, want) {
			t.Fatalf("Orphans: %v", list)
		}
	}
	clear(one[:cap(one)])
	ok(t, l.Begin(2))
	take(t, l, orphan, 2, api.OK)
	write(t, l, 16, none, api.OK)
	if !slices.Equal(two, want) {
		t.Errorf("a list has become %v", two)
	}
	clear(two[:cap(two)])
	orphans(t, l, api.OK, from(1, 15)...)
}

// Rule 6: two logs of two disks do not know of each other.
func TestTwoLogs(t *testing.T) {
	one, two := newWorld(t, small(t), blank(small(t))), newWorld(t, ten(t), filled(ten(t), orphan, true).with(40, none))
	one.do(t, beginning(2), taking(file))
	two.do(t, beginning(3), putting(3, none), taking(file))
	one.do(t, taking(orphan), putting(1, none))
	two.do(t, taking(strange), ending(), syncing(), beginning(1), taking(file))
	one.do(t, taking(orphan), reading(1))
	one.d.Crash(nil)
	take(t, one.l, file, 0, api.ErrDead)
	two.do(t, putting(17, none), taking(folder), reading(17))
	two.agree(t)
}
