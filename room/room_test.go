package room_test

import (
	"math"
	"math/rand"
	"slices"
	"testing"

	"undercroft/api"
	"undercroft/disk"
	"undercroft/room"
	"undercroft/shape"
	"undercroft/wal"
)

// numbered is a block that is quickly made, and that no other number below 2^16 has.
func numbered(n int) api.Block {
	var b api.Block
	b[0], b[1022], b[1023] = 1, byte(n), byte(n>>8)
	return b
}

// layout is a layout that may be.
func layout(t testing.TB, blocks, log, inodes int) api.Layout {
	t.Helper()
	where, err := shape.Of(api.Geometry{Blocks: blocks, Log: log, Inodes: inodes})
	if err != api.OK {
		t.Fatalf("a layout of %d, %d, %d: %d", blocks, log, inodes, err)
	}
	return where
}

// small is the least layout but for its data region: the log is 1 to 32, the inodes 33, the bitmap 34, the data 35 to 39.
func small(t testing.TB) api.Layout {
	t.Helper()
	return layout(t, 40, 32, 1)
}

// wide is a layout whose bitmap has three blocks, 37 to 39, the last one for a few bits alone: the data is 40 to 16400.
func wide(t testing.TB) api.Layout {
	t.Helper()
	return layout(t, 16401, 32, 60)
}

// none and all are bitmaps: which bits are 1.
func none(int) bool { return false }
func all(int) bool  { return true }

// but is a bitmap in which the bits of these blocks alone are the other way round.
func but(used func(int) bool, ats ...int) func(int) bool {
	return func(at int) bool { return used(at) != slices.Contains(ats, at) }
}

// below has the bits of the blocks ahead of one be 1.
func below(end int) func(int) bool { return func(at int) bool { return at < end } }

// newImage is a disk with such a bitmap (all of its bits, also those that stand for no block), whose inodes' blocks and some of its data blocks hold bytes that are told from each other.
func newImage(where api.Layout, used func(at int) bool) api.Image {
	im := api.Image{Blocks: min(where.Geometry.Blocks+2, api.MaxBlocks)}
	put := func(at int, b api.Block) {
		if b != (api.Block{}) {
			im.Data = append(im.Data, api.Held{Index: at, Data: b})
		}
	}
	for at := where.NodeAt; at < where.BitsAt; at++ {
		put(at, numbered(at))
	}
	for i := range where.BitsBlocks {
		var b api.Block
		for bit := range 8192 {
			if used(8192*i + bit) {
				b[bit/8] |= 1 << (bit % 8)
			}
		}
		put(where.BitsAt+i, b)
	}
	for at := where.DataAt; at < min(where.Geometry.Blocks, where.DataAt+300); at++ {
		put(at, numbered(at))
	}
	return im
}

func load(t testing.TB, im api.Image) *disk.Disk {
	t.Helper()
	d, err := disk.Load(im)
	if err != api.OK {
		t.Fatalf("a disk of %d blocks: %d", im.Blocks, err)
	}
	return d
}

func newLog(t testing.TB, d *disk.Disk, where api.Layout) *wal.Log {
	t.Helper()
	l, err := wal.New(d, where)
	if err != api.OK || l == nil {
		t.Fatalf("New: %v, %d", l, err)
	}
	return l
}

// account is a log by the document's words, with all blocks as they are, and lists of those that were changed that are gone over from their beginning.
type account struct {
	where api.Layout
	now   map[int]api.Block
	group []int
	step  []int // what the open step has changed
	open  bool
	r     int
}

func newAccount(where api.Layout, im api.Image) *account {
	a := &account{where: where, now: map[int]api.Block{}}
	for _, held := range im.Data {
		a.now[held.Index] = held.Data
	}
	return a
}

// place is where a block's bit stands: the bitmap's block, its byte, the byte's value.
func (a *account) place(at int) (block, byt int, value byte) {
	n := at / 8
	return a.where.BitsAt + n/1024, n % 1024, []byte{1, 2, 4, 8, 16, 32, 64, 128}[at-8*n]
}

func (a *account) data(at int) bool { return at >= a.where.DataAt && at < a.where.Geometry.Blocks }

func (a *account) bit(at int) bool {
	block, byt, value := a.place(at)
	b := a.now[block]
	return b[byt]/value%2 == 1
}

// turned is the bitmap's block with a bit turned round.
func (a *account) turned(at int) (block int, b api.Block) {
	block, byt, value := a.place(at)
	b = a.now[block]
	b[byt] ^= value
	return block, b
}

func (a *account) begin(r int) api.Errno {
	switch {
	case a.open:
		return api.ErrStep
	case len(a.group)+r > a.where.Geometry.Log-1:
		a.group = nil
	}
	a.open, a.r, a.step = true, r, nil
	return api.OK
}

func (a *account) end() api.Errno {
	if !a.open {
		return api.ErrStep
	}
	a.open = false
	return api.OK
}

func (a *account) sync() api.Errno {
	if a.open {
		return api.ErrStep
	}
	a.group = nil
	return api.OK
}

func (a *account) write(at int, b api.Block) api.Errno {
	switch {
	case !a.open:
		return api.ErrStep
	case !slices.Contains(a.step, at) && len(a.step) == a.r:
		return api.ErrTight
	}
	a.now[at] = b
	if !slices.Contains(a.step, at) {
		a.step = append(a.step, at)
	}
	if !slices.Contains(a.group, at) {
		a.group = append(a.group, at)
	}
	return api.OK
}

func (a *account) take() (int, api.Errno) {
	if !a.open {
		return 0, api.ErrStep
	}
	at := a.where.DataAt
	for a.data(at) && a.bit(at) {
		at++
	}
	if !a.data(at) {
		return 0, api.ErrNoSpace
	}
	block, b := a.turned(at)
	was := a.now[block]
	if a.write(block, b) != api.OK {
		return 0, api.ErrTight
	}
	if a.write(at, api.Block{}) != api.OK {
		a.write(block, was)
		return 0, api.ErrTight
	}
	return at, api.OK
}

func (a *account) give(at int) api.Errno {
	switch {
	case !a.open:
		return api.ErrStep
	case !a.data(at) || !a.bit(at):
		return api.ErrInval
	}
	return a.write(a.turned(at))
}

func (a *account) used(at int) (bool, api.Errno) {
	if !a.data(at) {
		return false, api.ErrInval
	}
	return a.bit(at), api.OK
}

func (a *account) free() int {
	n := 0
	for at := a.where.DataAt; at < a.where.Geometry.Blocks; at++ {
		if !a.bit(at) {
			n++
		}
	}
	return n
}

// world is a disk, a log of it, and what the document says of both.
type world struct {
	d     *disk.Disk
	l     *wal.Log
	a     *account
	count int // acts so far: no two writes are of the same bytes
}

func newWorld(t testing.TB, where api.Layout, used func(at int) bool) *world {
	t.Helper()
	return worldOn(t, where, newImage(where, used))
}

func worldOn(t testing.TB, where api.Layout, im api.Image) *world {
	t.Helper()
	d := load(t, im)
	return &world{d: d, l: newLog(t, d, where), a: newAccount(where, im)}
}

type act func(t testing.TB, w *world)

func beginning(r int) act {
	return func(t testing.TB, w *world) {
		err := w.l.Begin(r)
		if e := w.a.begin(r); err != e {
			t.Fatalf("act %d: Begin(%d): %d, not %d", w.count, r, err, e)
		}
	}
}

func ending() act {
	return func(t testing.TB, w *world) {
		err := w.l.End()
		if e := w.a.end(); err != e {
			t.Fatalf("act %d: End: %d, not %d", w.count, err, e)
		}
	}
}

func syncing() act {
	return func(t testing.TB, w *world) {
		err := w.l.Sync()
		if e := w.a.sync(); err != e {
			t.Fatalf("act %d: Sync: %d, not %d", w.count, err, e)
		}
	}
}

// writing is a write by somebody else in the step.
func writing(at int) act {
	return func(t testing.TB, w *world) {
		b := numbered(20000 + w.count)
		if at >= w.a.where.BitsAt && at < w.a.where.DataAt {
			b = w.a.now[at]
		}
		err := w.l.Write(at, b)
		if e := w.a.write(at, b); err != e {
			t.Fatalf("act %d: Write(%d): %d, not %d", w.count, at, err, e)
		}
	}
}

func taking() act {
	return func(t testing.TB, w *world) {
		at, err := room.Take(w.l)
		want, e := w.a.take()
		if at != want || err != e {
			t.Fatalf("act %d: Take: %d, %d, not %d, %d", w.count, at, err, want, e)
		}
	}
}

func giving(at int) act {
	return func(t testing.TB, w *world) {
		err := room.Give(w.l, at)
		if e := w.a.give(at); err != e {
			t.Fatalf("act %d: Give(%d): %d, not %d", w.count, at, err, e)
		}
	}
}

func asking(at int) act {
	return func(t testing.TB, w *world) {
		is, err := room.Used(w.l, at)
		want, e := w.a.used(at)
		if is != want || err != e {
			t.Fatalf("act %d: Used(%d): %t, %d, not %t, %d", w.count, at, is, err, want, e)
		}
	}
}

// do makes acts, and asks behind each what is free and how many blocks the group has. (No t.Helper here and in what it calls: it takes longer than the acts.)
func (w *world) do(t testing.TB, acts ...act) {
	for _, do := range acts {
		w.count++
		do(t, w)
		if n, err := room.Free(w.l); n != w.a.free() || err != api.OK {
			t.Fatalf("behind act %d: Free: %d, %d, not %d", w.count, n, err, w.a.free())
		}
		if w.l.Used() != len(w.a.group) || w.l.Open() != w.a.open {
			t.Fatalf("behind act %d: the group has %d blocks, not %v; a step is open: %t", w.count, w.l.Used(), w.a.group, w.l.Open())
		}
	}
}

// agree asks for these blocks' bytes, as the log has them.
func (w *world) agree(t testing.TB, ats ...int) {
	for _, at := range ats {
		want := w.a.now[at]
		if b, err := w.l.Read(at); b != want || err != api.OK {
			t.Fatalf("behind act %d: block %d is %v..%v, %d, not %v..%v", w.count, at, b[:6], b[1022:], err, want[:6], want[1022:])
		}
	}
}

// changeable are the blocks that a step may change.
func (w *world) changeable() []int {
	return from(w.a.where.NodeAt, w.a.where.Geometry.Blocks-w.a.where.NodeAt)
}

// commits ends the step, has the group committed, and asks which blocks it had, in which order, and for all blocks of the disk.
func (w *world) commits(t testing.TB, group ...int) {
	t.Helper()
	before := len(w.d.History())
	w.do(t, ending(), syncing())
	var wrote []int
	for _, op := range w.d.History()[before:] {
		if op.Kind == api.OpWrite && op.At >= w.a.where.NodeAt {
			wrote = append(wrote, op.At)
		}
	}
	if !slices.Equal(wrote, group) {
		t.Errorf("the group's blocks are %v, not %v", wrote, group)
	}
	w.agree(t, w.changeable()...)
	w.onDisk(t)
}

// onDisk asks whether the disk holds, outside the log, just what the account has.
func (w *world) onDisk(t testing.TB) {
	t.Helper()
	held := map[int]api.Block{}
	for _, h := range w.d.Image().Data {
		held[h.Index] = h.Data
	}
	for at := range w.d.Len() {
		if at < w.a.where.LogAt || at >= w.a.where.NodeAt {
			if got, want := held[at], w.a.now[at]; got != want {
				t.Errorf("block %d of the disk is %v.., not %v..", at, got[:6], want[:6])
			}
		}
	}
}

// from are n numbers that follow each other.
func from(at, n int) []int {
	ats := make([]int, n)
	for i := range ats {
		ats[i] = at + i
	}
	return ats
}

// lists goes over all lists of so many numbers below n.
func lists(n, length int, do func(list []int)) {
	list := make([]int, length)
	var more func(i int)
	more = func(i int) {
		if i == length {
			do(list)
			return
		}
		for list[i] = range n {
			more(i + 1)
		}
	}
	more(0)
}

var ends = []int{math.MinInt, math.MinInt + 1, -8193, -8192, -4096, -2, -1, math.MaxInt - 1, math.MaxInt}

// alike are numbers that are like n in their lower 32 or 16 bits, as far as int has more, or that have n's bit in another block of a bitmap.
func alike(n int) []int {
	big := 1
	big <<= 32
	var out []int
	for _, m := range []int{n + big, n - big, n + 1<<16, n - 1<<16, n + 1<<20, n - 1<<20, n + 8192, n - 8192, -n} {
		if m != n {
			out = append(out, m)
		}
	}
	return out
}

// step makes acts in a step of its own.
func step(r int, acts ...act) act {
	return func(t testing.TB, w *world) {
		w.do(t, beginning(r))
		w.do(t, acts...)
		w.do(t, ending())
	}
}

// take asks for the block that Take is to answer.
func take(t testing.TB, l *wal.Log, want int, e api.Errno) {
	t.Helper()
	if at, err := room.Take(l); at != want || err != e {
		t.Errorf("Take: %d, %d, not %d, %d", at, err, want, e)
	}
}

func give(t testing.TB, l *wal.Log, at int, e api.Errno) {
	t.Helper()
	if err := room.Give(l, at); err != e {
		t.Errorf("Give(%d): %d, not %d", at, err, e)
	}
}

func used(t testing.TB, l *wal.Log, at int, want bool, e api.Errno) {
	t.Helper()
	if is, err := room.Used(l, at); is != want || err != e {
		t.Errorf("Used(%d): %t, %d, not %t, %d", at, is, err, want, e)
	}
}

func free(t testing.TB, l *wal.Log, want int, e api.Errno) {
	t.Helper()
	if n, err := room.Free(l); n != want || err != e {
		t.Errorf("Free: %d, %d, not %d, %d", n, err, want, e)
	}
}

func ok(t testing.TB, errs ...api.Errno) {
	t.Helper()
	for i, err := range errs {
		if err != api.OK {
			t.Fatalf("call %d: %d", i, err)
		}
	}
}

// Chapter 9's examples, call by call.
func TestExamples(t *testing.T) {
	where := layout(t, 400, 32, 60)
	if where.DataAt != 38 {
		t.Fatalf("the data begins at %d", where.DataAt)
	}
	l := newLog(t, load(t, newImage(where, below(39))), where)
	free(t, l, 361, api.OK)
	used(t, l, 38, true, api.OK)
	used(t, l, 39, false, api.OK)
	used(t, l, 37, false, api.ErrInval)
	used(t, l, 400, false, api.ErrInval)
	take(t, l, 0, api.ErrStep)
	ok(t, l.Begin(10))
	take(t, l, 39, api.OK)
	take(t, l, 40, api.OK)
	give(t, l, 39, api.OK)
	take(t, l, 39, api.OK)
	take(t, l, 41, api.OK)
	give(t, l, 45, api.ErrInval)
	give(t, l, 37, api.ErrInval)
	free(t, l, 358, api.OK)
	take(t, nil, 0, api.ErrNil)
}

// The numbers of the errors.
func TestErrorNumbers(t *testing.T) {
	number := func(name string, err api.Errno, n int) {
		t.Helper()
		if int(err) != n {
			t.Errorf("%s is %d, not %d", name, int(err), n)
		}
	}
	d := load(t, newImage(small(t), but(all, 39)))
	l := newLog(t, d, small(t))
	number("ErrNil", room.Give(nil, 36), 1)
	number("ErrStep", room.Give(l, 36), 180)
	ok(t, l.Begin(1))
	number("ErrInval", room.Give(l, 39), 4)
	_, err := room.Take(l)
	number("ErrTight", err, 181)
	ok(t, l.End(), l.Begin(2))
	take(t, l, 39, api.OK)
	_, err = room.Take(l)
	number("ErrNoSpace", err, 16)
	d.Crash(nil)
	number("ErrDead", room.Give(l, 36), 3)
}

// refusesAll asks all four calls, with arguments that would be refused else and with others.
func refusesAll(t *testing.T, l *wal.Log, e api.Errno) {
	t.Helper()
	take(t, l, 0, e)
	free(t, l, 0, e)
	for _, at := range slices.Concat([]int{0, 1, 34, 35, 36, 39, 40}, ends) {
		give(t, l, at, e)
		used(t, l, at, false, e)
	}
}

// P9.1: logs that are nil or that nobody made, in whichever way.
func TestNoLog(t *testing.T) {
	refusesAll(t, nil, api.ErrNil)
	refusesAll(t, &wal.Log{}, api.ErrNil)
	l := newLog(t, load(t, newImage(small(t), but(none, 35))), small(t))
	ok(t, l.Begin(3))
	copied := *l
	refusesAll(t, &copied, api.ErrNil)
	take(t, l, 36, api.OK)
}

// P9.1: a log that is closed, also where its disk has stopped or is claimed anew.
func TestClosedLog(t *testing.T) {
	for _, then := range []func(d *disk.Disk){
		func(d *disk.Disk) {},
		func(d *disk.Disk) { d.Fuse(0); d.Barrier() },
		func(d *disk.Disk) { d.Claim() },
		func(d *disk.Disk) { d.Crash(nil) },
	} {
		d := load(t, newImage(small(t), but(none, 35)))
		l := newLog(t, d, small(t))
		ok(t, l.Begin(2))
		take(t, l, 36, api.OK)
		ok(t, l.End(), l.Close())
		then(d)
		refusesAll(t, l, api.ErrNil)
	}
}

// P9.1: a log that is dead, with a step open and without: ErrDead is ahead of ErrStep, ErrInval, ErrNoSpace and ErrTight.
func TestDeadLog(t *testing.T) {
	ways := map[string]func(t *testing.T, d *disk.Disk){
		"stopped":      func(t *testing.T, d *disk.Disk) { d.Fuse(0); d.Barrier() },
		"claimed":      func(t *testing.T, d *disk.Disk) { d.Claim() },
		"another log":  func(t *testing.T, d *disk.Disk) { newLog(t, d, small(t)) },
		"power":        func(t *testing.T, d *disk.Disk) { d.Crash(nil) },
		"power, again": func(t *testing.T, d *disk.Disk) { d.Crash(nil); newLog(t, d, small(t)) },
		"stopped, power": func(t *testing.T, d *disk.Disk) {
			d.Fuse(0)
			d.Write(36, numbered(1))
			d.Crash([]bool{true})
		},
	}
	for name, die := range ways {
		for _, bitmap := range []func(int) bool{all, none, but(none, 35, 36)} {
			for _, open := range []bool{false, true} {
				t.Run(name, func(t *testing.T) {
					d := load(t, newImage(small(t), bitmap))
					l := newLog(t, d, small(t))
					if open {
						ok(t, l.Begin(1), l.Write(37, numbered(1)))
					}
					die(t, d)
					made := d.Made()
					refusesAll(t, l, api.ErrDead)
					if d.Made() != made {
						t.Errorf("%d things were done to the disk", d.Made()-made)
					}
				})
			}
		}
	}
}

// P9.1: a log that dies in the middle of a commit.
func TestDeadInCommit(t *testing.T) {
	d := load(t, newImage(small(t), below(36)))
	l := newLog(t, d, small(t))
	ok(t, l.Begin(2))
	take(t, l, 36, api.OK)
	ok(t, l.End())
	d.Fuse(4)
	if err := l.Sync(); err != api.ErrDead {
		t.Fatalf("Sync: %d", err)
	}
	refusesAll(t, l, api.ErrDead)
}

// P9.1: no step is open: before the first one, behind one, behind a commit; whatever the argument, and where no block is free. Used and Free want none.
func TestNoStep(t *testing.T) {
	for _, bitmap := range []func(int) bool{none, all, but(none, 36)} {
		w := newWorld(t, small(t), bitmap)
		refused := func() {
			t.Helper()
			take(t, w.l, 0, api.ErrStep)
			for _, at := range slices.Concat([]int{0, 1, 33, 34, 35, 36, 38, 39, 40}, ends) {
				give(t, w.l, at, api.ErrStep)
			}
			w.do(t, asking(34), asking(35), asking(36), asking(39), asking(40))
			w.agree(t, w.changeable()...)
			if len(w.d.History()) != 0 {
				t.Errorf("%d things done", len(w.d.History()))
			}
		}
		refused()
		w.do(t, step(1))
		refused()
		w.do(t, beginning(3), giving(36), taking(), ending())
		refused()
		w.do(t, asking(35), asking(36))
		w.d.Crash(nil)
		refusesAll(t, w.l, api.ErrDead)
	}
	w := newWorld(t, small(t), none)
	w.do(t, step(3, taking()), syncing())
	take(t, w.l, 0, api.ErrStep)
	give(t, w.l, 35, api.ErrStep)
}

// P9.2, P9.3: ErrNoSpace and ErrInval are found ahead of ErrTight.
func TestOrderOfErrors(t *testing.T) {
	l := newLog(t, load(t, newImage(small(t), all)), small(t))
	ok(t, l.Begin(1), l.Write(33, numbered(1)))
	take(t, l, 0, api.ErrNoSpace)
	give(t, l, 39, api.ErrTight)
	give(t, l, 34, api.ErrInval)
	give(t, l, 40, api.ErrInval)
	give(t, l, -1, api.ErrInval)
	l = newLog(t, load(t, newImage(small(t), but(all, 37))), small(t))
	ok(t, l.Begin(1), l.Write(33, numbered(1)))
	give(t, l, 37, api.ErrInval)
	give(t, l, 36, api.ErrTight)
	take(t, l, 0, api.ErrTight)
	if l.Used() != 1 {
		t.Errorf("the group has %d blocks", l.Used())
	}
}

// layouts are bitmaps of one, two, three and very many blocks, with the last block's bits at their ends.
func layouts(t testing.TB) []api.Layout {
	return []api.Layout{
		small(t), layout(t, 36, 32, 1), layout(t, 400, 32, 60), layout(t, 8191, 40, 60), layout(t, 8192, 32, 60), layout(t, 8193, 32, 60),
		layout(t, 16384, 256, 65535), wide(t), layout(t, 1<<20, 256, 65535),
	}
}

// outside are numbers that are no data block's.
func outside(where api.Layout) []int {
	blocks := where.Geometry.Blocks
	ats := slices.Concat([]int{0, 1, where.NodeAt, where.BitsAt, where.DataAt - 1, blocks, blocks + 1, blocks + 2, 1 << 20, 1<<20 + 1}, alike(where.DataAt), alike(blocks-1), ends)
	return slices.DeleteFunc(ats, func(at int) bool { return at >= where.DataAt && at < blocks })
}

// P9.3, P9.4: Used and Give at both ends of the data region, on both sides of each end of a bitmap's block, and outside; with all bits set, so that a bit that stands for no data block would be found.
func TestBounds(t *testing.T) {
	for _, where := range layouts(t) {
		blocks := where.Geometry.Blocks
		w := &world{d: load(t, newImage(where, all))}
		w.l = newLog(t, w.d, where)
		free(t, w.l, 0, api.OK)
		inside := []int{where.DataAt, blocks - 1}
		for at := 8192; at < blocks; at += 8192 {
			inside = append(inside, at-1, at)
		}
		inside = slices.Compact(slices.Sorted(slices.Values(inside)))
		for _, at := range outside(where) {
			used(t, w.l, at, false, api.ErrInval)
		}
		ok(t, w.l.Begin(where.Geometry.Log-1))
		for i, at := range inside {
			if i > 25 {
				break
			}
			used(t, w.l, at, true, api.OK)
			give(t, w.l, at, api.OK)
			used(t, w.l, at, false, api.OK)
			give(t, w.l, at, api.ErrInval)
			free(t, w.l, i+1, api.OK)
		}
		changed := w.l.Used()
		for _, at := range outside(where) {
			used(t, w.l, at, false, api.ErrInval)
			give(t, w.l, at, api.ErrInval)
		}
		if w.l.Used() != changed || w.d.Made() != 0 {
			t.Errorf("%v: %d blocks changed, %d things done", where, w.l.Used(), w.d.Made())
		}
	}
}

// P9.3: Give of a block whose bit is 0, also behind a Give; nothing is changed.
func TestGiveFree(t *testing.T) {
	w := newWorld(t, small(t), but(none, 36))
	w.do(t, beginning(1), giving(35), giving(37), giving(39))
	if w.l.Used() != 0 {
		t.Errorf("the group has %d blocks", w.l.Used())
	}
	w.do(t, giving(36), giving(36), giving(36))
	w.commits(t, 34)
	w.do(t, beginning(1), giving(36))
	w.commits(t)
}

// P9.2: which block is taken, and which ones behind it, in each of the layouts.
func TestTakeLeast(t *testing.T) {
	for _, where := range layouts(t) {
		first, last := where.DataAt, where.Geometry.Blocks-1
		cases := []struct {
			name   string
			bitmap func(int) bool
			want   []int // till none is left, if there is room for it
		}{
			{"all free", none, from(first, min(5, last-first+1))},
			{"none free", all, nil},
			{"the first alone", but(all, first), []int{first}},
			{"the last alone", but(all, last), []int{last}},
			{"the last two", but(all, last, max(first, last-1)), slices.Compact([]int{max(first, last-1), last})},
			{"the first are used", below(first + 3), from(first+3, min(5, max(0, last-first-2)))},
			{"the first bytes are used", below(first + 70), from(first+70, min(5, max(0, last-first-69)))},
			{"here and there", but(all, first, first+9, last/2, last), slices.Compact(slices.Sorted(slices.Values(within(where, first, first+9, last/2, last))))},
			{"at a block's end", but(all, 8191, 8192, 16383, 16384), within(where, 8191, 8192, 16383, 16384)},
			{"in a later block of the bitmap", below(8192 + 5), within(where, from(8192+5, 5)...)},
			{"in the last block of the bitmap", below(last / 8192 * 8192), within(where, from(max(first, last/8192*8192), 5)...)},
		}
		for _, c := range cases {
			d := load(t, newImage(where, c.bitmap))
			l := newLog(t, d, where)
			ok(t, l.Begin(31))
			n, err := room.Free(l)
			ok(t, err)
			for i, at := range c.want {
				if is, _ := room.Used(l, at); is {
					t.Errorf("%d blocks, %s: %d is used", where.Geometry.Blocks, c.name, at)
				}
				got, err := room.Take(l)
				if got != at || err != api.OK {
					t.Errorf("%d blocks, %s: %d, %d, not %d", where.Geometry.Blocks, c.name, got, err, at)
				}
				used(t, l, at, true, api.OK)
				free(t, l, n-i-1, api.OK)
				if b, err := l.Read(at); b != (api.Block{}) || err != api.OK {
					t.Errorf("%d blocks, %s: %d is not noughts", where.Geometry.Blocks, c.name, at)
				}
			}
			if n == len(c.want) {
				changed := l.Used()
				take(t, l, 0, api.ErrNoSpace)
				free(t, l, 0, api.OK)
				if l.Used() != changed {
					t.Errorf("%s: Take of none changes a block", c.name)
				}
			} else if len(c.want) < 5 {
				t.Errorf("%d blocks, %s: %d are free", where.Geometry.Blocks, c.name, n)
			}
			if d.Made() != 0 {
				t.Errorf("%s: %d things done", c.name, d.Made())
			}
		}
	}
}

// within are those of the numbers that are data blocks'.
func within(where api.Layout, ats ...int) []int {
	return slices.DeleteFunc(slices.Clone(ats), func(at int) bool { return at < where.DataAt || at >= where.Geometry.Blocks })
}

// P9.2, P9.4: bits that stand for no data block, ahead of the region and behind it, set and clear: they are neither counted nor taken nor changed.
func TestOtherBits(t *testing.T) {
	for _, where := range []api.Layout{small(t), layout(t, 400, 32, 60), layout(t, 8192, 32, 60), layout(t, 8200, 32, 60)} {
		inside := func(at int) bool { return at >= where.DataAt && at < where.Geometry.Blocks }
		bitmaps := map[string]func(at int) bool{
			"ahead set":         func(at int) bool { return at < where.DataAt },
			"behind set":        func(at int) bool { return at >= where.Geometry.Blocks },
			"both set":          func(at int) bool { return !inside(at) },
			"both clear":        none,
			"data set":          inside,
			"all but behind":    func(at int) bool { return at < where.Geometry.Blocks },
			"all but ahead":     func(at int) bool { return at >= where.DataAt },
			"every second":      func(at int) bool { return at%2 == 0 },
			"data but its last": func(at int) bool { return inside(at) && at != where.Geometry.Blocks-1 },
		}
		for name, bitmap := range bitmaps {
			t.Run(name, func(t *testing.T) {
				w := newWorld(t, where, bitmap)
				last := where.Geometry.Blocks - 1
				w.do(t, beginning(9), taking(), taking(), giving(last), taking(), giving(where.DataAt), giving(where.DataAt-1), giving(last+1), taking())
				w.do(t, asking(where.DataAt), asking(where.DataAt-1), asking(last), asking(last+1))
				w.do(t, ending(), syncing())
				w.agree(t, from(where.BitsAt, where.BitsBlocks)...)
				w.onDisk(t)
			})
		}
	}
}

// P9.2: a step whose reservation is 1, 2 and 3, with the bitmap's block, the data block, both or another one changed by the step already, and with blocks that the group has from an earlier step, which count for the step anew.
func TestTight(t *testing.T) {
	const bitmap, data, other = 34, 36, 33
	cases := []struct {
		name    string
		earlier []int // changed by a step ahead
		r       int
		already []int // changed by this step
		e       api.Errno
		changed []int // by the step, behind Take
	}{
		{"1", nil, 1, nil, api.ErrTight, []int{bitmap}},
		{"1, the bitmap", nil, 1, []int{bitmap}, api.ErrTight, []int{bitmap}},
		{"1, the data", nil, 1, []int{data}, api.ErrTight, []int{data}},
		{"1, another", nil, 1, []int{other}, api.ErrTight, []int{other}},
		{"2", nil, 2, nil, api.OK, []int{bitmap, data}},
		{"2, the bitmap", nil, 2, []int{bitmap}, api.OK, []int{bitmap, data}},
		{"2, the data", nil, 2, []int{data}, api.OK, []int{data, bitmap}},
		{"2, both", nil, 2, []int{bitmap, data}, api.OK, []int{bitmap, data}},
		{"2, both, the data first", nil, 2, []int{data, bitmap}, api.OK, []int{data, bitmap}},
		{"2, another", nil, 2, []int{other}, api.ErrTight, []int{other, bitmap}},
		{"2, another and the bitmap", nil, 2, []int{other, bitmap}, api.ErrTight, []int{other, bitmap}},
		{"2, another and the data", nil, 2, []int{other, data}, api.ErrTight, []int{other, data}},
		{"2, two others", nil, 2, []int{other, 39}, api.ErrTight, []int{other, 39}},
		{"3, another", nil, 3, []int{other}, api.OK, []int{other, bitmap, data}},
		{"3, two others", nil, 3, []int{other, 39}, api.ErrTight, []int{other, 39, bitmap}},
		{"3, another and the data", nil, 3, []int{other, data}, api.OK, []int{other, data, bitmap}},
		{"1, both ahead", []int{bitmap, data}, 1, nil, api.ErrTight, []int{bitmap}},
		{"2, both ahead", []int{data, bitmap}, 2, nil, api.OK, []int{bitmap, data}},
		{"2, the bitmap ahead, another", []int{bitmap}, 2, []int{other}, api.ErrTight, []int{other, bitmap}},
		{"2, the data ahead, another", []int{data}, 2, []int{other}, api.ErrTight, []int{other, bitmap}},
	}
	for _, c := range cases {
		t.Run(c.name, func(t *testing.T) {
			w := newWorld(t, small(t), below(data))
			for _, at := range c.earlier {
				w.do(t, step(1, writing(at)))
			}
			w.do(t, beginning(c.r))
			for _, at := range c.already {
				w.do(t, writing(at))
			}
			want := data
			if c.e != api.OK {
				want = 0
			}
			was := w.changedBlocks(t)
			if at, err := room.Take(w.l); at != want || err != c.e {
				t.Errorf("Take: %d, %d, not %d, %d", at, err, want, c.e)
			}
			if c.e != api.OK && !slices.Equal(w.changedBlocks(t), was) {
				t.Error("a Take that is refused has changed bytes")
			}
			if at, err := w.a.take(); at != want || err != c.e {
				t.Fatalf("the account: %d, %d", at, err)
			}
			w.do(t, asking(data), asking(data+1))
			w.agree(t, w.changeable()...)
			w.full(t, c.changed)
			w.commits(t, compact(slices.Concat(c.earlier, c.changed))...)
		})
	}
}

// compact leaves each number once, where it stands first.
func compact(ats []int) []int {
	var out []int
	for _, at := range ats {
		if !slices.Contains(out, at) {
			out = append(out, at)
		}
	}
	return out
}

// changedBlocks are the bytes of all blocks that may change.
func (w *world) changedBlocks(t testing.TB) []api.Block {
	t.Helper()
	var out []api.Block
	for _, at := range w.changeable() {
		b, err := w.l.Read(at)
		ok(t, err)
		out = append(out, b)
	}
	return out
}

// full asks whether the open step has changed just these blocks, as many as its reservation says: they may be written again, and no other one.
func (w *world) full(t testing.TB, changed []int) {
	t.Helper()
	for _, at := range w.changeable() {
		b, err := w.l.Read(at)
		ok(t, err)
		want := api.ErrTight
		if slices.Contains(changed, at) {
			want = api.OK
		}
		if err := w.l.Write(at, b); err != want {
			t.Errorf("a write of block %d behind it: %d, not %d", at, err, want)
		}
	}
}

// P9.2: a step that ErrTight was answered goes on: what fits is still done, and Take again in a step with room is as if nothing had been.
func TestTightAndOn(t *testing.T) {
	w := newWorld(t, small(t), but(below(37), 36))
	w.do(t, beginning(1), taking(), taking(), giving(35), taking(), giving(35), asking(35))
	w.agree(t, w.changeable()...)
	w.do(t, ending(), beginning(2), taking(), taking(), giving(35), taking())
	w.agree(t, w.changeable()...)
	w.commits(t, 34, 35)
	if w.a.free() != 4 {
		t.Errorf("%d are free", w.a.free())
	}
}

// P9.2: several takes in one step: the bitmap's block counts once, as long as their bits stand in one.
func TestTightInRow(t *testing.T) {
	w := newWorld(t, small(t), none)
	w.do(t, beginning(4), taking(), taking(), taking(), taking(), giving(36), taking(), giving(37), giving(35), taking())
	w.agree(t, w.changeable()...)
	w.commits(t, 34, 35, 36, 37)

	// From one block of the bitmap to the next one.
	where := wide(t)
	for r, want := range map[int][]int{3: {8191}, 4: {8191, 8192}, 5: {8191, 8192, 8193}} {
		w = newWorld(t, where, below(8191))
		ok(t, w.l.Begin(r))
		for _, at := range want {
			take(t, w.l, at, api.OK)
		}
		next := want[len(want)-1] + 1
		take(t, w.l, 0, api.ErrTight)
		used(t, w.l, next, false, api.OK)
		free(t, w.l, where.Geometry.Blocks-next, api.OK)
		if b, err := w.l.Read(next); err != api.OK || b != w.a.now[next] {
			t.Errorf("block %d has changed", next)
		}
	}
}

// P9.3: Give where the step may change no other block, one, and where it has changed the bitmap's block already.
func TestGiveTight(t *testing.T) {
	w := newWorld(t, small(t), all)
	w.do(t, beginning(1), giving(36), giving(35), giving(39), ending())
	w.do(t, beginning(1), writing(37), giving(37), giving(36), asking(37), ending())
	w.do(t, beginning(2), writing(37), giving(37), giving(38), ending())
	w.agree(t, w.changeable()...)
	if w.a.free() != 5 {
		t.Errorf("%d are free", w.a.free())
	}
}

// P9.2, P9.3: which blocks are written, in which order, and what the disk holds behind it: block by block.
func TestWhatIsWritten(t *testing.T) {
	w := newWorld(t, small(t), below(37))
	w.do(t, beginning(5), taking())
	w.commits(t, 34, 37)
	w.do(t, beginning(5), giving(36))
	w.commits(t, 34)
	w.do(t, beginning(5), taking())
	w.commits(t, 34, 36)
	w.do(t, beginning(5), writing(33), taking(), taking(), giving(38), giving(35), taking())
	w.commits(t, 33, 34, 38, 39, 35)
	w.do(t, beginning(5), taking(), taking())
	w.commits(t, 34, 38)
	w.do(t, beginning(5), giving(38), giving(34), asking(38))
	w.commits(t, 34)
	w.do(t, beginning(5), asking(38), giving(38), giving(40))
	w.commits(t)

	// From one block of the bitmap to the next one, and back.
	where := wide(t)
	w = newWorld(t, where, below(8191))
	w.do(t, beginning(31), taking(), taking(), giving(8191), giving(5000), giving(where.DataAt))
	w.commits(t, 37, 8191, 38, 8192)
}

// P9.2, P9.3: the bytes of the bitmap's block, written out.
func TestBitmapBytes(t *testing.T) {
	where := layout(t, 400, 32, 60)
	d := load(t, newImage(where, below(39)))
	l := newLog(t, d, where)
	bytesAre := func(want ...byte) {
		t.Helper()
		var b api.Block
		copy(b[:], want)
		if got, err := l.Read(37); got != b || err != api.OK {
			t.Errorf("the bitmap is %v.., %d, not %v", got[:10], err, want)
		}
	}
	bytesAre(255, 255, 255, 255, 127)
	ok(t, l.Begin(9))
	take(t, l, 39, api.OK)
	bytesAre(255, 255, 255, 255, 255)
	take(t, l, 40, api.OK)
	bytesAre(255, 255, 255, 255, 255, 1)
	take(t, l, 41, api.OK)
	bytesAre(255, 255, 255, 255, 255, 3)
	give(t, l, 38, api.OK)
	bytesAre(255, 255, 255, 255, 191, 3)
	give(t, l, 40, api.OK)
	bytesAre(255, 255, 255, 255, 191, 2)
	take(t, l, 38, api.OK)
	bytesAre(255, 255, 255, 255, 255, 2)
}

// P9.2: a block that is taken is noughts, whatever it held: on the disk, by an earlier group, by an earlier step, by the same step, and where it was given back with bytes in it. Give leaves the bytes.
func TestNoughts(t *testing.T) {
	w := newWorld(t, small(t), none)
	w.do(t, beginning(2), writing(35), taking())
	w.agree(t, 35)
	w.commits(t, 35, 34)
	w.do(t, step(1, writing(36)), step(2, taking()))
	w.agree(t, 35, 36)
	w.do(t, step(1, writing(37)), syncing(), step(2, taking()))
	w.agree(t, 37)
	w.do(t, beginning(3), writing(36), giving(36))
	w.agree(t, 36)
	if b, _ := w.l.Read(36); b == (api.Block{}) {
		t.Error("Give has blanked the block")
	}
	w.do(t, taking())
	w.agree(t, 36)
	if b, _ := w.l.Read(36); b != (api.Block{}) {
		t.Error("a block that was taken again is not noughts")
	}
	w.commits(t, 34, 37, 36)
	// One that is noughts already is written none the less.
	w.do(t, beginning(2), giving(36))
	w.commits(t, 34)
	w.do(t, beginning(2), taking())
	w.commits(t, 34, 36)
}

// P9.1 to P9.5: all short lists of acts, in steps and outside them.
func TestShortLists(t *testing.T) {
	where := small(t)
	acts := []act{beginning(1), beginning(2), beginning(4), ending(), taking(), giving(36), giving(39), writing(37), syncing()}
	for _, bitmap := range []func(int) bool{but(below(37), 38), but(all, 36)} {
		im := newImage(where, bitmap)
		lists(len(acts), 5, func(list []int) {
			w := worldOn(t, where, im)
			for _, k := range list {
				w.do(t, acts[k])
			}
			for _, at := range from(34, 7) {
				asking(at)(t, w)
			}
			w.agree(t, from(33, 7)...)
		})
	}
}

// P9.1 to P9.5: all lists of takes and gives in a step with room for all, and in one with room for two blocks.
func TestTakesAndGives(t *testing.T) {
	where := small(t)
	acts := []act{taking(), giving(35), giving(36), giving(37), giving(39)}
	for _, r := range []int{2, 3, 31} {
		im := newImage(where, below(36))
		lists(len(acts), 6, func(list []int) {
			w := worldOn(t, where, im)
			w.do(t, beginning(r))
			for _, k := range list {
				w.do(t, acts[k])
			}
			w.agree(t, from(33, 7)...)
		})
	}
}

// P9.5: blocks come rising, till none is left; then they are given back in another order, and come again: held against a list of numbers.
func TestRising(t *testing.T) {
	where := layout(t, 300, 32, 60)
	for seed := range 4 {
		draw := rand.New(rand.NewSource(int64(seed)))
		taken := from(where.DataAt, draw.Intn(9))
		l := newLog(t, load(t, newImage(where, below(where.DataAt+len(taken)))), where)
		inStep := func(do func()) {
			ok(t, l.Begin(2))
			do()
			ok(t, l.End())
		}
		whole := where.Geometry.Blocks - where.DataAt
		for at := where.DataAt + len(taken); at < where.Geometry.Blocks; at++ {
			inStep(func() { take(t, l, at, api.OK) })
			taken = append(taken, at)
			free(t, l, whole-len(taken), api.OK)
		}
		inStep(func() { take(t, l, 0, api.ErrNoSpace) })
		draw.Shuffle(len(taken), func(i, k int) { taken[i], taken[k] = taken[k], taken[i] })
		back := slices.Clone(taken[:len(taken)/2])
		for i, at := range back {
			inStep(func() { give(t, l, at, api.OK); give(t, l, at, api.ErrInval) })
			free(t, l, i+1, api.OK)
		}
		slices.Sort(back)
		for i, at := range back {
			used(t, l, at, false, api.OK)
			inStep(func() { take(t, l, at, api.OK) })
			used(t, l, at, true, api.OK)
			free(t, l, len(back)-i-1, api.OK)
		}
		inStep(func() { take(t, l, 0, api.ErrNoSpace) })
	}
}

// P9.5: takes and gives drawn anew the same way each time, over steps and commits, held against a set kept by hand, with Free and Used asked between.
func TestLongRows(t *testing.T) {
	for seed, where := range []api.Layout{small(t), layout(t, 100, 32, 60), layout(t, 8210, 32, 60), wide(t)} {
		draw := rand.New(rand.NewSource(int64(seed)))
		first, end := where.DataAt, where.Geometry.Blocks
		span := min(end-first, 40) // those at the end that are free at the beginning
		isUsed := map[int]bool{}
		for at := first; at < end-span; at++ {
			isUsed[at] = true
		}
		d := load(t, newImage(where, below(end-span)))
		l := newLog(t, d, where)
		least := func() int {
			for at := first; at < end; at++ {
				if !isUsed[at] {
					return at
				}
			}
			return 0
		}
		ok(t, l.Begin(4))
		for i := range 1500 {
			at := end - 1 - draw.Intn(span+20)
			switch n := draw.Intn(10); {
			case n < 4:
				want, e := least(), api.OK
				if want == 0 {
					e = api.ErrNoSpace
				}
				got, err := room.Take(l)
				if err == api.ErrTight {
					ok(t, l.End(), l.Begin(4))
					got, err = room.Take(l)
				}
				if got != want || err != e {
					t.Fatalf("%d blocks, turn %d: Take: %d, %d, not %d", end, i, got, err, want)
				}
				isUsed[got] = true
				delete(isUsed, 0)
			case n < 7:
				e := api.ErrInval
				if isUsed[at] && at >= first {
					e = api.OK
				}
				err := room.Give(l, at)
				if err == api.ErrTight {
					ok(t, l.End(), l.Begin(4))
					err = room.Give(l, at)
				}
				if err != e {
					t.Fatalf("%d blocks, turn %d: Give(%d): %d, not %d", end, i, at, err, e)
				}
				delete(isUsed, at)
			case n < 8:
				ok(t, l.End(), l.Begin(1+draw.Intn(31)), l.End(), l.Begin(4))
			case n < 9:
				ok(t, l.End(), l.Sync(), l.Begin(4))
			}
			free(t, l, end-first-len(isUsed), api.OK)
			if at >= first {
				used(t, l, at, isUsed[at], api.OK)
			}
		}
	}
}

// Used and Free change nothing, and neither writes; they are told in a step and outside one.
func TestAskingIsQuiet(t *testing.T) {
	w := newWorld(t, wide(t), but(none, 40, 8191, 8192, 16400))
	ask := func() {
		for _, at := range []int{39, 40, 41, 8191, 8192, 8193, 16383, 16400, 16401} {
			w.do(t, asking(at))
		}
	}
	ask()
	w.do(t, beginning(1))
	ask()
	w.do(t, giving(8192))
	ask()
	w.do(t, writing(16400), ending())
	ask()
	if w.d.Made() != 0 || w.l.Used() != 1 || w.l.Steps() != 1 {
		t.Errorf("%d things done, %d blocks, %d steps", w.d.Made(), w.l.Used(), w.l.Steps())
	}
}

// Rule 6: two logs of two disks do not know of each other.
func TestTwoLogs(t *testing.T) {
	one, two := newWorld(t, small(t), none), newWorld(t, layout(t, 400, 40, 60), below(60))
	one.do(t, beginning(5), taking())
	two.do(t, beginning(9), taking(), taking())
	one.do(t, taking(), giving(35))
	two.do(t, giving(50), taking(), ending(), syncing(), beginning(2), taking())
	one.do(t, taking(), asking(36))
	one.d.Crash(nil)
	take(t, one.l, 0, api.ErrDead)
	two.do(t, giving(61), taking(), asking(61))
	two.agree(t, two.changeable()...)
}
