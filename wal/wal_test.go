package wal_test

import (
	"encoding/binary"
	"math"
	"math/rand"
	"slices"
	"testing"

	"undercroft/api"
	"undercroft/disk"
	"undercroft/shape"
	"undercroft/wal"
)

// numbered is a block that is quickly made, and that no other number below 2^16 has.
func numbered(n int) api.Block {
	var b api.Block
	b[0], b[1022], b[1023] = 1, byte(n), byte(n>>8)
	return b
}

// first is what block at of a disk holds at the beginning: the header is blank.
func first(where api.Layout, at int) api.Block {
	if at == where.LogAt {
		return api.Block{}
	}
	return numbered(20000 + at)
}

// layout is a layout that may be.
func layout(t testing.TB, blocks, log, inodes int) api.Layout {
	t.Helper()
	where, err := shape.Of(api.Geometry{Blocks: blocks, Log: log, Inodes: inodes})
	if err != api.OK {
		t.Fatalf("a layout of %d, %d, %d: %d", blocks, log, inodes, err)
	}
	return where
}

// small is the least layout but for its data region: the log is 1 to 32, the inodes 33, the bitmap 34, the data 35 to 39.
func small(t testing.TB) api.Layout {
	t.Helper()
	return layout(t, 40, 32, 1)
}

// newDisk is a disk whose blocks are told from each other, more blank ones behind the layout's, and the header set.
func newDisk(t testing.TB, where api.Layout, more int, header api.Block) *disk.Disk {
	t.Helper()
	im := api.Image{Blocks: where.Geometry.Blocks + more}
	for at := range where.Geometry.Blocks {
		b := first(where, at)
		if at == where.LogAt {
			b = header
		}
		if b != (api.Block{}) {
			im.Data = append(im.Data, api.Held{Index: at, Data: b})
		}
	}
	return load(t, im)
}

func load(t testing.TB, im api.Image) *disk.Disk {
	t.Helper()
	d, err := disk.Load(im)
	if err != api.OK {
		t.Fatalf("a disk of %d blocks: %d", im.Blocks, err)
	}
	return d
}

func newLog(t testing.TB, d *disk.Disk, where api.Layout) *wal.Log {
	t.Helper()
	l, err := wal.New(d, where)
	if err != api.OK || l == nil {
		t.Fatalf("New: %v, %d", l, err)
	}
	return l
}

// stop has a disk stop, without a write.
func stop(t testing.TB, d *disk.Disk) {
	t.Helper()
	d.Fuse(0)
	if err := d.Barrier(); err != api.ErrDead || !d.Stopped() {
		t.Fatalf("a disk that is to stop: %d", err)
	}
}

// header is the block of a header that names these blocks, whether it may or not.
func header(targets ...int) api.Block { return longHeader(len(targets), targets...) }

// longHeader says that it names n blocks.
func longHeader(n int, targets ...int) api.Block {
	var b api.Block
	binary.LittleEndian.PutUint32(b[:], uint32(n))
	for i, at := range targets {
		binary.LittleEndian.PutUint32(b[4*(i+1):], uint32(at))
	}
	return b
}

func write(at int, b api.Block) api.Op { return api.Op{Kind: api.OpWrite, At: at, Data: b} }

var barrier = api.Op{Kind: api.OpBarrier}

// account is a log and its disk by the document's words, with lists that are gone over from their beginning.
type account struct {
	where   api.Layout
	now     []api.Block // what Read tells of each block
	group   []int
	step    []int // what the open step has changed
	open    bool
	r       int
	commits int
	steps   int
	gone    api.Errno // ErrNil: closed; ErrDead: dead
	ops     []api.Op  // what was done to the disk since the power came
	fuse    int       // below 0: none
	stopped bool
}

func newAccount(where api.Layout) *account {
	a := &account{where: where, fuse: -1, now: make([]api.Block, where.Geometry.Blocks)}
	for at := range a.now {
		a.now[at] = first(where, at)
	}
	return a
}

// do is one thing that is done to the disk.
func (a *account) do(op api.Op) bool {
	if a.fuse == 0 {
		a.stopped = true
		a.die()
		return false
	}
	a.fuse--
	a.ops = append(a.ops, op)
	if op.Kind == api.OpWrite {
		a.now[op.At] = op.Data
	}
	return true
}

func (a *account) die() {
	if a.gone == api.OK {
		a.gone = api.ErrDead
	}
}

// commitOps are the things that DOC.md's 'The log' says of a commit, in order.
func commitOps(where api.Layout, group []int, of func(at int) api.Block) []api.Op {
	var ops []api.Op
	for i, at := range group {
		ops = append(ops, write(where.LogAt+1+i, of(at)))
	}
	ops = append(ops, barrier, write(where.LogAt, header(group...)), barrier)
	for _, at := range group {
		ops = append(ops, write(at, of(at)))
	}
	return append(ops, barrier, write(where.LogAt, api.Block{}), barrier)
}

func (a *account) commit() api.Errno {
	for _, op := range commitOps(a.where, a.group, func(at int) api.Block { return a.now[at] }) {
		if !a.do(op) {
			return api.ErrDead
		}
	}
	a.commits++
	a.group = nil
	return api.OK
}

func (a *account) begin(r int) api.Errno {
	log := a.where.Geometry.Log
	switch {
	case a.gone != api.OK:
		return a.gone
	case a.open:
		return api.ErrStep
	case r < 1 || r > log-1:
		return api.ErrArg
	}
	if len(a.group)+r > log-1 && a.commit() != api.OK {
		return api.ErrDead
	}
	a.open, a.r, a.step = true, r, nil
	return api.OK
}

func (a *account) end() api.Errno {
	switch {
	case a.gone != api.OK:
		return a.gone
	case !a.open:
		return api.ErrStep
	}
	a.open = false
	a.steps++
	return api.OK
}

func (a *account) read(at int) (api.Block, api.Errno) {
	switch {
	case a.gone != api.OK:
		return api.Block{}, a.gone
	case at < 0 || at > len(a.now)-1:
		return api.Block{}, api.ErrArg
	}
	return a.now[at], api.OK
}

func (a *account) write(at int, b api.Block) api.Errno {
	where := a.where
	switch {
	case a.gone != api.OK:
		return a.gone
	case !a.open:
		return api.ErrStep
	case at == 0 || (at >= where.LogAt && at <= where.LogAt+where.Geometry.Log-1) || at < 0 || at > where.Geometry.Blocks-1:
		return api.ErrArg
	case !slices.Contains(a.step, at) && len(a.step) == a.r:
		return api.ErrTight
	}
	a.now[at] = b
	if !slices.Contains(a.step, at) {
		a.step = append(a.step, at)
	}
	if !slices.Contains(a.group, at) {
		a.group = append(a.group, at)
	}
	return api.OK
}

func (a *account) sync() api.Errno {
	switch {
	case a.gone != api.OK:
		return a.gone
	case a.open:
		return api.ErrStep
	case len(a.group) == 0:
		return api.OK
	}
	return a.commit()
}

func (a *account) close() api.Errno {
	err := a.sync()
	if err == api.OK {
		a.gone = api.ErrNil
	}
	return err
}

// world is a disk, a log of it, and what the document says of both.
type world struct {
	d     *disk.Disk
	l     *wal.Log
	a     *account
	count int // acts so far: no two writes are of the same bytes
}

func newWorld(t testing.TB, where api.Layout) *world {
	t.Helper()
	return worldOn(t, where, newDisk(t, where, 2, api.Block{}))
}

func worldOn(t testing.TB, where api.Layout, d *disk.Disk) *world {
	t.Helper()
	return &world{d: d, l: newLog(t, d, where), a: newAccount(where)}
}

type act func(t testing.TB, w *world)

func beginning(r int) act {
	return func(t testing.TB, w *world) {
		err := w.l.Begin(r)
		if e := w.a.begin(r); err != e {
			t.Fatalf("act %d: Begin(%d): %d, not %d", w.count, r, err, e)
		}
	}
}

func ending() act {
	return func(t testing.TB, w *world) {
		err := w.l.End()
		if e := w.a.end(); err != e {
			t.Fatalf("act %d: End: %d, not %d", w.count, err, e)
		}
	}
}

func reading(at int) act {
	return func(t testing.TB, w *world) {
		b, err := w.l.Read(at)
		want, e := w.a.read(at)
		if b != want || err != e {
			t.Fatalf("act %d: Read(%d): %v.., %d, not %v.., %d", w.count, at, b[1020:], err, want[1020:], e)
		}
	}
}

func writing(at int) act {
	return func(t testing.TB, w *world) { w.write(t, at, numbered(w.count)) }
}

// blanking is a write of noughts.
func blanking(at int) act {
	return func(t testing.TB, w *world) { w.write(t, at, api.Block{}) }
}

func (w *world) write(t testing.TB, at int, b api.Block) {
	err := w.l.Write(at, b)
	if e := w.a.write(at, b); err != e {
		t.Fatalf("act %d: Write(%d): %d, not %d", w.count, at, err, e)
	}
}

func syncing() act {
	return func(t testing.TB, w *world) {
		err := w.l.Sync()
		if e := w.a.sync(); err != e {
			t.Fatalf("act %d: Sync: %d, not %d", w.count, err, e)
		}
	}
}

func closing() act {
	return func(t testing.TB, w *world) {
		err := w.l.Close()
		if e := w.a.close(); err != e {
			t.Fatalf("act %d: Close: %d, not %d", w.count, err, e)
		}
	}
}

func fusing(n int) act {
	return func(t testing.TB, w *world) {
		w.d.Fuse(n)
		if !w.a.stopped {
			w.a.fuse = n
		}
	}
}

// claiming is somebody else's claim.
func claiming() act {
	return func(t testing.TB, w *world) {
		w.d.Claim()
		w.a.die()
	}
}

// crashing has the power go, all that is pending being kept.
func crashing() act {
	return func(t testing.TB, w *world) {
		w.d.Crash(all(len(w.d.Pending())))
		w.a.ops, w.a.fuse, w.a.stopped = nil, -1, false
		w.a.die()
	}
}

// do makes acts, and asks behind each whether all is as the account has it. (No t.Helper here and in what it calls: it takes longer than the acts.)
func (w *world) do(t testing.TB, acts ...act) {
	for _, do := range acts {
		w.count++
		do(t, w)
		w.agree(t)
	}
}

// agree asks for all that is told without a change.
func (w *world) agree(t testing.TB) {
	a, want := w.a, w.a
	if a.gone != api.OK {
		want = &account{}
	}
	if w.l.Check() != a.gone || w.l.Layout() != want.where {
		t.Fatalf("behind act %d: Check: %d, not %d; %v", w.count, w.l.Check(), a.gone, w.l.Layout())
	}
	if w.l.Used() != len(want.group) || w.l.Open() != want.open || w.l.Commits() != want.commits || w.l.Steps() != want.steps {
		t.Fatalf("behind act %d: Used %d, Open %t, Commits %d, Steps %d, not %d, %t, %d, %d", w.count, w.l.Used(), w.l.Open(), w.l.Commits(), w.l.Steps(), len(want.group), want.open, want.commits, want.steps)
	}
	if w.d.Stopped() != a.stopped {
		t.Fatalf("behind act %d: the disk has stopped: %t", w.count, w.d.Stopped())
	}
}

// written asks whether that was done to the disk which the account has, byte for byte.
func (w *world) written(t testing.TB) {
	sameOps(t, w.d.History(), w.a.ops)
}

func sameOps(t testing.TB, got, want []api.Op) {
	if slices.Equal(got, want) {
		return
	}
	t.Helper()
	for i := range min(len(got), len(want)) {
		if got[i] != want[i] {
			t.Fatalf("thing %d that was done is kind %d at %d, not kind %d at %d; or its bytes are others", i, got[i].Kind, got[i].At, want[i].Kind, want[i].At)
		}
	}
	t.Fatalf("%d things were done, not %d", len(got), len(want))
}

// allBlocks asks for all blocks, as the last thing that is done.
func (w *world) allBlocks(t testing.TB) {
	for at := range w.a.now {
		reading(at)(t, w)
	}
	w.agree(t)
}

// step is a step that changes blocks, each once.
func step(r int, ats ...int) act {
	return func(t testing.TB, w *world) {
		w.do(t, beginning(r))
		for _, at := range ats {
			w.do(t, writing(at))
		}
		w.do(t, ending())
	}
}

// from are n numbers that follow each other.
func from(at, n int) []int {
	ats := make([]int, n)
	for i := range ats {
		ats[i] = at + i
	}
	return ats
}

// all are n times true.
func all(n int) []bool {
	keep := make([]bool, n)
	for i := range keep {
		keep[i] = true
	}
	return keep
}

// lists goes over all lists of so many numbers below n.
func lists(n, length int, do func(list []int)) {
	list := make([]int, length)
	var more func(i int)
	more = func(i int) {
		if i == length {
			do(list)
			return
		}
		for list[i] = range n {
			more(i + 1)
		}
	}
	more(0)
}

var ends = []int{math.MinInt, math.MinInt + 1, -4096, -2, -1, math.MaxInt - 1, math.MaxInt}

// alike are numbers that are like n in their lower 32 or 16 bits, as far as int has more.
func alike(n int) []int {
	wide := 1
	wide <<= 32
	var out []int
	for _, m := range []int{n + wide, n - wide, n + 1<<16, n - 1<<16} {
		if m != n {
			out = append(out, m)
		}
	}
	return out
}

// allLists makes all lists of so many acts behind a beginning: each answer and each thing that is done to the disk.
func allLists(t *testing.T, length int, beginning, acts []act) {
	where := small(t)
	im := newDisk(t, where, 2, api.Block{}).Image()
	lists(len(acts), length, func(list []int) {
		w := worldOn(t, where, load(t, im))
		w.do(t, beginning...)
		for _, k := range list {
			w.do(t, acts[k])
		}
		w.written(t)
		for _, at := range []int{0, 1, 2, 3, 35, 36, 37, 39} {
			reading(at)(t, w)
		}
	})
}

// P8.1, P8.2: all short lists of acts on a new log.
func TestShortLists(t *testing.T) {
	allLists(t, 5, nil, []act{beginning(1), beginning(31), ending(), writing(36), writing(35), syncing(), fusing(2), crashing()})
}

// P8.1, P8.2: all short lists where a step is open, and the group has blocks of another one.
func TestShortListsInGroup(t *testing.T) {
	ahead := []act{beginning(2), writing(35), writing(39), ending(), beginning(2)}
	allLists(t, 4, ahead, []act{beginning(1), beginning(2), beginning(30), ending(), writing(36), writing(35), blanking(37), syncing(), closing(), fusing(5), claiming()})
}

// P8.1, P8.2: long lists of acts, drawn anew the same way each time.
func TestLongLists(t *testing.T) {
	layouts := []api.Layout{small(t), layout(t, 120, 32, 60), layout(t, 700, 256, 200)}
	for seed := range 60 {
		draw := rand.New(rand.NewSource(int64(seed)))
		where := layouts[seed%len(layouts)]
		w := newWorld(t, where)
		near := from(where.NodeAt, 1+draw.Intn(where.Geometry.Blocks-where.NodeAt)) // what is written again and again
		for range 400 {
			switch n := draw.Intn(40); {
			case n < 22:
				w.do(t, writing(near[draw.Intn(len(near))]))
			case n < 25:
				w.do(t, ending())
			case n < 29:
				w.do(t, beginning(1+draw.Intn(where.Geometry.Log)))
			case n < 30:
				w.do(t, syncing())
			case n < 31:
				w.do(t, writing(draw.Intn(where.Geometry.Blocks+2)-1))
			case n < 32:
				w.do(t, blanking(near[0]))
			default:
				w.do(t, reading(draw.Intn(where.Geometry.Blocks+2)-1))
			}
		}
		w.allBlocks(t)
		w.written(t)
	}
}

// Chapter 8's examples 1 to 3.
func TestExamples(t *testing.T) {
	where := layout(t, 400, 32, 60)
	d := newDisk(t, where, 0, api.Block{})
	l := newLog(t, d, where)
	ok := func(errs ...api.Errno) {
		t.Helper()
		for i, err := range errs {
			if err != api.OK {
				t.Fatalf("call %d: %d", i, err)
			}
		}
	}
	ok(l.Begin(23), l.Write(40, numbered(1)), l.Write(41, numbered(2)), l.Write(40, numbered(3)), l.End())
	if l.Used() != 2 || l.Steps() != 1 || l.Commits() != 0 || d.Made() != 0 {
		t.Errorf("a step: Used %d, Steps %d, Commits %d, %d things", l.Used(), l.Steps(), l.Commits(), d.Made())
	}
	ok(l.Begin(29), l.End())
	if d.Made() != 0 || l.Commits() != 0 || l.Used() != 2 {
		t.Error("2 and 29 are 31: there was a commit")
	}
	ok(l.Begin(30))
	sameOps(t, d.History(), []api.Op{
		write(2, numbered(3)), write(3, numbered(2)), barrier,
		write(1, api.Block{2, 0, 0, 0, 40, 0, 0, 0, 41}), barrier,
		write(40, numbered(3)), write(41, numbered(2)), barrier,
		write(1, api.Block{}), barrier,
	})
	if d.Made() != 10 || l.Used() != 0 || l.Commits() != 1 {
		t.Errorf("behind the commit: %d things, Used %d, Commits %d", d.Made(), l.Used(), l.Commits())
	}

	l = newLog(t, d, where)
	if l.Begin(32) != api.ErrArg || l.End() != api.ErrStep || l.Write(40, numbered(1)) != api.ErrStep {
		t.Error("without a step")
	}
	ok(l.Begin(2))
	for _, at := range []int{0, 1, 32, 400} {
		if err := l.Write(at, numbered(1)); err != api.ErrArg {
			t.Errorf("Write(%d): %d", at, err)
		}
	}
	ok(l.Write(33, numbered(1)), l.End())

	ok(l.Begin(1), l.Write(50, numbered(1)), l.Write(50, numbered(2)))
	if err := l.Write(51, numbered(1)); err != api.ErrTight {
		t.Errorf("a second block: %d", err)
	}
	ok(l.End())
}

// Chapter 8's examples 4 to 6.
func TestExamplesOfPower(t *testing.T) {
	where := layout(t, 400, 32, 60)
	for _, x := range []struct {
		fuse int
		keep []bool
		n    int
	}{{3, nil, 0}, {3, []bool{true, true, true}, 0}, {4, []bool{true}, 2}, {4, []bool{false}, 0}} {
		d := newDisk(t, where, 0, api.Block{})
		w := worldOn(t, where, d)
		w.do(t, step(2, 40, 41), fusing(x.fuse), syncing())
		if w.a.gone != api.ErrDead {
			t.Fatalf("a fuse of %d", x.fuse)
		}
		d.Crash(x.keep)
		n, err := wal.Recover(d, where)
		if n != x.n || err != api.OK {
			t.Errorf("a fuse of %d, %v: Recover %d, %d", x.fuse, x.keep, n, err)
		}
		for _, at := range []int{40, 41} {
			b, _ := d.Read(at)
			if want := map[int]api.Block{0: first(where, at), 2: w.a.now[at]}[x.n]; b != want {
				t.Errorf("a fuse of %d, %v: block %d is not as it should be", x.fuse, x.keep, at)
			}
		}
	}

	d := newDisk(t, where, 0, header(5))
	n, err := wal.Recover(d, where)
	l, e := wal.New(d, where)
	if n != 0 || err != api.ErrInval || l != nil || e != api.ErrInval {
		t.Errorf("no header: Recover %d, %d; New %d", n, err, e)
	}
	d = newDisk(t, where, 0, header(50, 60))
	if l, e = wal.New(d, where); l != nil || e != api.ErrInval {
		t.Errorf("a header with two blocks: New %d", e)
	}
	if n, err = wal.Recover(d, where); n != 2 || err != api.OK {
		t.Errorf("a header with two blocks: Recover %d, %d", n, err)
	}

	w := worldOn(t, where, newDisk(t, where, 0, api.Block{}))
	w.do(t, step(3, 50, 51), crashing())
	if w.l.Check() != api.ErrDead || w.l.Used() != 0 {
		t.Error("the log of a disk whose power went")
	}
	refusesAll(t, w.l, api.ErrDead)
}

// refusesAll asks everything of a log that is none any more.
func refusesAll(t testing.TB, l *wal.Log, want api.Errno) {
	t.Helper()
	calls := func(n int) []api.Errno {
		b, err := l.Read(n)
		if b != (api.Block{}) {
			t.Errorf("Read(%d) tells bytes", n)
		}
		return []api.Errno{l.Check(), l.Begin(n), l.End(), err, l.Write(n, numbered(n)), l.Sync(), l.Close()}
	}
	for range 2 { // also behind calls that would have changed a log
		for _, n := range append([]int{0, 1, 2, 31, 32, 33, 40, 400}, ends...) {
			for i, err := range calls(n) {
				if err != want {
					t.Errorf("call %d, with %d: %d, not %d", i, n, err, want)
				}
			}
		}
		if l.Layout() != (api.Layout{}) || l.Used() != 0 || l.Open() || l.Commits() != 0 || l.Steps() != 0 {
			t.Errorf("something is told: %v, %d, %t, %d, %d", l.Layout(), l.Used(), l.Open(), l.Commits(), l.Steps())
		}
	}
}

// lively is a log of which each number is another than 0, perhaps with a step open.
func lively(t testing.TB, open bool) *world {
	t.Helper()
	w := newWorld(t, small(t))
	w.do(t, step(2, 35, 36), syncing(), step(3, 36, 37))
	if open {
		w.do(t, beginning(2), writing(38))
	}
	return w
}

// Rule 4: a log that is nil, or that New did not make, a copy too; what is asked of it changes nothing of the log.
func TestNoLog(t *testing.T) {
	var none *wal.Log
	refusesAll(t, none, api.ErrNil)
	refusesAll(t, &wal.Log{}, api.ErrNil)
	refusesAll(t, new(wal.Log), api.ErrNil)
	for _, open := range []bool{false, true} {
		w := lively(t, open)
		copied := *w.l
		refusesAll(t, &copied, api.ErrNil)
		w.agree(t)
		w.written(t)
		w.allBlocks(t)
		w.do(t, ending(), writing(39), syncing(), step(1, 39), syncing())
		w.written(t)
		stop(t, w.d)
		refusesAll(t, &copied, api.ErrNil)
		again := *w.l
		refusesAll(t, &again, api.ErrNil)
		refusesAll(t, w.l, api.ErrDead)
	}
}

// P8.1: a closed log is as one that New did not make, also when its disk stops, or belongs to somebody else.
func TestClosedLog(t *testing.T) {
	w := lively(t, false)
	w.do(t, closing())
	refusesAll(t, w.l, api.ErrNil)
	w.written(t)
	if !w.d.Claimed(1) {
		t.Error("the disk's claim did not stay as it was")
	}
	made := w.d.Made()
	stop(t, w.d)
	refusesAll(t, w.l, api.ErrNil)
	w.d.Crash(nil)
	refusesAll(t, w.l, api.ErrNil)
	next := newLog(t, w.d, w.a.where)
	refusesAll(t, w.l, api.ErrNil)
	if next.Check() != api.OK || w.d.Made() != made {
		t.Error("a closed log did something")
	}
	for at := range w.a.now {
		if b, err := next.Read(at); b != w.a.now[at] || err != api.OK {
			t.Errorf("the next log: Read(%d): %d", at, err)
		}
	}
}

// P8.1, P8.5: a log is dead by a disk that has stopped, by the power, and by another claim; it is so for good, and nothing is written.
func TestDeadLog(t *testing.T) {
	where := small(t)
	ways := []func(w *world){
		func(w *world) { stop(t, w.d) },
		func(w *world) { w.d.Crash(nil) },
		func(w *world) { w.d.Claim() },
		func(w *world) { newLog(t, w.d, where) },
	}
	for i, way := range ways {
		for _, open := range []bool{false, true} {
			w := lively(t, open)
			way(w)
			made := w.d.Made()
			refusesAll(t, w.l, api.ErrDead)
			stop(t, w.d)
			refusesAll(t, w.l, api.ErrDead)
			w.d.Crash(nil)
			refusesAll(t, w.l, api.ErrDead)
			next := newLog(t, w.d, where)
			refusesAll(t, w.l, api.ErrDead)
			if w.d.Made() != made {
				t.Errorf("way %d: a dead log wrote", i)
			}
			if next.Check() != api.OK || next.Used() != 0 || next.Open() || next.Commits() != 0 || next.Steps() != 0 || next.Layout() != where {
				t.Errorf("way %d: the next log", i)
			}
			for at := range w.a.now {
				want := w.a.now[at]
				if slices.Contains(w.a.group, at) { // written since the commit
					want = map[int]api.Block{36: numbered(4), 37: first(where, 37), 38: first(where, 38)}[at]
				}
				if b, err := next.Read(at); b != want || err != api.OK {
					t.Errorf("way %d: the next log: Read(%d): %v.., %d", i, at, b[1020:], err)
				}
			}
		}
	}
}

// P8.1, rule 7: a log that lives stays so while others ask, are refused, recover, or use other disks.
func TestLivesOn(t *testing.T) {
	w := lively(t, true)
	where := w.a.where
	bad := where
	bad.DataAt++
	if l, err := wal.New(w.d, bad); l != nil || err != api.ErrArg {
		t.Errorf("New: %d", err)
	}
	if n, err := wal.Recover(w.d, where); n != 0 || err != api.OK {
		t.Errorf("Recover: %d, %d", n, err)
	}
	if l, err := wal.New(nil, where); l != nil || err != api.ErrNil {
		t.Errorf("New: %d", err)
	}
	other := lively(t, false)
	stop(t, other.d)
	other.d.Crash(nil)
	w.agree(t)
	w.do(t, writing(39), ending(), syncing())
	w.allBlocks(t)
	w.written(t)

	// A header that names blocks has New refused: the claim is not over.
	if err := w.d.Write(1, header(35)); err != api.OK {
		t.Fatal(err)
	}
	if l, err := wal.New(w.d, where); l != nil || err != api.ErrInval {
		t.Errorf("New: %d", err)
	}
	if w.l.Check() != api.OK || !w.d.Claimed(1) {
		t.Error("New that was refused claimed the disk")
	}
}

// P8.1: Recover claims nothing: neither is a claim over, nor is there one where there was none.
func TestRecoverClaimsNothing(t *testing.T) {
	where := small(t)
	for _, h := range []api.Block{{}, header(35, 36)} {
		d := newDisk(t, where, 0, h)
		mine := d.Claim()
		for range 2 {
			if _, err := wal.Recover(d, where); err != api.OK {
				t.Fatalf("Recover: %d", err)
			}
		}
		if !d.Claimed(mine) || d.Claim() != mine+1 {
			t.Error("Recover claimed the disk")
		}
		d.Crash(nil)
		wal.Recover(d, where)
		if d.Claimed(mine) || d.Claimed(mine+1) || d.Claim() != mine+2 {
			t.Error("Recover claimed a disk that nobody had claimed")
		}
	}
}

// P8.1: New claims the disk once, and does nothing else to it; the log begins with nothing.
func TestNew(t *testing.T) {
	for _, where := range []api.Layout{small(t), layout(t, 36, 32, 1), layout(t, 36, 32, 15), layout(t, 400, 32, 60), layout(t, 300, 256, 100), layout(t, 300, 255, 100)} {
		for _, more := range []int{0, 1, 100} {
			d := newDisk(t, where, more, api.Block{})
			w := worldOn(t, where, d)
			w.agree(t)
			if d.Made() != 0 || len(d.Pending()) != 0 || d.Stopped() || !d.Claimed(1) || d.Claim() != 2 {
				t.Errorf("New of %v did something to the disk but claim it", where)
			}
		}
	}
}

// P8.1: no disk, ahead of whatever the layout is.
func TestNoDisk(t *testing.T) {
	where := small(t)
	bad := where
	bad.LogAt++
	stopped := newDisk(t, where, 0, header(1))
	stop(t, stopped)
	copied, copiedStopped := *newDisk(t, where, 0, api.Block{}), *stopped
	var none *disk.Disk
	for i, d := range []*disk.Disk{none, {}, new(disk.Disk), &copied, &copiedStopped} {
		for _, lay := range []api.Layout{where, bad, {}} {
			n, err := wal.Recover(d, lay)
			l, e := wal.New(d, lay)
			if n != 0 || err != api.ErrNil || l != nil || e != api.ErrNil {
				t.Errorf("disk %d: Recover %d, %d; New %v, %d", i, n, err, l, e)
			}
		}
	}
}

// fields are a layout's numbers.
func fields(where *api.Layout) []*int {
	g := &where.Geometry
	return []*int{&g.Blocks, &g.Log, &g.Inodes, &where.LogAt, &where.NodeAt, &where.NodeBlocks, &where.BitsAt, &where.BitsBlocks, &where.DataAt}
}

// refusesLayout asks that neither Recover nor New takes a layout, and that the disk is left alone.
func refusesLayout(t *testing.T, d *disk.Disk, lay api.Layout) {
	t.Helper()
	made, reads := d.Made(), d.Reads()
	n, err := wal.Recover(d, lay)
	l, e := wal.New(d, lay)
	if n != 0 || err != api.ErrArg || l != nil || e != api.ErrArg {
		t.Errorf("%v: Recover %d, %d; New %v, %d", lay, n, err, l, e)
	}
	if d.Made() != made || d.Reads() != reads || d.Claimed(1) {
		t.Errorf("%v: something was done to the disk", lay)
	}
}

// P8.1: layouts of which one number is another than shape tells, also one that is like it in its lower bits.
func TestLayouts(t *testing.T) {
	for _, where := range []api.Layout{small(t), layout(t, 400, 32, 60), layout(t, 9000, 256, 500)} {
		for _, h := range []api.Block{{}, header(where.NodeAt), longHeader(-1)} {
			d := newDisk(t, where, 100, h)
			stopped := newDisk(t, where, 100, h)
			stop(t, stopped)
			for i := range fields(&where) {
				n := *fields(&where)[i]
				for _, m := range slices.Concat([]int{n - 1, n + 1, 0, -n, 1 << 20, 1<<20 + 1}, alike(n), ends) {
					lay := where
					*fields(&lay)[i] = m
					if told, err := shape.Of(lay.Geometry); lay == where || (err == api.OK && told == lay) {
						continue // that one may be
					}
					refusesLayout(t, d, lay)
					refusesLayout(t, stopped, lay)
				}
			}
			refusesLayout(t, d, api.Layout{})
		}
	}
}

// P8.1: a geometry that may be, on a disk that has fewer blocks: its Blocks are at most the disk's.
func TestLayoutAboveDisk(t *testing.T) {
	for _, blocks := range []int{36, 37, 400, 8192, 8193} {
		where := layout(t, blocks, 32, 15)
		for _, less := range []int{1, 2, blocks - 2, blocks - 1} {
			d, err := disk.New(blocks - less)
			if err != api.OK {
				t.Fatal(err)
			}
			refusesLayout(t, d, where)
			stop(t, d)
			refusesLayout(t, d, where)
		}
		for _, more := range []int{0, 1, 2, 1000} {
			d, err := disk.New(blocks + more)
			if err != api.OK {
				t.Fatal(err)
			}
			if n, err := wal.Recover(d, where); n != 0 || err != api.OK {
				t.Errorf("%d blocks of %d: Recover %d, %d", blocks, blocks+more, n, err)
			}
			newLog(t, d, where)
		}
	}
}

// P8.1: a disk that has stopped, ahead of what its header is.
func TestStoppedDisk(t *testing.T) {
	where := small(t)
	for _, h := range []api.Block{{}, header(35), longHeader(-1), header(0)} {
		d := newDisk(t, where, 0, h)
		stop(t, d)
		n, err := wal.Recover(d, where)
		l, e := wal.New(d, where)
		if n != 0 || err != api.ErrDead || l != nil || e != api.ErrDead {
			t.Errorf("Recover %d, %d; New %v, %d", n, err, l, e)
		}
		d.Crash(nil)
		if d.Made() != 0 || d.Claim() != 1 {
			t.Error("something was done to a disk that has stopped")
		}
	}
}

// P8.1, P8.5: headers that are none, for one reason each: ErrInval, and nothing is written.
func TestHeadersThatAreNone(t *testing.T) {
	for _, where := range []api.Layout{small(t), layout(t, 400, 32, 60), layout(t, 600, 256, 60)} {
		log, blocks := where.Geometry.Log, where.Geometry.Blocks
		from := where.NodeAt
		bad := []api.Block{
			longHeader(log), longHeader(log + 1), longHeader(math.MaxInt32), longHeader(math.MinInt32), longHeader(-1), longHeader(1 << 16), longHeader(1 << 24),
			header(0), header(1), header(where.LogAt + 1), header(from - 1), header(blocks), header(blocks + 1), header(-1), header(math.MinInt32), header(math.MaxInt32),
			header(from + 1<<16), header(from + 1<<24),
			header(from, from), header(from, from+1, from), header(from, 0), header(from, blocks), header(from, from-1),
			longHeader(2, from),         // the second one is block 0
			longHeader(3, from, from+1), // the third one is
		}
		for i, h := range bad {
			for _, more := range []int{0, 100} {
				d := newDisk(t, where, more, h)
				n, err := wal.Recover(d, where)
				l, e := wal.New(d, where)
				if n != 0 || err != api.ErrInval || l != nil || e != api.ErrInval {
					t.Errorf("header %d: Recover %d, %d; New %v, %d", i, n, err, l, e)
				}
				if d.Made() != 0 || d.Claim() != 1 {
					t.Errorf("header %d: something was done to the disk", i)
				}
			}
		}
	}
}

// P8.1, P8.4, P8.5: headers that name no block, whatever stands behind: nothing is written, and New makes a log.
func TestHeadersWithoutBlocks(t *testing.T) {
	where := small(t)
	last := api.Block{}
	last[1023] = 1
	for i, h := range []api.Block{{}, longHeader(0, 35, 36), longHeader(0, 0, 1, -1), last} {
		d := newDisk(t, where, 0, h)
		if n, err := wal.Recover(d, where); n != 0 || err != api.OK {
			t.Errorf("header %d: Recover %d, %d", i, n, err)
		}
		l := newLog(t, d, where)
		if d.Made() != 0 || !d.Claimed(1) {
			t.Errorf("header %d: something was written, or nothing claimed", i)
		}
		if b, err := l.Read(1); b != h || err != api.OK {
			t.Errorf("header %d: Read of the header: %d", i, err)
		}
	}
}

// shuffled are n blocks that a header may name, the region's ends among them, in no order.
func shuffled(where api.Layout, n int) []int {
	draw := rand.New(rand.NewSource(int64(n)))
	ats := from(where.NodeAt, where.Geometry.Blocks-where.NodeAt)
	draw.Shuffle(len(ats), func(i, j int) { ats[i], ats[j] = ats[j], ats[i] })
	return ats[:n]
}

// P8.1, P8.4: Recover of headers that name blocks: what is written, barrier by barrier; again: 0, and nothing is written.
func TestRecover(t *testing.T) {
	for _, where := range []api.Layout{layout(t, 100, 32, 60), layout(t, 600, 256, 60)} {
		most := where.Geometry.Log - 1
		groups := [][]int{{where.NodeAt}, {where.Geometry.Blocks - 1}, {where.Geometry.Blocks - 1, where.BitsAt, where.NodeAt, where.DataAt}}
		for _, n := range []int{1, 2, 3, 5, most - 1, most} {
			groups = append(groups, shuffled(where, n))
		}
		for _, group := range groups {
			for _, more := range []int{0, 7} {
				recovers(t, where, more, group)
			}
		}
	}
}

func recovers(t *testing.T, where api.Layout, more int, group []int) {
	t.Helper()
	d := newDisk(t, where, more, header(group...))
	if l, err := wal.New(d, where); l != nil || err != api.ErrInval || d.Made() != 0 {
		t.Fatalf("New: %d", err)
	}
	n, err := wal.Recover(d, where)
	if n != len(group) || err != api.OK {
		t.Fatalf("Recover of %d blocks: %d, %d", len(group), n, err)
	}
	var ops []api.Op
	for i, at := range group {
		ops = append(ops, write(at, first(where, where.LogAt+1+i)))
	}
	ops = append(ops, barrier, write(where.LogAt, api.Block{}), barrier)
	sameOps(t, d.History(), ops)
	if n, err = wal.Recover(d, where); n != 0 || err != api.OK || d.Made() != len(ops) {
		t.Fatalf("Recover again: %d, %d", n, err)
	}
	l := newLog(t, d, where)
	for at := range where.Geometry.Blocks {
		want := first(where, at)
		if i := slices.Index(group, at); i >= 0 {
			want = first(where, where.LogAt+1+i)
		}
		if b, err := l.Read(at); b != want || err != api.OK {
			t.Fatalf("Read(%d) behind Recover: %d", at, err)
		}
	}
}

// P8.1: Recover goes by what was written last, whether a barrier stands behind it or not, and so does New.
func TestPendingHeader(t *testing.T) {
	where := small(t)
	d := newDisk(t, where, 0, header(35))
	d.Write(1, api.Block{})
	if n, err := wal.Recover(d, where); n != 0 || err != api.OK || d.Made() != 1 {
		t.Errorf("a header of noughts that is pending: %d, %d", n, err)
	}
	newLog(t, d, where)
	d = newDisk(t, where, 0, api.Block{})
	d.Write(1, header(36))
	d.Write(2, numbered(5))
	if l, err := wal.New(d, where); l != nil || err != api.ErrInval {
		t.Errorf("a header that is pending: New %d", err)
	}
	n, err := wal.Recover(d, where)
	if b, _ := d.Read(36); n != 1 || err != api.OK || b != numbered(5) {
		t.Errorf("a header that is pending: %d, %d", n, err)
	}
}

// P8.2: what is pending when the log is made is read, also behind a commit.
func TestPendingBlocks(t *testing.T) {
	where := small(t)
	d := newDisk(t, where, 0, api.Block{})
	d.Write(37, numbered(7))
	d.Write(3, numbered(8))
	w := worldOn(t, where, d)
	w.a.now[37], w.a.now[3] = numbered(7), numbered(8)
	w.a.ops = d.History()
	w.do(t, reading(37), reading(3), step(1, 36), syncing())
	w.allBlocks(t)
	w.written(t)
}

// P8.1: reservations at their bounds, just outside, and at the ends of int; a step that is open is asked for first.
func TestReservations(t *testing.T) {
	for _, log := range []int{32, 33, 100, 255, 256} {
		w := newWorld(t, layout(t, 400, log, 60))
		inside := []int{1, 2, log / 2, log - 2, log - 1}
		outside := slices.Concat([]int{0, log, log + 1, 2 * log, 400}, alike(1), alike(log-1), ends)
		for _, r := range outside {
			if err := w.l.Begin(r); err != api.ErrArg {
				t.Errorf("a log of %d: Begin(%d): %d", log, r, err)
			}
			w.agree(t)
		}
		for _, r := range inside {
			w.do(t, beginning(r))
			for _, s := range append(inside, outside...) {
				if err := w.l.Begin(s); err != api.ErrStep {
					t.Errorf("a log of %d: Begin(%d) in a step: %d", log, s, err)
				}
				w.agree(t)
			}
			w.do(t, ending())
		}
		w.written(t)
	}
}

// P8.1, P8.5: the group's blocks and the reservation together: at Log - 1 there is no commit, at one more there is.
func TestBeginCommits(t *testing.T) {
	for _, log := range []int{32, 256} {
		where := layout(t, 700, log, 60)
		most := log - 1
		used := from(0, most+1)
		if log == 256 {
			used = []int{0, 1, 2, 127, 253, 254, 255}
		}
		for _, n := range used {
			for _, r := range []int{1, 2, most - n - 1, most - n, most - n + 1, most - n + 2, most} {
				if r < 1 || r > most {
					continue
				}
				w := newWorld(t, where)
				w.do(t, step(max(n, 1), shuffled(where, n)...))
				if w.d.Made() != 0 || w.l.Used() != n {
					t.Fatalf("Used %d, %d things done", w.l.Used(), w.d.Made())
				}
				w.do(t, beginning(r))
				if (w.d.Made() != 0) != (n+r > most) || w.l.Commits() != min(w.d.Made(), 1) || !w.l.Open() {
					t.Errorf("a log of %d: %d blocks and %d: %d things done", log, n, r, w.d.Made())
				}
				w.written(t)
				w.do(t, ending())
			}
		}
	}
}

// P8.1: a block counts once in the group, however often and in however many steps it is changed.
func TestGroupCountsOnce(t *testing.T) {
	w := newWorld(t, small(t))
	for i := range 50 {
		w.do(t, beginning(29), writing(35), writing(36), writing(35), writing(35+i%2), ending())
	}
	if w.l.Used() != 2 || w.l.Steps() != 50 || w.d.Made() != 0 {
		t.Errorf("Used %d, Steps %d, %d things done", w.l.Used(), w.l.Steps(), w.d.Made())
	}
	w.do(t, syncing())
	w.written(t)
	w.allBlocks(t)
}

// P8.1: the order of a commit is that of the first changes, not of the numbers, and not of the last changes.
func TestOrderOfCommit(t *testing.T) {
	w := newWorld(t, small(t))
	w.do(t, step(3, 38, 35), step(3, 39, 35, 36), step(2, 36, 38), step(1, 37), syncing())
	var ats []int
	for _, op := range w.d.History() {
		if op.Kind == api.OpWrite && op.At >= 33 {
			ats = append(ats, op.At)
		}
	}
	if !slices.Equal(ats, []int{38, 35, 39, 36, 37}) {
		t.Errorf("the order: %v", ats)
	}
	w.written(t)
	w.do(t, step(3, 36, 35, 38), syncing()) // the next group has an order of its own
	w.written(t)
}

// P8.1: the ends of each region, and what is no block that may be changed.
func TestWriteBounds(t *testing.T) {
	for _, where := range []api.Layout{small(t), layout(t, 400, 32, 60), layout(t, 9000, 200, 500)} {
		blocks := where.Geometry.Blocks
		inside := []int{where.NodeAt, where.BitsAt - 1, where.BitsAt, where.DataAt - 1, where.DataAt, blocks - 1}
		outside := slices.Concat([]int{0, 1, 2, where.NodeAt - 2, where.NodeAt - 1, blocks, blocks + 1, blocks + 2}, alike(where.DataAt), alike(0), alike(blocks-1), ends)
		w := newWorld(t, where)
		for _, at := range append(inside, outside...) {
			if err := w.l.Write(at, numbered(1)); err != api.ErrStep {
				t.Errorf("Write(%d) without a step: %d", at, err)
			}
		}
		w.do(t, beginning(31))
		for _, at := range outside {
			if err := w.l.Write(at, numbered(1)); err != api.ErrArg {
				t.Errorf("%v: Write(%d): %d", where, at, err)
			}
			w.agree(t)
		}
		for _, at := range inside {
			w.do(t, writing(at), reading(at))
		}
		w.do(t, ending(), beginning(1), writing(inside[0]))
		for _, at := range outside { // no block, and no room
			if err := w.l.Write(at, numbered(1)); err != api.ErrArg {
				t.Errorf("%v: Write(%d) in a step that is full: %d", where, at, err)
			}
		}
		w.agree(t)
		w.do(t, ending(), syncing())
		w.written(t)
		w.allBlocks(t)
	}
}

// P8.1: the step's count: as many blocks as the reservation says, those that it has changed being written again at will.
func TestTight(t *testing.T) {
	where := layout(t, 700, 256, 60)
	for _, r := range []int{1, 2, 3, 31, 254, 255} {
		w := newWorld(t, where)
		w.do(t, beginning(r))
		for i := range r {
			w.do(t, writing(300+i))
		}
		for range 2 {
			for _, at := range []int{300 + r, 299, 699, where.NodeAt} {
				if err := w.l.Write(at, numbered(1)); err != api.ErrTight {
					t.Errorf("a reservation of %d: Write(%d): %d", r, at, err)
				}
				w.do(t, reading(at))
			}
			for i := range r {
				w.do(t, writing(300+i))
			}
		}
		if w.l.Used() != r {
			t.Errorf("a reservation of %d: Used %d", r, w.l.Used())
		}
		w.do(t, ending(), beginning(1), writing(699), ending(), syncing())
		w.written(t)
		w.allBlocks(t)
	}
}

// P8.1: a block that the group had changed ahead of the step counts for the step when the step changes it, and not for the group.
func TestTightInGroup(t *testing.T) {
	w := newWorld(t, small(t))
	w.do(t, step(3, 35, 36, 37), beginning(2), writing(36))
	w.do(t, writing(38))
	for _, at := range []int{35, 37, 39} {
		if err := w.l.Write(at, numbered(1)); err != api.ErrTight {
			t.Errorf("Write(%d): %d", at, err)
		}
	}
	w.do(t, writing(36), writing(38))
	if w.l.Used() != 4 {
		t.Errorf("Used %d", w.l.Used())
	}
	// What the last step changed, and what one changed ahead of a commit, count anew.
	w.do(t, ending(), beginning(1), writing(36))
	if err := w.l.Write(38, numbered(1)); err != api.ErrTight {
		t.Errorf("Write of what the last step changed: %d", err)
	}
	w.do(t, ending(), syncing(), beginning(1), writing(38))
	if err := w.l.Write(36, numbered(1)); err != api.ErrTight || w.l.Used() != 1 {
		t.Errorf("Write of what was committed: %d; Used %d", err, w.l.Used())
	}
	w.do(t, ending(), syncing())
	w.written(t)
	w.allBlocks(t)
}

// P8.1: a step without writes, and steps that write what a block has already: it counts as changed.
func TestSameBytes(t *testing.T) {
	w := newWorld(t, small(t))
	w.do(t, beginning(5), ending(), syncing())
	if w.l.Steps() != 1 || w.l.Used() != 0 || w.d.Made() != 0 {
		t.Error("a step without writes")
	}
	w.do(t, beginning(1))
	w.write(t, 36, first(w.a.where, 36))
	if err := w.l.Write(37, numbered(1)); err != api.ErrTight || w.l.Used() != 1 {
		t.Errorf("a write of what the block has: %d; Used %d", err, w.l.Used())
	}
	w.do(t, ending(), syncing())
	w.written(t)
	if w.d.Made() != 8 {
		t.Errorf("%d things done", w.d.Made())
	}
}

// P8.2: Read at the ends of the layout and outside it, in a step and outside one, whatever the disk has behind the layout.
func TestReadBounds(t *testing.T) {
	for _, where := range []api.Layout{small(t), layout(t, 400, 32, 60)} {
		w := newWorld(t, where)
		blocks := where.Geometry.Blocks
		for range 2 {
			for _, at := range slices.Concat([]int{blocks, blocks + 1, blocks + 2, 1 << 20}, alike(0), alike(40), alike(blocks-1), ends) {
				if b, err := w.l.Read(at); b != (api.Block{}) || err != api.ErrArg {
					t.Errorf("Read(%d) of %d: %d", at, blocks, err)
				}
			}
			w.allBlocks(t)
			w.do(t, beginning(1))
		}
		w.written(t)
	}
}

// P8.2: what was written in the open step, in an earlier one, in an earlier group, and never; the log's own blocks too, which a commit writes.
func TestRead(t *testing.T) {
	where := layout(t, 400, 32, 60)
	w := newWorld(t, where)
	w.allBlocks(t)
	w.do(t, step(4, 100, 101, 102, 399), syncing())
	w.allBlocks(t)
	for at, want := range map[int]api.Block{1: {}, 2: numbered(3), 3: numbered(4), 5: numbered(6), 6: first(where, 6), 100: numbered(3)} {
		if b, err := w.l.Read(at); b != want || err != api.OK {
			t.Errorf("Read(%d) behind a commit: %v.., %d", at, b[1020:], err)
		}
	}
	w.do(t, step(2, 101, 103))
	w.allBlocks(t)
	w.do(t, beginning(3), writing(102), blanking(33), reading(33), writing(103), writing(102))
	w.allBlocks(t)
	w.do(t, ending())
	w.allBlocks(t)
	w.do(t, beginning(30)) // commits
	w.allBlocks(t)
	w.do(t, writing(103), ending(), syncing())
	w.allBlocks(t)
	w.written(t)
}

// P8.2: all blocks are read, again and again, while the group is as large as it may be, and while its bytes are on no disk.
func TestReadBesideFullGroup(t *testing.T) {
	for _, log := range []int{32, 256} {
		where := layout(t, 2000, log, 60)
		w := newWorld(t, where)
		group := shuffled(where, log-1)
		w.do(t, beginning(log-1))
		for _, at := range group {
			w.do(t, writing(at), reading((at*7)%2000))
		}
		w.allBlocks(t)
		w.allBlocks(t)
		if w.l.Used() != log-1 || w.d.Made() != 0 {
			t.Errorf("Used %d, %d things done", w.l.Used(), w.d.Made())
		}
		w.do(t, ending())
		w.allBlocks(t)
		w.do(t, beginning(1))
		w.written(t)
		w.allBlocks(t)
	}
}

// P8.1, P8.5: Sync and Close of an empty group and of one with blocks, in a step and outside one.
func TestSyncAndClose(t *testing.T) {
	for _, end := range []func() act{syncing, closing} {
		w := newWorld(t, small(t))
		w.do(t, syncing(), step(1), syncing(), beginning(1), end(), writing(36), end(), ending(), end())
		w.written(t)
		if w.d.Made() != 8 {
			t.Errorf("%d things done", w.d.Made())
		}
		w.do(t, syncing(), closing(), closing())
		if w.d.Made() != 8 {
			t.Errorf("%d things done at last", w.d.Made())
		}
		w.written(t)
		if w.l.Check() != api.ErrNil {
			t.Error("the log is not closed")
		}
	}
	// With nothing to commit.
	w := newWorld(t, small(t))
	w.do(t, closing())
	if w.d.Made() != 0 || w.l.Check() != api.ErrNil || !w.d.Claimed(1) {
		t.Error("Close of an empty group")
	}
}

// P8.5: calls that are refused, and those that only ask, write nothing and change nothing.
func TestRefusedIsUntouched(t *testing.T) {
	w := lively(t, false)
	made := w.d.Made()
	w.do(t, ending(), writing(36), beginning(0), beginning(32), reading(-1), reading(40), reading(41))
	w.do(t, beginning(1), beginning(1), beginning(31), beginning(32), syncing(), closing(), writing(0), writing(40), writing(-1), writing(20), reading(-1))
	w.do(t, writing(35), writing(36), writing(37), ending(), ending())
	if w.d.Made() != made {
		t.Errorf("%d things done", w.d.Made()-made)
	}
	w.allBlocks(t)
	w.do(t, syncing())
	w.written(t)
	w.allBlocks(t)
}

// P8.1: the numbers of the errors.
func TestErrorNumbers(t *testing.T) {
	w := newWorld(t, small(t))
	if n := int(w.l.End()); n != 180 {
		t.Errorf("ErrStep is %d", n)
	}
	w.do(t, beginning(1), writing(35))
	if n := int(w.l.Write(36, numbered(1))); n != 181 {
		t.Errorf("ErrTight is %d", n)
	}
	if n := int(w.l.Write(0, numbered(1))); n != 2 {
		t.Errorf("ErrArg is %d", n)
	}
	if n := int((*wal.Log)(nil).Check()); n != 1 {
		t.Errorf("ErrNil is %d", n)
	}
	stop(t, w.d)
	if n := int(w.l.Check()); n != 3 {
		t.Errorf("ErrDead is %d", n)
	}
	if _, err := wal.Recover(newDisk(t, small(t), 0, header(0)), small(t)); int(err) != 4 {
		t.Errorf("ErrInval is %d", int(err))
	}
}

// P8.1, P8.2: bytes are taken and given whole, and a caller's block is the caller's.
func TestBytes(t *testing.T) {
	w := newWorld(t, small(t))
	var b api.Block
	for i := range b {
		b[i] = byte(1 + i%255)
	}
	was := b
	w.do(t, beginning(1))
	if err := w.l.Write(36, b); err != api.OK {
		t.Fatal(err)
	}
	b[7]++
	got, _ := w.l.Read(36)
	if got != was {
		t.Error("Read tells other bytes than were written")
	}
	got[9]++
	if again, _ := w.l.Read(36); again != was {
		t.Error("what was told is kept")
	}
	w.l.End()
	w.l.Sync()
	for _, at := range []int{2, 36} {
		if held, _ := w.d.Read(at); held != was {
			t.Errorf("block %d of the disk has other bytes", at)
		}
	}
}

// P8.1: nothing hangs on how large a disk is, and many steps are no matter.
func TestGreatestDisk(t *testing.T) {
	where := layout(t, 1<<20, 256, 65535)
	d, err := disk.New(1 << 20)
	if err != api.OK {
		t.Fatal(err)
	}
	l := newLog(t, d, where)
	const last = 1<<20 - 1
	for i := range 20000 {
		at := last - i%1000
		b := numbered(i)
		if l.Begin(23) != api.OK || l.Write(at, b) != api.OK || l.Write(where.NodeAt+i%7, b) != api.OK || l.End() != api.OK {
			t.Fatalf("step %d", i)
		}
		if got, err := l.Read(at); got != b || err != api.OK {
			t.Fatalf("step %d: Read: %d", i, err)
		}
	}
	if l.Write(last+1, numbered(1)) != api.ErrStep || l.Begin(1) != api.OK || l.Write(last+1, numbered(1)) != api.ErrArg || l.End() != api.OK || l.Close() != api.OK {
		t.Error("the end")
	}
	if b, _ := d.Read(last); b != numbered(19000) {
		t.Error("the last block")
	}
}

// Rule 6: two logs of two disks do not know of each other.
func TestTwoLogs(t *testing.T) {
	one, two := newWorld(t, small(t)), newWorld(t, layout(t, 400, 40, 60))
	one.do(t, beginning(1), writing(36))
	two.do(t, beginning(39), writing(60), writing(61))
	one.do(t, writing(37), reading(36))
	two.do(t, ending(), syncing(), reading(60))
	one.do(t, ending())
	two.do(t, beginning(1))
	one.do(t, syncing(), closing())
	two.do(t, writing(399), ending(), syncing())
	for _, w := range []*world{one, two} {
		w.written(t)
		w.allBlocks(t)
	}
}
