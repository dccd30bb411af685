package cache_test

import (
	"math"
	"slices"
	"testing"

	"undercroft/api"
	"undercroft/cache"
	"undercroft/disk"
)

// filled is a block that is not blank: each n up to 254 gives another one, and no two of its bytes that lie side by side are alike.
func filled(n int) api.Block {
	var b api.Block
	for i := range b {
		b[i] = byte(1 + (n+i)%255)
	}
	return b
}

// numbered is a block that is quickly made, and that no other number below 2^16 has.
func numbered(n int) api.Block {
	var b api.Block
	b[0], b[1022], b[1023] = 1, byte(n), byte(n>>8)
	return b
}

// first is what block at of a disk holds at the beginning.
func first(at int) api.Block { return numbered(1000 + at) }

// newDisk is a disk whose blocks are all told from each other.
func newDisk(t testing.TB, blocks int) *disk.Disk {
	t.Helper()
	im := api.Image{Blocks: blocks, Data: make([]api.Held, blocks)}
	for at := range blocks {
		im.Data[at] = api.Held{Index: at, Data: first(at)}
	}
	d, err := disk.Load(im)
	if err != api.OK {
		t.Fatalf("a disk of %d blocks: %d", blocks, err)
	}
	return d
}

func newCache(t testing.TB, d *disk.Disk, size int) *cache.Cache {
	t.Helper()
	c, err := cache.New(d, size)
	if err != api.OK || c == nil {
		t.Fatalf("New of size %d: %v, %d", size, c, err)
	}
	return c
}

// stop has a disk stop, without a write.
func stop(t testing.TB, d *disk.Disk) {
	t.Helper()
	d.Fuse(0)
	if err := d.Barrier(); err != api.ErrDead || !d.Stopped() {
		t.Fatalf("a disk that is to stop: %d", err)
	}
}

// account is a cache and its disk by the chapter's words: the row is a list that is gone over from its beginning.
type account struct {
	blocks  int
	size    int
	row     []place
	tells   []api.Block // what the disk tells of each block
	sure    []api.Block // what it holds for good
	ops     []api.Op    // what was written since the power came
	reads   int
	made    int
	fuse    int // below 0: none
	stopped bool
}

// place is a block that is held.
type place struct {
	at   int
	data api.Block
	fast bool
}

func newAccount(blocks, size int) *account {
	a := &account{blocks: blocks, size: size, fuse: -1, sure: make([]api.Block, blocks)}
	for at := range blocks {
		a.sure[at] = first(at)
	}
	a.tells = slices.Clone(a.sure)
	return a
}

func (a *account) where(at int) int {
	return slices.IndexFunc(a.row, func(p place) bool { return p.at == at })
}

func (a *account) fast() int {
	n := 0
	for i := range a.row {
		if a.row[i].fast {
			n++
		}
	}
	return n
}

func (a *account) order() []int {
	ats := make([]int, len(a.row))
	for i := range a.row {
		ats[i] = a.row[i].at
	}
	return ats
}

func (a *account) asked(at int) api.Errno {
	if a.stopped {
		return api.ErrDead
	}
	if at < 0 || at >= a.blocks {
		return api.ErrArg
	}
	return api.OK
}

// makePlace: if the cache has as many blocks as its size, the first one of the row that is not held fast leaves it.
func (a *account) makePlace() {
	if len(a.row) == a.size {
		i := slices.IndexFunc(a.row, func(p place) bool { return !p.fast })
		a.row = slices.Delete(a.row, i, i+1)
	}
}

func (a *account) read(at int) (api.Block, api.Errno) {
	if err := a.asked(at); err != api.OK {
		return api.Block{}, err
	}
	if i := a.where(at); i >= 0 {
		p := a.row[i]
		a.row = append(slices.Delete(a.row, i, i+1), p)
		return p.data, api.OK
	}
	if a.fast() == a.size {
		return api.Block{}, api.ErrFull
	}
	a.makePlace()
	a.reads++
	a.row = append(a.row, place{at: at, data: a.tells[at]})
	return a.tells[at], api.OK
}

func (a *account) put(at int, b api.Block) api.Errno {
	if err := a.asked(at); err != api.OK {
		return err
	}
	if i := a.where(at); i >= 0 {
		a.row = slices.Delete(a.row, i, i+1)
	} else {
		if a.fast() == a.size {
			return api.ErrFull
		}
		a.makePlace()
	}
	a.row = append(a.row, place{at: at, data: b, fast: true})
	return api.OK
}

func (a *account) flush(at int) api.Errno {
	if err := a.asked(at); err != api.OK {
		return err
	}
	i := a.where(at)
	if i < 0 || !a.row[i].fast {
		return api.OK
	}
	if err := a.write(at, a.row[i].data); err != api.OK {
		return err
	}
	a.row[i].fast = false
	return api.OK
}

func (a *account) write(at int, b api.Block) api.Errno {
	if a.stopped || a.fuse == 0 {
		a.stopped = true
		return api.ErrDead
	}
	a.fuse--
	a.made++
	a.tells[at] = b
	a.ops = append(a.ops, api.Op{Kind: api.OpWrite, At: at, Data: b})
	return api.OK
}

func (a *account) crash(keep []bool) {
	for i, op := range a.ops {
		if i < len(keep) && keep[i] {
			a.sure[op.At] = op.Data
		}
	}
	copy(a.tells, a.sure)
	a.ops, a.fuse, a.stopped = nil, -1, false
}

// world is a disk, a cache of it, and what the chapter says of both.
type world struct {
	d     *disk.Disk
	c     *cache.Cache
	a     *account
	count int // acts so far: no two puts are of the same bytes
}

func newWorld(t testing.TB, blocks, size int) *world {
	t.Helper()
	d := newDisk(t, blocks)
	return &world{d: d, c: newCache(t, d, size), a: newAccount(blocks, size)}
}

type act func(t testing.TB, w *world)

func reading(at int) act {
	return func(t testing.TB, w *world) {
		b, err := w.c.Read(at)
		want, e := w.a.read(at)
		if b != want || err != e {
			t.Fatalf("act %d: Read(%d): %v.., %d, not %v.., %d", w.count, at, b[1020:], err, want[1020:], e)
		}
	}
}

func putting(at int) act {
	return func(t testing.TB, w *world) {
		b := numbered(w.count)
		err := w.c.Put(at, b)
		if e := w.a.put(at, b); err != e {
			t.Fatalf("act %d: Put(%d): %d, not %d", w.count, at, err, e)
		}
	}
}

func flushing(at int) act {
	return func(t testing.TB, w *world) {
		err := w.c.Flush(at)
		if e := w.a.flush(at); err != e {
			t.Fatalf("act %d: Flush(%d): %d, not %d", w.count, at, err, e)
		}
	}
}

// meddling is a write by somebody else.
func meddling(at int) act {
	return func(t testing.TB, w *world) {
		b := numbered(30000 + w.count)
		err := w.d.Write(at, b)
		if e := w.a.write(at, b); err != e {
			t.Fatalf("act %d: a write of %d: %d, not %d", w.count, at, err, e)
		}
	}
}

func fusing(n int) act {
	return func(t testing.TB, w *world) {
		w.d.Fuse(n)
		if !w.a.stopped {
			w.a.fuse = n
		}
	}
}

func crashing(keep ...bool) act {
	return func(t testing.TB, w *world) {
		w.d.Crash(keep)
		w.a.crash(keep)
	}
}

// do makes acts, and asks behind each whether all is as the account has it. (No t.Helper here and in what it calls: it takes longer than the acts.)
func (w *world) do(t testing.TB, acts ...act) {
	for _, do := range acts {
		w.count++
		do(t, w)
		w.agree(t)
	}
}

// agree asks for all that is told without a change.
func (w *world) agree(t testing.TB) {
	if l := w.c.Order(); !slices.Equal(l, w.a.order()) {
		t.Fatalf("behind act %d: Order: %v, not %v", w.count, l, w.a.order())
	}
	if w.c.Len() != len(w.a.row) || w.c.Fast() != w.a.fast() {
		t.Fatalf("behind act %d: Len %d, Fast %d, not %d, %d", w.count, w.c.Len(), w.c.Fast(), len(w.a.row), w.a.fast())
	}
	if w.d.Reads() != w.a.reads || w.d.Made() != w.a.made || w.d.Stopped() != w.a.stopped {
		t.Fatalf("behind act %d: %d reads, %d writes, not %d, %d", w.count, w.d.Reads(), w.d.Made(), w.a.reads, w.a.made)
	}
}

// written asks whether the disk was written to as the account has it, byte for byte.
func (w *world) written(t testing.TB) {
	t.Helper()
	if !slices.Equal(w.d.History(), w.a.ops) {
		t.Fatalf("behind act %d: the disk was not written to as it should be", w.count)
	}
}

// allBytes asks for the bytes of all blocks that are held, as the last thing that is done.
func (w *world) allBytes(t testing.TB) {
	t.Helper()
	for _, at := range w.a.order() {
		reading(at)(t, w)
	}
	w.agree(t)
}

// lists goes over all lists of up to so many numbers below n.
func lists(n, most int, do func(list []int)) {
	list := make([]int, 0, most)
	var more func()
	more = func() {
		do(list)
		if len(list) == most {
			return
		}
		for k := range n {
			list = append(list, k)
			more()
			list = list[:len(list)-1]
		}
	}
	more()
}

var ends = []int{math.MinInt, math.MinInt + 1, -4096, -2, -1, math.MaxInt - 1, math.MaxInt}

// P6.1: sizes just inside and just outside; what New makes holds nothing, and the disk is not asked, written to or claimed.
func TestNew(t *testing.T) {
	inside := []int{1, 2, 3, 1023, 1024, 4095, 4096}
	outside := append([]int{0, 4097, 4098, 8192, 1 << 16, 1 << 20}, ends...)
	d, stopped := newDisk(t, 3), newDisk(t, 3)
	stop(t, stopped)
	for _, on := range []*disk.Disk{d, stopped} {
		for _, size := range inside {
			c := newCache(t, on, size)
			if c.Len() != 0 || c.Fast() != 0 || len(c.Order()) != 0 {
				t.Errorf("New of size %d holds something", size)
			}
		}
		for _, size := range outside {
			if c, err := cache.New(on, size); c != nil || err != api.ErrArg {
				t.Errorf("New of size %d: %v, %d", size, c, err)
			}
		}
		if on.Reads() != 0 || on.Made() != 0 || len(on.Pending()) != 0 {
			t.Error("New did something to the disk")
		}
	}
	if d.Stopped() || d.Claim() != 1 {
		t.Error("New claimed the disk, or stopped it")
	}
}

// P6.1: no disk, ahead of whatever the size is.
func TestNewOfNoDisk(t *testing.T) {
	var none *disk.Disk
	stopped := newDisk(t, 3)
	stop(t, stopped)
	copied, copiedStopped := *newDisk(t, 3), *stopped
	for i, d := range []*disk.Disk{none, {}, new(disk.Disk), &copied, &copiedStopped} {
		for _, size := range append([]int{0, 1, 2, 4096, 4097}, ends...) {
			if c, err := cache.New(d, size); c != nil || err != api.ErrNil {
				t.Errorf("New of disk %d, size %d: %v, %d", i, size, c, err)
			}
		}
	}
}

// P6.1: a size is just how many blocks may be held, of which all may be held fast.
func TestSizes(t *testing.T) {
	for _, size := range []int{1, 2, 3, 7, 4095, 4096} {
		d := newDisk(t, size+1)
		c := newCache(t, d, size)
		for at := range size {
			if err := c.Put(at, numbered(at)); err != api.OK || c.Len() != at+1 || c.Fast() != at+1 {
				t.Fatalf("size %d: Put(%d): %d", size, at, err)
			}
		}
		if b, err := c.Read(size); b != (api.Block{}) || err != api.ErrFull {
			t.Errorf("size %d: one more is read: %d", size, err)
		}
		if err := c.Put(size, numbered(size)); err != api.ErrFull {
			t.Errorf("size %d: one more is put: %d", size, err)
		}
		for at := range size {
			if b, err := c.Read(at); b != numbered(at) || err != api.OK {
				t.Fatalf("size %d: Read(%d): %d", size, at, err)
			}
		}
		if c.Len() != size || c.Fast() != size || d.Reads() != 0 || d.Made() != 0 {
			t.Errorf("size %d: Len %d, Fast %d, %d reads, %d writes", size, c.Len(), c.Fast(), d.Reads(), d.Made())
		}
	}
}

// noCache asks everything of what is no cache.
func noCache(t *testing.T, c *cache.Cache) {
	t.Helper()
	for range 2 { // also behind calls that would have changed a cache
		for _, at := range append([]int{0, 1, 2, 3}, ends...) {
			if b, err := c.Read(at); b != (api.Block{}) || err != api.ErrNil {
				t.Errorf("Read(%d): %d", at, err)
			}
			if err := c.Put(at, filled(1)); err != api.ErrNil {
				t.Errorf("Put(%d): %d", at, err)
			}
			if err := c.Flush(at); err != api.ErrNil {
				t.Errorf("Flush(%d): %d", at, err)
			}
		}
		if c.Fast() != 0 || c.Len() != 0 || len(c.Order()) != 0 {
			t.Error("something is told of no cache")
		}
	}
}

// P6.2, P6.6, rule 4: a cache that is nil, or that New did not make, a copy of one too, also where the disk has stopped.
func TestNoCache(t *testing.T) {
	var none *cache.Cache
	noCache(t, none)
	noCache(t, &cache.Cache{})
	noCache(t, new(cache.Cache))

	w := newWorld(t, 3, 2)
	empty := *w.c
	noCache(t, &empty)
	w.do(t, reading(0), putting(1))
	copied := *w.c
	noCache(t, &copied)
	w.agree(t)
	w.do(t, putting(2), flushing(1), reading(0), reading(1))
	noCache(t, &copied)
	noCache(t, &empty)
	w.written(t)
	stop(t, w.d)
	noCache(t, &copied)
	stoppedCopy := *w.c
	noCache(t, &stoppedCopy)
	if w.d.Made() != 1 {
		t.Errorf("%d writes", w.d.Made())
	}
}

// P6.2: block numbers just inside and just outside, and at the ends of int; what is outside changes nothing.
func TestBlockNumbers(t *testing.T) {
	for _, blocks := range []int{1, 2, 3, 10, 1000} {
		w := newWorld(t, blocks, 2)
		outside := append([]int{blocks, blocks + 1, blocks + 1024, 1 << 20}, ends...)
		refused := func() {
			t.Helper()
			for _, at := range outside {
				b, err := w.c.Read(at)
				if b != (api.Block{}) || err != api.ErrArg || w.c.Put(at, filled(1)) != api.ErrArg || w.c.Flush(at) != api.ErrArg {
					t.Errorf("block %d of %d: %d", at, blocks, err)
				}
			}
			w.agree(t)
			w.written(t)
		}
		refused()
		for _, at := range []int{0, blocks - 1, blocks / 2} {
			w.do(t, reading(at))
			refused()
			w.do(t, putting(at), reading(at))
			refused()
			w.do(t, flushing(at))
			refused()
		}
		if w.a.made != 3 {
			t.Errorf("a disk of %d blocks: %d writes", blocks, w.a.made)
		}
	}
}

// P6.2: the last block of the greatest disk.
func TestGreatestDisk(t *testing.T) {
	d, err := disk.New(1 << 20)
	if err != api.OK {
		t.Fatal(err)
	}
	c := newCache(t, d, 1)
	const last = 1<<20 - 1
	if b, err := c.Read(last); b != (api.Block{}) || err != api.OK {
		t.Errorf("Read: %d", err)
	}
	if c.Put(last, filled(1)) != api.OK || c.Flush(last) != api.OK {
		t.Error("Put, Flush")
	}
	_, read := c.Read(last + 1)
	if read != api.ErrArg || c.Put(last+1, filled(1)) != api.ErrArg || c.Flush(last+1) != api.ErrArg {
		t.Errorf("one behind the last: %d", read)
	}
	if b, _ := d.Read(last); b != filled(1) || !slices.Equal(c.Order(), []int{last}) {
		t.Error("the last block")
	}
}

// P6.2: which error is answered where several would do.
func TestOrderOfErrors(t *testing.T) {
	all := func(c *cache.Cache, at int, read, put, flush api.Errno) {
		t.Helper()
		b, err := c.Read(at)
		if err != read || (err != api.OK && b != (api.Block{})) {
			t.Errorf("Read(%d): %d, not %d", at, err, read)
		}
		if err := c.Put(at, numbered(at)); err != put {
			t.Errorf("Put(%d): %d, not %d", at, err, put)
		}
		if err := c.Flush(at); err != flush {
			t.Errorf("Flush(%d): %d, not %d", at, err, flush)
		}
	}
	d := newDisk(t, 4)
	c := newCache(t, d, 2)
	c.Put(1, numbered(1))
	c.Put(2, numbered(2))
	// No block, and no room.
	for _, at := range append([]int{4}, ends...) {
		all(c, at, api.ErrArg, api.ErrArg, api.ErrArg)
	}
	// No room; what is not held is flushed at no cost.
	all(c, 0, api.ErrFull, api.ErrFull, api.OK)
	all(c, 3, api.ErrFull, api.ErrFull, api.OK)
	if d.Made() != 0 || d.Reads() != 0 || !slices.Equal(c.Order(), []int{1, 2}) || c.Fast() != 2 {
		t.Error("what was refused changed something")
	}
	copied := *c
	// A disk that has stopped, and no room, and no block, and blocks that are held.
	stop(t, d)
	for _, at := range append([]int{0, 1, 2, 3, 4}, ends...) {
		all(c, at, api.ErrDead, api.ErrDead, api.ErrDead)
		all(&copied, at, api.ErrNil, api.ErrNil, api.ErrNil)
		all(nil, at, api.ErrNil, api.ErrNil, api.ErrNil)
	}
	if d.Made() != 0 || d.Reads() != 0 || !slices.Equal(c.Order(), []int{1, 2}) || c.Fast() != 2 {
		t.Error("what was refused by a disk that has stopped changed something")
	}
}

// P6.2: a disk that has stopped ahead of New, and behind it.
func TestStoppedDisk(t *testing.T) {
	for _, ahead := range []bool{true, false} {
		d := newDisk(t, 3)
		if ahead {
			stop(t, d)
		}
		c := newCache(t, d, 2)
		if !ahead {
			stop(t, d)
		}
		for _, at := range append([]int{0, 1, 2, 3}, ends...) {
			b, err := c.Read(at)
			if b != (api.Block{}) || err != api.ErrDead || c.Put(at, filled(1)) != api.ErrDead || c.Flush(at) != api.ErrDead {
				t.Errorf("block %d: %d", at, err)
			}
		}
		if c.Len() != 0 || c.Fast() != 0 || len(c.Order()) != 0 {
			t.Error("something is held of a disk that has stopped")
		}
		d.Crash(nil)
		w := &world{d: d, c: c, a: newAccount(3, 2)}
		w.do(t, reading(2), putting(1), reading(0), putting(2), reading(0), flushing(1), reading(0))
		w.written(t)
	}
}

// P6.2, P6.6: what is held is told, and kept, of a disk that has stopped; nothing else is answered till the power comes.
func TestHeldOverStop(t *testing.T) {
	w := newWorld(t, 4, 3)
	w.do(t, reading(3), putting(1), putting(0), flushing(1))
	w.do(t, fusing(0), flushing(0))
	for range 2 {
		for at := -1; at <= 4; at++ {
			w.do(t, reading(at), putting(at), flushing(at))
		}
	}
	if l := w.c.Order(); !slices.Equal(l, []int{3, 1, 0}) || w.c.Len() != 3 || w.c.Fast() != 1 {
		t.Errorf("the row: %v", l)
	}
	w.do(t, crashing())
	if l := w.c.Order(); !slices.Equal(l, []int{3, 1, 0}) || w.c.Len() != 3 || w.c.Fast() != 1 {
		t.Errorf("the row when the power came: %v", l)
	}
	w.allBytes(t)
	w.do(t, flushing(0), flushing(1), reading(2), reading(3), reading(1))
	w.written(t)
}

// P6.3: a block that is held is not read again, whatever the disk has got since; one that has left is.
func TestReadHeld(t *testing.T) {
	w := newWorld(t, 4, 2)
	w.do(t, reading(0), meddling(0))
	if b, err := w.c.Read(0); b != first(0) || err != api.OK || w.d.Reads() != 1 {
		t.Errorf("a block that is held: %d, %d reads", err, w.d.Reads())
	}
	w.do(t, reading(1), reading(2), reading(0))
	if b, _ := w.c.Read(0); b == first(0) || w.d.Reads() != 4 {
		t.Errorf("a block that has left, and is read again: %d reads", w.d.Reads())
	}
}

// P6.3: what is handed out are the block's own bytes, all of them, and nobody else's.
func TestBytes(t *testing.T) {
	d := newDisk(t, 4)
	c := newCache(t, d, 2)
	want := map[int]api.Block{}
	for i := range 20 {
		at := i % 3
		b := filled(i * 7)
		if err := c.Put(at, b); err != api.OK {
			t.Fatalf("Put(%d): %d", at, err)
		}
		want[at], b[5] = b, b[5]+1
		if got, err := c.Read(at); got != want[at] || err != api.OK {
			t.Fatalf("Read(%d): %d", at, err)
		}
		if err := c.Flush(at); err != api.OK {
			t.Fatalf("Flush(%d): %d", at, err)
		}
		if got, _ := d.Read(at); got != want[at] {
			t.Fatalf("block %d is not on the disk as it was put", at)
		}
		for at := range want {
			if got, err := c.Read(at); got != want[at] || err != api.OK {
				t.Fatalf("Read(%d) later: %d", at, err)
			}
		}
	}
}

// P6.3, P6.4: a block of noughts is held as any other.
func TestNoughts(t *testing.T) {
	w := newWorld(t, 3, 1)
	if w.c.Put(0, api.Block{}) != api.OK || w.c.Len() != 1 || w.c.Fast() != 1 {
		t.Error("Put of noughts")
	}
	if b, err := w.c.Read(0); b != (api.Block{}) || err != api.OK || w.d.Reads() != 0 {
		t.Errorf("Read of noughts: %d", err)
	}
	if w.c.Flush(0) != api.OK || w.c.Fast() != 0 || w.d.Made() != 1 {
		t.Error("Flush of noughts")
	}
	if b, _ := w.d.Read(0); b != (api.Block{}) {
		t.Error("noughts are not on the disk")
	}
}

// P6.4: a put is no write, also where the bytes are what the block has, and the block is held fast by it.
func TestPutSame(t *testing.T) {
	w := newWorld(t, 2, 2)
	b, _ := w.c.Read(0)
	if w.c.Put(0, b) != api.OK || w.c.Fast() != 1 || w.d.Made() != 0 {
		t.Error("Put of what the disk has")
	}
	if w.c.Put(0, b) != api.OK || w.c.Fast() != 1 || w.c.Len() != 1 {
		t.Error("Put of what was put")
	}
	if w.c.Flush(0) != api.OK || w.d.Made() != 1 || w.c.Fast() != 0 {
		t.Error("Flush of what the disk has")
	}
	if w.c.Flush(0) != api.OK || w.d.Made() != 1 {
		t.Error("a second Flush")
	}
}

// P6.5: one write of the last bytes that were put, no barrier, no read; the row stays as it is.
func TestFlush(t *testing.T) {
	for _, at := range []int{0, 1, 2} { // the first of the row, its middle, its last
		w := newWorld(t, 5, 3)
		w.do(t, putting(0), putting(1), putting(0), putting(1), putting(2), flushing(at))
		want := []int{0, 1, 2}
		if !slices.Equal(w.c.Order(), want) || w.c.Fast() != 2 || w.d.Made() != 1 || w.d.Reads() != 0 {
			t.Errorf("Flush(%d): %v", at, w.c.Order())
		}
		ops := w.d.History()
		if len(ops) != 1 || ops[0] != (api.Op{Kind: api.OpWrite, At: at, Data: numbered([]int{3, 4, 5}[at])}) {
			t.Errorf("Flush(%d): what was written", at)
		}
		w.do(t, flushing(at), flushing(3), flushing(4))
		// It is the one that leaves, though others stand ahead of it.
		w.do(t, reading(4))
		if slices.Contains(w.c.Order(), at) || w.c.Len() != 3 {
			t.Errorf("behind Flush(%d) and a read: %v", at, w.c.Order())
		}
		w.written(t)
	}
}

// P6.5: a block that is held but not held fast is not written, whether it was read or flushed.
func TestFlushNothing(t *testing.T) {
	w := newWorld(t, 4, 3)
	w.do(t, reading(0), flushing(0), putting(1), flushing(1), flushing(1), flushing(2), flushing(3))
	if w.d.Made() != 1 || w.c.Len() != 2 || w.d.Reads() != 1 {
		t.Errorf("%d writes, %d held, %d reads", w.d.Made(), w.c.Len(), w.d.Reads())
	}
	w.do(t, fusing(0), flushing(0), flushing(1), flushing(3))
	if w.d.Stopped() {
		t.Error("the disk stopped where nothing was to be written")
	}
}

// P6.5: a disk that stops at a flush, at each of some: the block stays held fast and where it was; when the power has come, it is flushed anew.
func TestStopsAtFlush(t *testing.T) {
	for fuse := range 4 {
		w := newWorld(t, 5, 4)
		w.do(t, putting(3), putting(1), putting(0), reading(4), putting(1), fusing(fuse))
		row := w.c.Order()
		fast := 3
		for i, at := range []int{1, 3, 0} {
			want := api.OK
			if i >= fuse {
				want = api.ErrDead
			} else {
				fast--
			}
			if err := w.c.Flush(at); err != want || w.c.Fast() != fast || !slices.Equal(w.c.Order(), row) {
				t.Errorf("a fuse of %d: Flush(%d): %d; %d are held fast, %v", fuse, at, err, w.c.Fast(), w.c.Order())
			}
			w.a.flush(at)
			w.agree(t)
		}
		w.do(t, crashing(true))
		w.allBytes(t)
		w.do(t, flushing(0), flushing(1), flushing(3), flushing(4))
		if w.c.Fast() != 0 || w.d.Made() != 3 || w.c.Len() != 4 {
			t.Errorf("a fuse of %d: behind all: %d held fast, %d writes", fuse, w.c.Fast(), w.d.Made())
		}
		w.written(t)
	}
}

// P6.3, P6.4: a row full of blocks that are held fast refuses others, and lets those be read and put; whichever is flushed makes room.
func TestFull(t *testing.T) {
	for size := 1; size <= 5; size++ {
		for freed := range size {
			w := newWorld(t, size+3, size)
			for at := range size {
				w.do(t, reading(at), putting(at))
			}
			others := func() {
				t.Helper()
				for at := size; at < size+3; at++ {
					if b, err := w.c.Read(at); b != (api.Block{}) || err != api.ErrFull {
						t.Errorf("size %d: Read(%d): %d", size, at, err)
					}
					if err := w.c.Put(at, filled(1)); err != api.ErrFull {
						t.Errorf("size %d: Put(%d): %d", size, at, err)
					}
					if err := w.c.Flush(at); err != api.OK {
						t.Errorf("size %d: Flush(%d): %d", size, at, err)
					}
					w.agree(t)
				}
			}
			others()
			for at := range size {
				w.do(t, reading(at), putting(at))
			}
			others()
			w.do(t, flushing(freed), reading(size))
			if slices.Contains(w.c.Order(), freed) || w.c.Len() != size || w.c.Fast() != size-1 {
				t.Errorf("size %d: Flush(%d) made no room: %v", size, freed, w.c.Order())
			}
			w.do(t, putting(size+1), reading(freed), putting(size+2))
			w.allBytes(t)
			w.written(t)
		}
	}
}

// P6.6, rule 3: what Order hands out is new memory, its spare room too, and stays as it is.
func TestOrderIsNew(t *testing.T) {
	w := newWorld(t, 6, 3)
	ruin := func() {
		l := w.c.Order()
		l = l[:cap(l)]
		for i := range l {
			l[i] = 77
		}
		w.agree(t)
	}
	ruin()
	var lists, wants [][]int
	for _, a := range []act{
		reading(0), putting(1), reading(2), reading(0), putting(3), flushing(1), reading(4), reading(5),
		fusing(0), flushing(3), reading(3), crashing(), reading(3), flushing(3),
	} {
		w.do(t, a)
		ruin()
		l := w.c.Order()
		lists, wants = append(lists, l), append(wants, slices.Clone(l))
	}
	for i := range lists {
		if !slices.Equal(lists[i], wants[i]) {
			t.Errorf("list %d changed with what was called later: %v, not %v", i, lists[i], wants[i])
		}
	}
	a, b := w.c.Order(), w.c.Order()
	a[0] = 77
	if b[0] == 77 {
		t.Error("two answers share memory")
	}
}

// Rule 6, P6.7: two caches of one disk know of each other by the disk alone.
func TestTwoCaches(t *testing.T) {
	d := newDisk(t, 4)
	a, b := newCache(t, d, 2), newCache(t, d, 3)
	reads := func(c *cache.Cache, at int, want api.Block, n int) {
		t.Helper()
		before := d.Reads()
		if got, err := c.Read(at); got != want || err != api.OK || d.Reads()-before != n {
			t.Errorf("Read(%d): %d, %d reads", at, err, d.Reads()-before)
		}
	}
	reads(b, 0, first(0), 1)
	if a.Put(0, filled(1)) != api.OK || a.Put(1, filled(2)) != api.OK {
		t.Error("Put")
	}
	if b.Len() != 1 || b.Fast() != 0 || a.Len() != 2 || a.Fast() != 2 {
		t.Error("a put is seen by the other cache")
	}
	reads(b, 1, first(1), 1)
	reads(b, 0, first(0), 0)
	if b.Flush(0) != api.OK || b.Flush(1) != api.OK || d.Made() != 0 {
		t.Error("what the other one holds fast was flushed")
	}
	if a.Flush(0) != api.OK || a.Flush(1) != api.OK || d.Made() != 2 {
		t.Error("Flush")
	}
	reads(b, 0, first(0), 0)
	reads(b, 2, first(2), 1)
	reads(b, 3, first(3), 1)
	reads(b, 1, filled(2), 1)
	reads(a, 0, filled(1), 0)
	if !slices.Equal(a.Order(), []int{1, 0}) || !slices.Equal(b.Order(), []int{2, 3, 1}) {
		t.Errorf("the rows: %v, %v", a.Order(), b.Order())
	}
	if b.Put(0, filled(3)) != api.OK || a.Put(0, filled(4)) != api.OK || b.Flush(0) != api.OK || a.Flush(0) != api.OK {
		t.Error("both put and flush one block")
	}
	reads(a, 0, filled(4), 0)
	reads(b, 0, filled(3), 0)
	if got, _ := d.Read(0); got != filled(4) {
		t.Error("the later flush does not stand")
	}
	stop(t, d)
	_, inA := a.Read(0)
	_, inB := b.Read(0)
	if inA != api.ErrDead || inB != api.ErrDead {
		t.Errorf("a disk that has stopped: %d, %d", inA, inB)
	}
}

// Rule 6: two caches of two disks have nothing to do with each other.
func TestTwoDisks(t *testing.T) {
	a, b := newWorld(t, 3, 2), newWorld(t, 3, 2)
	a.do(t, putting(0), putting(1))
	b.agree(t)
	b.do(t, reading(0), reading(1), reading(2))
	a.agree(t)
	stop(t, a.d)
	b.do(t, putting(0), flushing(0), reading(1))
	b.written(t)
}

// P6.2 to P6.6: every list of up to 5 reads, puts and flushes of three blocks, in caches of the sizes 1 to 3, as the chapter says.
func TestAllShortLists(t *testing.T) {
	var acts []act
	for at := range 3 {
		acts = append(acts, reading(at), putting(at), flushing(at))
	}
	for size := 1; size <= 3; size++ {
		lists(len(acts), 5, func(list []int) {
			w := newWorld(t, 3, size)
			for _, k := range list {
				w.do(t, acts[k])
			}
			w.written(t)
			w.allBytes(t)
		})
	}
}

// P6.2 to P6.6: the same with a fuse, the power's going and coming, and somebody else who writes.
func TestAllShortListsWithStops(t *testing.T) {
	acts := []act{
		reading(0), putting(0), flushing(0), reading(1), putting(1), flushing(1), reading(2),
		fusing(0), fusing(1), crashing(), crashing(true, true, true), meddling(0),
	}
	for size := 1; size <= 2; size++ {
		lists(len(acts), 4, func(list []int) {
			w := newWorld(t, 3, size)
			w.do(t, putting(1))
			for _, k := range list {
				w.do(t, acts[k])
			}
			w.written(t)
			w.do(t, crashing())
			w.allBytes(t)
		})
	}
}

// numbers gives a row of numbers below n, the same each time.
func numbers(seed uint32) func(n int) int {
	return func(n int) int {
		seed = seed*1664525 + 1013904223
		return int(seed>>8) % n
	}
}

// P6.3 to P6.6: long lives, with rows longer than those of the short lists.
func TestLongLives(t *testing.T) {
	for size := 1; size <= 12; size++ {
		next := numbers(uint32(size))
		w := newWorld(t, 16, size)
		for range 2000 {
			at := next(16)
			switch next(16) {
			case 0, 1, 2, 3, 4, 5:
				w.do(t, reading(at))
			case 6, 7, 8:
				w.do(t, putting(at))
			case 9:
				w.do(t, reading(at-16), putting(at+16), flushing(16))
			case 10:
				w.do(t, meddling(at))
			case 11:
				if next(8) == 0 {
					w.do(t, fusing(next(6)))
				}
			case 12:
				if w.d.Stopped() {
					w.written(t)
					w.do(t, crashing(next(2) == 0, next(2) == 0, next(2) == 0, next(2) == 0))
				}
			default:
				w.do(t, flushing(at))
			}
		}
	}
}

// P6.7: where nobody else writes, Read tells the last Put or else what the disk has; what is not flushed is not on the disk; the disk is read just where a block is read that is not held.
func TestFollows(t *testing.T) {
	const blocks = 8
	for size := 1; size <= blocks+1; size++ {
		next := numbers(uint32(100 + size))
		d := newDisk(t, blocks)
		c := newCache(t, d, size)
		var told, onDisk [blocks]api.Block
		for at := range blocks {
			told[at], onDisk[at] = first(at), first(at)
		}
		reads := 0
		for i := range 3000 {
			at := next(blocks)
			held := slices.Contains(c.Order(), at)
			switch next(3) {
			case 0:
				b, err := c.Read(at)
				if err == api.OK && b != told[at] {
					t.Fatalf("size %d, act %d: Read(%d) does not tell what was put last", size, i, at)
				}
				if err == api.OK && !held {
					reads++
				}
			case 1:
				if b := numbered(i); c.Put(at, b) == api.OK {
					told[at] = b
				}
			case 2:
				if held {
					onDisk[at] = told[at]
				}
				c.Flush(at)
			}
			if d.Reads() != reads {
				t.Fatalf("size %d, act %d: %d reads, not %d", size, i, d.Reads(), reads)
			}
		}
		for at := range blocks {
			if b, _ := d.Read(at); b != onDisk[at] {
				t.Errorf("size %d: block %d on the disk is not what was flushed last", size, at)
			}
			c.Flush(at)
		}
		for at := range blocks {
			if b, _ := d.Read(at); b != told[at] {
				t.Errorf("size %d: block %d is not on the disk though it was flushed", size, at)
			}
		}
	}
}

// P6.3: a row of the greatest size in which nearly all is held fast, and many reads beside, are not slow.
func TestGreatestSize(t *testing.T) {
	const size = 4096
	d, err := disk.New(1 << 20)
	if err != api.OK {
		t.Fatal(err)
	}
	c := newCache(t, d, size)
	for at := range size - 1 {
		if err := c.Put(at, numbered(at)); err != api.OK {
			t.Fatalf("Put(%d): %d", at, err)
		}
	}
	for at := size; at < 3*size; at++ {
		if _, err := c.Read(at); err != api.OK || c.Len() != size {
			t.Fatalf("Read(%d): %d", at, err)
		}
	}
	if l := c.Order(); len(l) != size || l[0] != 0 || l[size-2] != size-2 || l[size-1] != 3*size-1 {
		t.Errorf("the row: %d", len(l))
	}
	for at := range size - 1 {
		if err := c.Flush(at); err != api.OK {
			t.Fatalf("Flush(%d): %d", at, err)
		}
	}
	for at := 3 * size; at < 40*size; at++ {
		if _, err := c.Read(at); err != api.OK {
			t.Fatalf("Read(%d): %d", at, err)
		}
	}
	if l := c.Order(); len(l) != size || l[0] != 39*size || l[size-1] != 40*size-1 || c.Fast() != 0 || d.Made() != size-1 {
		t.Errorf("the row behind all: %d, %d held fast, %d writes", len(l), c.Fast(), d.Made())
	}
}

// The numbers of the errors.
func TestErrors(t *testing.T) {
	var none *cache.Cache
	d := newDisk(t, 2)
	c := newCache(t, d, 1)
	_, arg := cache.New(d, 0)
	_, noDisk := cache.New(nil, 1)
	ok := c.Put(0, filled(1))
	full := c.Put(1, filled(1))
	_, fullToo := c.Read(1)
	outside := c.Flush(2)
	d.Fuse(0)
	for i, err := range []api.Errno{ok, noDisk, none.Flush(0), arg, outside, c.Flush(0), c.Put(0, filled(2)), full, fullToo} {
		if want := []int{0, 1, 1, 2, 2, 3, 3, 160, 160}[i]; int(err) != want {
			t.Errorf("error %d: %d, not %d", i, err, want)
		}
	}
}

// The chapter's table of examples, line by line.
func TestExamples(t *testing.T) {
	d := newDisk(t, 10)
	c := newCache(t, d, 2)
	b, cc := filled(1), filled(2)
	row := func(want ...int) {
		t.Helper()
		if l := c.Order(); !slices.Equal(l, want) || c.Len() != len(want) {
			t.Errorf("the row: %v, not %v", l, want)
		}
	}
	read := func(at int, want api.Block, wantErr api.Errno) {
		t.Helper()
		if got, err := c.Read(at); got != want || err != wantErr {
			t.Errorf("Read(%d): %d, not %d", at, err, wantErr)
		}
	}
	is := func(err, want api.Errno) {
		t.Helper()
		if err != want {
			t.Errorf("%d, not %d", err, want)
		}
	}
	read(3, first(3), api.OK)
	read(4, first(4), api.OK)
	read(3, first(3), api.OK)
	row(4, 3)
	if d.Reads() != 2 {
		t.Errorf("%d reads", d.Reads())
	}
	read(5, first(5), api.OK)
	row(3, 5)
	is(c.Put(5, b), api.OK)
	row(3, 5)
	if c.Fast() != 1 {
		t.Errorf("%d are held fast", c.Fast())
	}
	is(c.Put(6, cc), api.OK)
	row(5, 6)
	if c.Fast() != 2 {
		t.Errorf("%d are held fast", c.Fast())
	}
	read(7, api.Block{}, api.ErrFull)
	is(c.Put(7, b), api.ErrFull)
	read(5, b, api.OK)
	row(6, 5)
	is(c.Flush(6), api.OK)
	if !slices.Equal(d.History(), []api.Op{{Kind: api.OpWrite, At: 6, Data: cc}}) {
		t.Error("Flush(6) is not one write")
	}
	read(7, first(7), api.OK)
	row(5, 7)
	is(c.Flush(9), api.OK)
	is(c.Flush(10), api.ErrArg)
	read(-1, api.Block{}, api.ErrArg)
	if d.Made() != 1 {
		t.Errorf("%d writes", d.Made())
	}
	for i, size := range []int{0, 4097} {
		if c, err := cache.New(d, size); c != nil || err != api.ErrArg {
			t.Errorf("New %d: %d", i, err)
		}
	}
	if c, err := cache.New(nil, 0); c != nil || err != api.ErrNil {
		t.Errorf("New(nil, 0): %d", err)
	}
}
