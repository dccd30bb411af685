package disk_test

import (
	"math"
	"slices"
	"testing"

	"undercroft/api"
	"undercroft/disk"
)

// filled is a block that is not blank: each n up to 254 gives another one, and no two of its bytes that lie side by side are alike.
func filled(n int) api.Block {
	var b api.Block
	for i := range b {
		b[i] = byte(1 + (n+i)%255)
	}
	return b
}

// lone is a block of noughts but for one byte.
func lone(at int) api.Block {
	var b api.Block
	b[at] = 1
	return b
}

func write(at int, b api.Block) api.Op { return api.Op{Kind: api.OpWrite, At: at, Data: b} }

func barrier() api.Op { return api.Op{Kind: api.OpBarrier} }

func newDisk(t testing.TB, blocks int) *disk.Disk {
	t.Helper()
	d, err := disk.New(blocks)
	if err != api.OK || d == nil {
		t.Fatalf("New(%d): %v, %d", blocks, d, err)
	}
	return d
}

func loaded(t testing.TB, im api.Image) *disk.Disk {
	t.Helper()
	d, err := disk.Load(im)
	if err != api.OK || d == nil {
		t.Fatalf("Load of %d blocks, %d of them not blank: %v, %d", im.Blocks, len(im.Data), d, err)
	}
	return d
}

// do makes writes and barriers that are to be let through.
func do(t testing.TB, d *disk.Disk, ops ...api.Op) {
	t.Helper()
	for i, op := range ops {
		err := d.Barrier
		if op.Kind == api.OpWrite {
			err = func() api.Errno { return d.Write(op.At, op.Data) }
		}
		if e := err(); e != api.OK {
			t.Fatalf("write or barrier %d: %d", i, e)
		}
	}
}

// stoppedDisk is a disk of 4 blocks with 1: filled(1) held, 2: filled(2) pending and a claim of 1, that has stopped.
func stoppedDisk(t testing.TB) *disk.Disk {
	t.Helper()
	d := newDisk(t, 4)
	d.Claim()
	do(t, d, write(1, filled(1)), barrier(), write(2, filled(2)))
	d.Fuse(0)
	if err := d.Barrier(); err != api.ErrDead {
		t.Fatalf("a barrier that the fuse does not let through: %d", err)
	}
	return d
}

func sameImage(a, b api.Image) bool { return a.Blocks == b.Blocks && slices.Equal(a.Data, b.Data) }

// told is a disk by the document's words: it keeps all that ever happened to it, and tells everything from that, from the beginning on.
type told struct {
	blocks  int
	first   api.Image // what it held at the beginning
	events  []event
	fuse    int
	fused   bool
	stopped bool
	reads   int
	claims  int
}

// event is a write, a barrier, a claim, or a going of the power.
type event struct {
	kind string
	op   api.Op
	keep []bool
}

// split tells what is held and what is pending.
func (m *told) split() (map[int]api.Block, []api.Op) {
	held := map[int]api.Block{}
	for _, h := range m.first.Data {
		held[h.Index] = h.Data
	}
	var pending []api.Op
	for _, e := range m.events {
		switch e.kind {
		case "write":
			pending = append(pending, e.op)
		case "barrier":
			for _, op := range pending {
				held[op.At] = op.Data
			}
			pending = nil
		case "crash":
			for i, op := range pending {
				if i < len(e.keep) && e.keep[i] {
					held[op.At] = op.Data
				}
			}
			pending = nil
		}
	}
	return held, pending
}

func (m *told) pending() []int {
	_, pending := m.split()
	var ats []int
	for _, op := range pending {
		ats = append(ats, op.At)
	}
	return ats
}

func (m *told) block(at int) api.Block {
	held, pending := m.split()
	b := held[at]
	for _, op := range pending {
		if op.At == at {
			b = op.Data
		}
	}
	return b
}

func (m *told) image() api.Image {
	held, _ := m.split()
	im := api.Image{Blocks: m.blocks}
	for at := range m.blocks {
		if held[at] != (api.Block{}) {
			im.Data = append(im.Data, api.Held{Index: at, Data: held[at]})
		}
	}
	return im
}

func (m *told) made() int {
	n := 0
	for _, e := range m.events {
		if e.kind == "write" || e.kind == "barrier" {
			n++
		}
	}
	return n
}

func (m *told) history() []api.Op {
	var ops []api.Op
	for _, e := range m.events {
		switch e.kind {
		case "write", "barrier":
			ops = append(ops, e.op)
		case "crash":
			ops = nil
		}
	}
	return ops
}

func (m *told) claimed(n int) bool {
	last, claimed := 0, false
	for _, e := range m.events {
		switch e.kind {
		case "claim":
			last++
			claimed = true
		case "crash":
			claimed = false
		}
	}
	return !m.stopped && claimed && n == last
}

// blown asks the fuse.
func (m *told) blown() bool {
	if m.fused && m.fuse == 0 {
		m.stopped = true
		return true
	}
	m.fuse--
	return false
}

func (m *told) write(at int, b api.Block) api.Errno {
	if m.stopped {
		return api.ErrDead
	}
	if at < 0 || at >= m.blocks {
		return api.ErrArg
	}
	if m.blown() {
		return api.ErrDead
	}
	m.events = append(m.events, event{kind: "write", op: write(at, b)})
	return api.OK
}

func (m *told) barrier() api.Errno {
	if m.stopped || m.blown() {
		return api.ErrDead
	}
	m.events = append(m.events, event{kind: "barrier", op: barrier()})
	return api.OK
}

func (m *told) setFuse(n int) {
	if !m.stopped {
		m.fuse, m.fused = n, n >= 0
	}
}

func (m *told) crash(keep []bool) {
	m.events = append(m.events, event{kind: "crash", keep: slices.Clone(keep)})
	m.stopped, m.fused = false, false
}

func (m *told) claim() int {
	if m.stopped {
		return 0
	}
	m.events = append(m.events, event{kind: "claim"})
	m.claims++
	return m.claims
}

func (m *told) read(at int) (api.Block, api.Errno) {
	if m.stopped {
		return api.Block{}, api.ErrDead
	}
	if at < 0 || at >= m.blocks {
		return api.Block{}, api.ErrArg
	}
	m.reads++
	return m.block(at), api.OK
}

// agree holds all that a disk tells against what it ought to tell.
func agree(t testing.TB, d *disk.Disk, m *told) {
	t.Helper()
	if n := d.Len(); n != m.blocks {
		t.Fatalf("Len: %d, not %d", n, m.blocks)
	}
	if s := d.Stopped(); s != m.stopped {
		t.Fatalf("Stopped: %v, not %v", s, m.stopped)
	}
	if ats := d.Pending(); !slices.Equal(ats, m.pending()) {
		t.Fatalf("Pending: %v, not %v", ats, m.pending())
	}
	if n := d.Made(); n != m.made() {
		t.Fatalf("Made: %d, not %d", n, m.made())
	}
	if !slices.Equal(d.History(), m.history()) {
		t.Fatalf("History: %d, not %d, or others", len(d.History()), len(m.history()))
	}
	if im := d.Image(); !sameImage(im, m.image()) {
		t.Fatalf("Image: %d blocks, %d of them not blank, not %d, or others", im.Blocks, len(im.Data), len(m.image().Data))
	}
	for n := -1; n <= m.claims+1; n++ {
		if c := d.Claimed(n); c != m.claimed(n) {
			t.Fatalf("Claimed(%d): %v, not %v", n, c, m.claimed(n))
		}
	}
	for at := -1; at <= m.blocks; at++ {
		b, err := d.Read(at)
		if want, e := m.read(at); b != want || err != e {
			t.Fatalf("Read(%d): %d.., %d, not %d.., %d", at, b[0], err, want[0], e)
		}
	}
	if n := d.Reads(); n != m.reads {
		t.Fatalf("Reads: %d, not %d", n, m.reads)
	}
}

// act is a thing that is done to a disk, and to what it ought to be.
type act func(t testing.TB, d *disk.Disk, m *told)

func writing(at int, b api.Block) act {
	return func(t testing.TB, d *disk.Disk, m *told) {
		t.Helper()
		err := d.Write(at, b)
		if want := m.write(at, b); err != want {
			t.Fatalf("Write(%d): %d, not %d", at, err, want)
		}
	}
}

func barring() act {
	return func(t testing.TB, d *disk.Disk, m *told) {
		t.Helper()
		err := d.Barrier()
		if want := m.barrier(); err != want {
			t.Fatalf("Barrier: %d, not %d", err, want)
		}
	}
}

func fusing(n int) act {
	return func(t testing.TB, d *disk.Disk, m *told) {
		d.Fuse(n)
		m.setFuse(n)
	}
}

func crashing(keep ...bool) act {
	return func(t testing.TB, d *disk.Disk, m *told) {
		t.Helper()
		if err := d.Crash(keep); err != api.OK {
			t.Fatalf("Crash: %d", err)
		}
		m.crash(keep)
	}
}

func claiming() act {
	return func(t testing.TB, d *disk.Disk, m *told) {
		t.Helper()
		n := d.Claim()
		if want := m.claim(); n != want {
			t.Fatalf("Claim: %d, not %d", n, want)
		}
	}
}

// run makes the acts on a new disk and holds it against what it ought to be behind the last of them.
func run(t testing.TB, blocks int, acts ...act) (*disk.Disk, *told) {
	t.Helper()
	d, m := newDisk(t, blocks), &told{blocks: blocks}
	for _, a := range acts {
		a(t, d, m)
	}
	agree(t, d, m)
	return d, m
}

// lists calls check for all lists of up to most numbers from 0 to kinds - 1.
func lists(kinds, most int, check func(list []int)) {
	var grow func(list []int)
	grow = func(list []int) {
		check(list)
		if len(list) == most {
			return
		}
		for k := range kinds {
			grow(append(list[:len(list):len(list)], k))
		}
	}
	grow(nil)
}

// keeps calls check for all choices of keep of 0 to most elements.
func keeps(most int, check func(keep []bool)) {
	lists(2, most, func(list []int) {
		keep := make([]bool, len(list))
		for i, k := range list {
			keep[i] = k == 1
		}
		check(keep)
	})
}

// The numbers that are no disk's blocks.
var noBlocks = []int{math.MinInt, math.MinInt + 1, math.MinInt32, -1048576, -2, -1, 0, 1<<20 + 1, 1<<20 + 2, 1 << 21, math.MaxInt32, math.MaxInt - 1, math.MaxInt}

// P4.1: New at each limit, and at the ends of int.
func TestNew(t *testing.T) {
	for _, n := range noBlocks {
		if d, err := disk.New(n); d != nil || err != api.ErrArg {
			t.Errorf("New(%d): %v, %d", n, d, err)
		}
	}
	for _, n := range []int{1, 2, 3, 4, 1023, 1024, 1<<20 - 1, 1 << 20} {
		d := newDisk(t, n)
		if d.Len() != n || d.Stopped() || d.Made() != 0 || d.Reads() != 0 || len(d.Pending()) != 0 || len(d.History()) != 0 {
			t.Errorf("New(%d): %d blocks, or something was done to it", n, d.Len())
		}
		if im := d.Image(); im.Blocks != n || len(im.Data) != 0 {
			t.Errorf("New(%d): %d blocks are held, %d of them not blank", n, im.Blocks, len(im.Data))
		}
		for _, at := range []int{0, n / 2, n - 1} {
			if b, err := d.Read(at); b != (api.Block{}) || err != api.OK {
				t.Errorf("New(%d), Read(%d): %d.., %d", n, at, b[0], err)
			}
		}
		if d.Claimed(0) || d.Claimed(1) || d.Claimed(-1) {
			t.Errorf("New(%d) is claimed", n)
		}
	}
}

// P4.1: a new disk, and one that is loaded, has no fuse.
func TestNoFuseAtFirst(t *testing.T) {
	for _, d := range []*disk.Disk{newDisk(t, 2), loaded(t, api.Image{Blocks: 2})} {
		for i := range 300 {
			do(t, d, write(i%2, filled(i%250)), barrier())
		}
		if d.Stopped() || d.Made() != 600 {
			t.Errorf("without a fuse: %v, %d", d.Stopped(), d.Made())
		}
	}
}

// P4.1: images that may not be, each for one reason alone.
func TestLoadRefuses(t *testing.T) {
	x, y := filled(1), filled(2)
	for _, n := range noBlocks {
		if d, err := disk.Load(api.Image{Blocks: n}); d != nil || err != api.ErrInval {
			t.Errorf("Load of %d blocks: %v, %d", n, d, err)
		}
	}
	for name, im := range map[string]api.Image{
		"no blocks, and one":         {Blocks: 0, Data: []api.Held{{Index: 0, Data: x}}},
		"too many blocks, and one":   {Blocks: 1<<20 + 1, Data: []api.Held{{Index: 0, Data: x}}},
		"behind the last":            {Blocks: 4, Data: []api.Held{{Index: 4, Data: x}}},
		"far behind the last":        {Blocks: 4, Data: []api.Held{{Index: math.MaxInt, Data: x}}},
		"behind the last, the third": {Blocks: 4, Data: []api.Held{{Index: 0, Data: x}, {Index: 3, Data: x}, {Index: 4, Data: x}}},
		"below 0":                    {Blocks: 4, Data: []api.Held{{Index: -1, Data: x}}},
		"far below 0":                {Blocks: 4, Data: []api.Held{{Index: math.MinInt, Data: x}}},
		"below 0, then not":          {Blocks: 4, Data: []api.Held{{Index: -1, Data: x}, {Index: 0, Data: x}}},
		"twice, alike":               {Blocks: 4, Data: []api.Held{{Index: 2, Data: x}, {Index: 2, Data: x}}},
		"twice, unlike":              {Blocks: 4, Data: []api.Held{{Index: 2, Data: x}, {Index: 2, Data: y}}},
		"twice, block 0":             {Blocks: 4, Data: []api.Held{{Index: 0, Data: x}, {Index: 0, Data: y}}},
		"falling":                    {Blocks: 4, Data: []api.Held{{Index: 1, Data: x}, {Index: 0, Data: y}}},
		"falling at last":            {Blocks: 4, Data: []api.Held{{Index: 0, Data: x}, {Index: 3, Data: y}, {Index: 2, Data: y}}},
		"falling, above the first":   {Blocks: 4, Data: []api.Held{{Index: 1, Data: x}, {Index: 3, Data: y}, {Index: 2, Data: y}}},
		"twice, another between":     {Blocks: 4, Data: []api.Held{{Index: 1, Data: x}, {Index: 3, Data: y}, {Index: 1, Data: x}}},
		"blank":                      {Blocks: 4, Data: []api.Held{{Index: 0}}},
		"blank at last":              {Blocks: 4, Data: []api.Held{{Index: 0, Data: x}, {Index: 3}}},
		"blank in the midst":         {Blocks: 4, Data: []api.Held{{Index: 0, Data: x}, {Index: 1}, {Index: 2, Data: x}}},
		"of one block, a second":     {Blocks: 1, Data: []api.Held{{Index: 1, Data: x}}},
	} {
		if d, err := disk.Load(im); d != nil || err != api.ErrInval {
			t.Errorf("%s: %v, %d", name, d, err)
		}
	}
}

// P4.1: images that may be; a block is not all noughts if a single byte of it is not.
func TestLoad(t *testing.T) {
	x, y := filled(1), filled(2)
	ims := []api.Image{
		{Blocks: 1},
		{Blocks: 1, Data: []api.Held{}},
		{Blocks: 1, Data: []api.Held{{Index: 0, Data: x}}},
		{Blocks: 4, Data: []api.Held{{Index: 0, Data: x}}},
		{Blocks: 4, Data: []api.Held{{Index: 3, Data: x}}},
		{Blocks: 4, Data: []api.Held{{Index: 1, Data: x}, {Index: 2, Data: x}}},
		{Blocks: 4, Data: []api.Held{{Index: 0, Data: x}, {Index: 1, Data: y}, {Index: 2, Data: lone(0)}, {Index: 3, Data: lone(1023)}}},
		{Blocks: 4, Data: []api.Held{{Index: 2, Data: lone(512)}}},
	}
	for i, im := range ims {
		d := loaded(t, im)
		agree(t, d, &told{blocks: im.Blocks, first: im})
		do(t, d, barrier())
		if !sameImage(d.Image(), im) {
			t.Errorf("image %d behind a barrier", i)
		}
	}
	for _, n := range []int{1<<20 - 1, 1 << 20} {
		im := api.Image{Blocks: n, Data: []api.Held{{Index: 0, Data: x}, {Index: n - 1, Data: y}}}
		d := loaded(t, im)
		b, err := d.Read(n - 1)
		c, e := d.Read(n - 2)
		if d.Len() != n || b != y || err != api.OK || c != (api.Block{}) || e != api.OK || !sameImage(d.Image(), im) {
			t.Errorf("Load of %d blocks", n)
		}
	}
}

// P4.2: numbers that no block has; the errors in their order; what counts as read.
func TestRead(t *testing.T) {
	d := loaded(t, api.Image{Blocks: 3, Data: []api.Held{{Index: 2, Data: filled(2)}}})
	none := []int{math.MinInt, math.MinInt + 1, math.MinInt32, -3, -2, -1, 3, 4, 1024, 1 << 20, math.MaxInt32, math.MaxInt - 1, math.MaxInt}
	for _, at := range none {
		if b, err := d.Read(at); b != (api.Block{}) || err != api.ErrArg {
			t.Errorf("Read(%d): %d.., %d", at, b[0], err)
		}
	}
	if d.Reads() != 0 {
		t.Errorf("Reads: %d, though none was answered", d.Reads())
	}
	for at, want := range []api.Block{{}, {}, filled(2)} {
		if b, err := d.Read(at); b != want || err != api.OK || d.Reads() != at+1 {
			t.Errorf("Read(%d): %d.., %d; Reads: %d", at, b[0], err, d.Reads())
		}
	}
	d = stoppedDisk(t)
	for _, at := range append(none, 0, 1, 2) {
		if b, err := d.Read(at); b != (api.Block{}) || err != api.ErrDead {
			t.Errorf("Read(%d) of a disk that has stopped: %d.., %d", at, b[0], err)
		}
	}
	if d.Reads() != 0 || d.Made() != 3 {
		t.Errorf("Reads and Made of a disk that has stopped: %d, %d", d.Reads(), d.Made())
	}
}

// P4.2: what was written last is read, be it pending or held, blank ones too.
func TestReadLatest(t *testing.T) {
	d := newDisk(t, 3)
	expect := func(want ...api.Block) {
		t.Helper()
		for at, w := range want {
			if b, err := d.Read(at); b != w || err != api.OK {
				t.Errorf("Read(%d): %d.., %d, not %d..", at, b[0], err, w[0])
			}
		}
	}
	x, y, z := filled(1), filled(2), filled(3)
	do(t, d, write(0, x))
	expect(x, api.Block{})
	do(t, d, write(0, y), write(1, z))
	expect(y, z, api.Block{})
	do(t, d, write(0, x), barrier())
	expect(x, z, api.Block{})
	do(t, d, write(0, api.Block{}))
	expect(api.Block{}, z)
	do(t, d, write(1, y), write(0, z))
	expect(z, y)
	do(t, d, write(0, api.Block{}), barrier())
	expect(api.Block{}, y, api.Block{})
}

// P4.3: numbers that no block has are refused behind ErrDead and ahead of the fuse, which they do not use up.
func TestWriteRefuses(t *testing.T) {
	none := []int{math.MinInt, math.MinInt + 1, math.MinInt32, -3, -1, 3, 4, 1 << 20, math.MaxInt32, math.MaxInt - 1, math.MaxInt}
	d, m := newDisk(t, 3), &told{blocks: 3}
	writing(1, filled(1))(t, d, m)
	for _, fuse := range []int{-1, 0, 1} {
		fusing(fuse)(t, d, m)
		for _, at := range none {
			if err := d.Write(at, filled(2)); err != api.ErrArg {
				t.Errorf("Write(%d), a fuse of %d: %d", at, fuse, err)
			}
		}
		agree(t, d, m)
	}
	writing(2, filled(3))(t, d, m)
	agree(t, d, m)
	writing(0, filled(4))(t, d, m)
	for _, at := range append(none, 0, 1, 2) {
		if err := d.Write(at, filled(5)); err != api.ErrDead {
			t.Errorf("Write(%d) on a disk that has stopped: %d", at, err)
		}
	}
	if err := d.Barrier(); err != api.ErrDead {
		t.Errorf("Barrier on a disk that has stopped: %d", err)
	}
	agree(t, d, m)
}

// P4.3: at the ends of the largest disk.
func TestWriteAtTheEnds(t *testing.T) {
	d := newDisk(t, 1<<20)
	last := 1<<20 - 1
	do(t, d, write(last, filled(1)), write(0, filled(2)))
	if err := d.Write(1<<20, filled(3)); err != api.ErrArg {
		t.Errorf("Write behind the last block: %d", err)
	}
	if !slices.Equal(d.Pending(), []int{last, 0}) {
		t.Errorf("Pending: %v", d.Pending())
	}
	do(t, d, barrier())
	if im := d.Image(); !sameImage(im, api.Image{Blocks: 1 << 20, Data: []api.Held{{Index: 0, Data: filled(2)}, {Index: last, Data: filled(1)}}}) {
		t.Errorf("Image: %d blocks not blank", len(im.Data))
	}
}

// P4.3: a barrier has all that is pending held in order; of two writes of one block the later one stands, a blank one too.
func TestBarrier(t *testing.T) {
	x, y := filled(1), filled(2)
	for _, c := range []struct {
		ops  []api.Op
		data []api.Held
	}{
		{nil, nil},
		{[]api.Op{write(2, x)}, []api.Held{{Index: 2, Data: x}}},
		{[]api.Op{write(2, x), write(2, y)}, []api.Held{{Index: 2, Data: y}}},
		{[]api.Op{write(2, y), write(2, x)}, []api.Held{{Index: 2, Data: x}}},
		{[]api.Op{write(2, y), write(0, y), write(2, x)}, []api.Held{{Index: 0, Data: y}, {Index: 2, Data: x}}},
		{[]api.Op{write(3, x), write(1, y)}, []api.Held{{Index: 1, Data: y}, {Index: 3, Data: x}}},
		{[]api.Op{write(2, x), write(2, api.Block{})}, nil},
		{[]api.Op{write(2, api.Block{}), write(2, x)}, []api.Held{{Index: 2, Data: x}}},
		{[]api.Op{write(2, x), barrier(), write(2, api.Block{})}, nil},
		{[]api.Op{write(2, x), barrier(), write(1, x)}, []api.Held{{Index: 1, Data: x}, {Index: 2, Data: x}}},
		{[]api.Op{write(1, lone(1023)), barrier(), barrier()}, []api.Held{{Index: 1, Data: lone(1023)}}},
	} {
		d := newDisk(t, 4)
		do(t, d, append(c.ops, barrier())...)
		if im := d.Image(); !sameImage(im, api.Image{Blocks: 4, Data: c.data}) || len(d.Pending()) != 0 {
			t.Errorf("behind a barrier: %d blocks not blank, not %d, or others; Pending: %v", len(im.Data), len(c.data), d.Pending())
		}
		if d.Made() != len(c.ops)+1 || !slices.Equal(d.History(), append(c.ops, barrier())) {
			t.Errorf("Made: %d; History: %d; not %d", d.Made(), len(d.History()), len(c.ops)+1)
		}
	}
}

// P4.4: fuses of each small number against each order of writes and barriers.
func TestFuse(t *testing.T) {
	for fuse := -2; fuse <= 5; fuse++ {
		for places := range 1 << 5 {
			d, m := newDisk(t, 2), &told{blocks: 2}
			fusing(fuse)(t, d, m)
			for i := range 5 {
				var err api.Errno
				if places>>i&1 == 1 {
					err = d.Barrier()
					m.barrier()
				} else {
					err = d.Write(i%2, filled(i))
					m.write(i%2, filled(i))
				}
				blown := fuse >= 0 && i >= fuse
				if blown != (err == api.ErrDead) || !blown && err != api.OK || d.Stopped() != blown {
					t.Fatalf("a fuse of %d, %05b, write or barrier %d: %d, stopped: %v", fuse, places, i, err, d.Stopped())
				}
			}
			agree(t, d, m)
		}
	}
}

// P4.4: what is let through is counted from the last Fuse on; reads, claims and refused calls are not counted.
func TestFuseAnew(t *testing.T) {
	for first := -1; first <= 3; first++ {
		for between := range 3 {
			if first >= 0 && between > first {
				continue
			}
			for second := -2; second <= 3; second++ {
				d, m := newDisk(t, 2), &told{blocks: 2}
				fusing(first)(t, d, m)
				for range between {
					barring()(t, d, m)
				}
				fusing(second)(t, d, m)
				for range 3 {
					agree(t, d, m)
					claiming()(t, d, m)
					writing(2, filled(9))(t, d, m)
				}
				for i := range 5 {
					blown := second >= 0 && i >= second
					if err := d.Write(0, filled(i)); (err == api.ErrDead) != blown || d.Stopped() != blown {
						t.Fatalf("fuses of %d, then %d: write %d: %d", first, second, i, err)
					}
				}
			}
		}
	}
}

// P4.4: the ends of int.
func TestFuseEnds(t *testing.T) {
	for _, n := range []int{math.MinInt, math.MinInt + 1, math.MinInt32, -2, -1, math.MaxInt32, math.MaxInt - 1, math.MaxInt} {
		d := newDisk(t, 2)
		d.Fuse(0)
		d.Fuse(n)
		for i := range 20 {
			do(t, d, write(i%2, filled(i)), barrier())
		}
		if d.Stopped() {
			t.Errorf("a fuse of %d", n)
		}
	}
}

// P4.4: on a disk that has stopped a fuse changes nothing, neither now nor behind the next going of the power.
func TestFuseOnStopped(t *testing.T) {
	for _, n := range []int{math.MinInt, -1, 0, 1, 2, math.MaxInt} {
		d := stoppedDisk(t)
		d.Fuse(n)
		if _, err := d.Read(1); err != api.ErrDead || !d.Stopped() || d.Write(1, filled(1)) != api.ErrDead || d.Barrier() != api.ErrDead {
			t.Errorf("a fuse of %d started a disk", n)
		}
		if !slices.Equal(d.Pending(), []int{2}) || d.Made() != 3 {
			t.Errorf("a fuse of %d: Pending: %v, Made: %d", n, d.Pending(), d.Made())
		}
		d.Crash(nil)
		do(t, d, barrier(), barrier(), barrier())
		if d.Stopped() {
			t.Errorf("a fuse of %d, set while the disk had stopped, stopped it", n)
		}
	}
}

// P4.4: a disk that its fuse has not yet stopped has not stopped.
func TestNotYetStopped(t *testing.T) {
	d := newDisk(t, 2)
	d.Fuse(0)
	if b, err := d.Read(1); d.Stopped() || b != (api.Block{}) || err != api.OK || d.Claim() != 1 || !d.Claimed(1) {
		t.Errorf("a fuse of 0 that nothing met yet: %v, %d", d.Stopped(), err)
	}
	if err := d.Write(1, filled(1)); err != api.ErrDead || !d.Stopped() || len(d.Pending()) != 0 || len(d.History()) != 0 || d.Made() != 0 {
		t.Errorf("a write that the fuse does not let through: %d; Pending: %v", err, d.Pending())
	}
}

// P4.5, P4.8: every choice of keep, shorter and longer than what is pending, for all lists of up to 4 writes of two blocks: each block is as it was held, or as one of its own writes left it, the last that was kept.
func TestCrashKeeps(t *testing.T) {
	first := api.Image{Blocks: 3, Data: []api.Held{{Index: 0, Data: filled(100)}, {Index: 2, Data: filled(102)}}}
	lists(3, 4, func(ats []int) {
		keeps(6, func(keep []bool) {
			d := loaded(t, first)
			want := []api.Block{filled(100), {}, filled(102)}
			for i, at := range ats {
				b := filled(i)
				if at == 2 { // a blank one among those of block 0
					at, b = 0, api.Block{}
				}
				do(t, d, write(at, b))
				if i < len(keep) && keep[i] {
					want[at] = b
				}
			}
			if err := d.Crash(keep); err != api.OK {
				t.Fatalf("Crash(%v): %d", keep, err)
			}
			if len(d.Pending()) != 0 || len(d.History()) != 0 || d.Made() != len(ats) {
				t.Fatalf("behind Crash: Pending: %v, History: %d, Made: %d", d.Pending(), len(d.History()), d.Made())
			}
			im := api.Image{Blocks: 3}
			for at, w := range want {
				if b, err := d.Read(at); b != w || err != api.OK {
					t.Fatalf("writes of %v, Crash(%v), Read(%d): %d.., %d, not %d..", ats, keep, at, b[0], err, w[0])
				}
				if w != (api.Block{}) {
					im.Data = append(im.Data, api.Held{Index: at, Data: w})
				}
			}
			if !sameImage(d.Image(), im) {
				t.Fatalf("writes of %v, Crash(%v): Image", ats, keep)
			}
		})
	})
}

// P4.5: what stands ahead of the last barrier is not asked about by keep.
func TestCrashBehindBarrier(t *testing.T) {
	keeps(4, func(keep []bool) {
		acts := []act{writing(0, filled(1)), writing(1, filled(2)), barring(), writing(1, filled(3)), writing(0, filled(4)), crashing(keep...)}
		run(t, 2, acts...)
		run(t, 2, append(acts, writing(1, filled(5)), crashing(keep...), barring())...)
	})
}

// P4.5: of a disk that has stopped the pending writes may be kept as of any other; the write that stopped it is none of them.
func TestCrashStopped(t *testing.T) {
	keeps(4, func(keep []bool) {
		for _, end := range []act{barring(), writing(0, filled(9))} {
			d, m := run(t, 2, fusing(2), writing(0, filled(1)), writing(1, filled(2)), end, end)
			if !d.Stopped() {
				t.Fatal("it has not stopped")
			}
			crashing(keep...)(t, d, m)
			agree(t, d, m)
			for i := range 5 {
				writing(i%2, filled(10+i))(t, d, m)
				barring()(t, d, m)
			}
			agree(t, d, m)
		}
	})
}

// P4.5: behind a crash there is no fuse, one that was not yet met neither.
func TestCrashTakesFuse(t *testing.T) {
	for fuse := range 4 {
		for met := range 6 {
			d, m := newDisk(t, 2), &told{blocks: 2}
			fusing(fuse)(t, d, m)
			for range met {
				barring()(t, d, m)
			}
			crashing()(t, d, m)
			agree(t, d, m)
			for i := range 6 {
				do(t, d, write(i%2, filled(i)), barrier())
			}
		}
	}
}

// P4.6: Made counts on over a crash, Reads too; History begins anew; all are told of a disk that has stopped.
func TestTold(t *testing.T) {
	d := newDisk(t, 4)
	x, y := filled(1), filled(2)
	do(t, d, write(3, x), write(1, y), write(3, y))
	if !slices.Equal(d.Pending(), []int{3, 1, 3}) || d.Made() != 3 || len(d.Image().Data) != 0 {
		t.Errorf("Pending: %v, Made: %d", d.Pending(), d.Made())
	}
	if !slices.Equal(d.History(), []api.Op{write(3, x), write(1, y), write(3, y)}) {
		t.Errorf("History: %d", len(d.History()))
	}
	d.Read(3)
	d.Crash([]bool{true, true})
	if d.Made() != 3 || d.Reads() != 1 || len(d.History()) != 0 {
		t.Errorf("behind a crash: Made: %d, Reads: %d, History: %d", d.Made(), d.Reads(), len(d.History()))
	}
	do(t, d, barrier(), write(0, x), barrier(), write(2, x))
	d.Read(0)
	d.Fuse(0)
	d.Write(1, x)
	d.Barrier()
	d.Read(0)
	if d.Len() != 4 || !d.Stopped() || d.Made() != 7 || d.Reads() != 2 || !slices.Equal(d.Pending(), []int{2}) {
		t.Errorf("stopped: Made: %d, Reads: %d, Pending: %v", d.Made(), d.Reads(), d.Pending())
	}
	if !slices.Equal(d.History(), []api.Op{barrier(), write(0, x), barrier(), write(2, x)}) {
		t.Errorf("stopped: History: %d", len(d.History()))
	}
	want := []api.Held{{Index: 0, Data: x}, {Index: 1, Data: y}, {Index: 3, Data: x}}
	if !sameImage(d.Image(), api.Image{Blocks: 4, Data: want}) {
		t.Errorf("stopped: Image: %d", len(d.Image().Data))
	}
}

// P4.6: an image rises by its numbers, however many there are and in whatever order they were written.
func TestImageRises(t *testing.T) {
	const n = 1000
	d := newDisk(t, n)
	for i := range n {
		do(t, d, write(i*373%n, filled(i)))
		if i%7 == 0 {
			do(t, d, barrier())
		}
	}
	do(t, d, barrier())
	im := d.Image()
	if im.Blocks != n || len(im.Data) != n {
		t.Fatalf("Image: %d blocks, %d of them not blank", im.Blocks, len(im.Data))
	}
	for i := range n {
		h := im.Data[i*373%n]
		if h.Index != i*373%n || h.Data != filled(i) {
			t.Fatalf("Image: %d at %d", h.Index, i*373%n)
		}
	}
	for i := range n {
		if i%2 == 0 {
			do(t, d, write(i, api.Block{}))
		}
	}
	do(t, d, barrier())
	im = d.Image()
	if len(im.Data) != n/2 {
		t.Fatalf("Image: %d not blank", len(im.Data))
	}
	for i, h := range im.Data {
		if h.Index != 2*i+1 {
			t.Fatalf("Image: %d at %d", h.Index, i)
		}
	}
}

// P4.2, P4.3: many writes that are pending, and many barriers behind them, are not slow.
func TestManyPending(t *testing.T) {
	const n = 1 << 15
	d := newDisk(t, 1<<20)
	for i := range n {
		do(t, d, write(i*7, lone(i%1024)))
		if b, err := d.Read(i / 2 * 7); err != api.OK || b != lone(i/2%1024) {
			t.Fatalf("Read behind write %d: %d", i, err)
		}
	}
	if len(d.Pending()) != n || d.Reads() != n {
		t.Errorf("Pending: %d, Reads: %d", len(d.Pending()), d.Reads())
	}
	for i := range n {
		do(t, d, barrier(), write(i, lone(i%1024)))
	}
	if d.Made() != 3*n || len(d.Pending()) != 1 {
		t.Errorf("Made: %d, Pending: %d", d.Made(), len(d.Pending()))
	}
}

// P4.7: claims before and behind a power cut, on a disk that has stopped, and on two disks.
func TestClaims(t *testing.T) {
	d, other := newDisk(t, 2), newDisk(t, 2)
	only := func(owner int) {
		t.Helper()
		for _, n := range []int{math.MinInt, -1, 0, 1, 2, 3, 4, 5, 6, math.MaxInt} {
			if d.Claimed(n) != (n == owner) {
				t.Errorf("Claimed(%d): %v; it is %d's", n, d.Claimed(n), owner)
			}
		}
	}
	const nobody = 1000
	only(nobody)
	for i := 1; i <= 3; i++ {
		if n := d.Claim(); n != i {
			t.Errorf("Claim: %d, not %d", n, i)
		}
		only(i)
	}
	do(t, d, write(0, filled(1)), barrier())
	only(3)
	if n := other.Claim(); n != 1 || !other.Claimed(1) {
		t.Errorf("another disk's claim: %d", n)
	}
	d.Crash(nil)
	only(nobody)
	if n := d.Claim(); n != 4 {
		t.Errorf("Claim behind a crash: %d", n)
	}
	only(4)
	d.Fuse(0)
	only(4)
	d.Barrier()
	only(nobody)
	for range 3 {
		if n := d.Claim(); n != 0 {
			t.Errorf("Claim of a disk that has stopped: %d", n)
		}
	}
	only(nobody)
	d.Crash([]bool{true})
	only(nobody)
	d.Crash(nil)
	if n := d.Claim(); n != 5 {
		t.Errorf("Claim behind two crashes: %d", n)
	}
	only(5)
	if !other.Claimed(1) {
		t.Error("another disk's claim is over")
	}
}

// P4.8: long lives by a row of numbers: behind a barrier what is held is what Read tells; behind a crash each block is as it was held or as one of its pending writes left it; Load of Image reads, without what is pending, as the other disk.
func TestFollows(t *testing.T) {
	seed := uint32(7)
	next := func(n int) int {
		seed = seed*1664525 + 1013904223
		return int(seed>>8) % n
	}
	for range 40 {
		d, m := newDisk(t, 5), &told{blocks: 5}
		for range 100 {
			live(t, d, m, next)
			agree(t, d, m)
		}
	}
}

func live(t testing.TB, d *disk.Disk, m *told, next func(n int) int) {
	t.Helper()
	switch next(10) {
	case 0:
		barring()(t, d, m)
		if !d.Stopped() {
			reads(t, d, m, d.Image())
		}
	case 1:
		held, pending := d.Image(), d.History()[len(d.History())-len(d.Pending()):]
		keep := make([]bool, next(8))
		for i := range keep {
			keep[i] = next(2) == 0
		}
		crashing(keep...)(t, d, m)
		for at := range 5 {
			among(t, blockOf(d.Image(), at), blockOf(held, at), at, pending)
		}
	case 2:
		fusing(next(20)-2)(t, d, m)
	case 3:
		im := d.Image()
		agree(t, loaded(t, im), &told{blocks: 5, first: im})
		crashing()(t, d, m)
		reads(t, d, m, im)
	case 4:
		claiming()(t, d, m)
	default:
		b := filled(next(200))
		if next(5) == 0 {
			b = api.Block{}
		}
		writing(next(5), b)(t, d, m)
	}
}

// reads tells whether a disk reads as an image.
func reads(t testing.TB, d *disk.Disk, m *told, im api.Image) {
	t.Helper()
	for at := range im.Blocks {
		b, err := d.Read(at)
		m.reads++
		if b != blockOf(im, at) || err != api.OK {
			t.Fatalf("block %d is not read as it is held: %d", at, err)
		}
	}
}

func blockOf(im api.Image, at int) api.Block {
	for _, h := range im.Data {
		if h.Index == at {
			return h.Data
		}
	}
	return api.Block{}
}

// among tells whether a block is as it was held, or as one of its pending writes left it.
func among(t testing.TB, b, held api.Block, at int, pending []api.Op) {
	t.Helper()
	if b != held && !slices.Contains(pending, write(at, b)) {
		t.Fatalf("block %d holds what was neither held nor written", at)
	}
}

// All promises together: every list of up to 5 acts, held against the document's words.
func TestAllShortLives(t *testing.T) {
	acts := []act{
		writing(0, filled(1)), writing(0, filled(2)), writing(1, filled(3)), writing(0, api.Block{}), barring(),
		fusing(0), fusing(1), fusing(-1), crashing(), crashing(false, true), claiming(),
	}
	lists(len(acts), 5, func(list []int) {
		d, m := newDisk(t, 2), &told{blocks: 2}
		for _, k := range list {
			acts[k](t, d, m)
		}
		agree(t, d, m)
	})
}

// Rule 3: what is handed out is new memory, its spare room too.
func TestAnswersAreNew(t *testing.T) {
	d, m := run(t, 4, writing(1, filled(1)), barring(), writing(2, filled(2)), writing(1, filled(3)), claiming())
	ruin := func() {
		ops := d.History()
		ops = ops[:cap(ops)]
		for i := range ops {
			ops[i] = api.Op{Kind: 99, At: 99, Data: filled(99)}
		}
		ats := d.Pending()
		ats = ats[:cap(ats)]
		for i := range ats {
			ats[i] = 99
		}
		data := d.Image().Data
		data = data[:cap(data)]
		for i := range data {
			data[i] = api.Held{Index: 99, Data: filled(99)}
		}
	}
	ruin()
	agree(t, d, m)
	for _, a := range []act{writing(3, filled(4)), barring(), crashing(true), writing(0, filled(5)), fusing(0), barring(), crashing(true), barring()} {
		ruin()
		a(t, d, m)
		ruin()
		agree(t, d, m)
	}
}

// Rule 3: nothing of an answer changes with what is called later.
func TestAnswersStay(t *testing.T) {
	d := newDisk(t, 4)
	do(t, d, write(1, filled(1)), barrier(), write(2, filled(2)), write(1, filled(3)))
	ops, ats, im := d.History(), d.Pending(), d.Image()
	more, _ := d.Read(2)
	wantOps, wantAts, wantIm := slices.Clone(ops), slices.Clone(ats), api.Image{Blocks: 4, Data: slices.Clone(im.Data)}
	do(t, d, write(1, filled(4)), write(0, filled(5)), barrier(), write(1, filled(6)))
	d.Crash([]bool{true})
	do(t, d, write(2, filled(7)), write(3, filled(8)), barrier())
	if !slices.Equal(ops, wantOps) || !slices.Equal(ats, wantAts) || !sameImage(im, wantIm) || more != filled(2) {
		t.Error("an answer changed with what was called later")
	}
}

// Rule 3: what is handed in is neither changed nor kept nor looked at later, its spare room too.
func TestArgumentsAreNotKept(t *testing.T) {
	room := make([]api.Held, 4)
	room[0], room[1] = api.Held{Index: 1, Data: filled(1)}, api.Held{Index: 3, Data: filled(3)}
	room[2], room[3] = api.Held{Index: 50, Data: filled(50)}, api.Held{Index: 60, Data: filled(60)}
	before := slices.Clone(room)
	d := loaded(t, api.Image{Blocks: 4, Data: room[:2]})
	m := &told{blocks: 4, first: api.Image{Blocks: 4, Data: before[:2]}}
	for i := range room {
		room[i] = api.Held{Index: 0, Data: filled(99)}
	}
	agree(t, d, m)
	writing(1, filled(7))(t, d, m)
	barring()(t, d, m)
	agree(t, d, m)
	for i := range room {
		if room[i] != (api.Held{Index: 0, Data: filled(99)}) {
			t.Error("the image that was handed in was written to")
		}
	}

	copy(room, before)
	loaded(t, api.Image{Blocks: 4, Data: room[:2]})
	if !slices.Equal(room, before) {
		t.Error("Load changed the image that was handed in")
	}

	keeping := []bool{true, false, true, true}
	writing(0, filled(8))(t, d, m)
	writing(1, filled(9))(t, d, m)
	writing(2, filled(10))(t, d, m) // behind keep's length, though in its spare room
	crashing(keeping[:2]...)(t, d, m)
	if !slices.Equal(keeping, []bool{true, false, true, true}) {
		t.Error("Crash changed keep")
	}
	for i := range keeping {
		keeping[i] = !keeping[i]
	}
	agree(t, d, m)
}

// Rule 6: no disk has to do with another one.
func TestDisksApart(t *testing.T) {
	im := api.Image{Blocks: 2, Data: []api.Held{{Index: 0, Data: filled(1)}}}
	a, b := loaded(t, im), loaded(t, im)
	do(t, a, write(0, filled(2)), write(1, filled(3)), barrier())
	a.Claim()
	a.Fuse(0)
	a.Barrier()
	agree(t, b, &told{blocks: 2, first: im})
}

// Rule 4: a disk that is nil, or that nobody made, a copy of one that was made too.
func TestNoDisk(t *testing.T) {
	var none *disk.Disk
	d, m := run(t, 2, writing(0, filled(1)), barring(), writing(1, filled(2)), claiming())
	copied := *d
	stopped := *stoppedDisk(t)
	noDisk(t, none, &disk.Disk{}, new(disk.Disk), &copied, &stopped)
	writing(1, filled(3))(t, d, m)
	noDisk(t, &copied)
	agree(t, d, m)
}

func noDisk(t testing.TB, disks ...*disk.Disk) {
	t.Helper()
	for _, d := range disks {
		for range 2 { // also behind calls that would have changed a disk
			for _, at := range []int{math.MinInt, -1, 0, 1, math.MaxInt} {
				if b, err := d.Read(at); b != (api.Block{}) || err != api.ErrNil {
					t.Errorf("Read(%d): %d", at, err)
				}
				if err := d.Write(at, filled(1)); err != api.ErrNil {
					t.Errorf("Write(%d): %d", at, err)
				}
				d.Fuse(at)
				if d.Claimed(at) {
					t.Errorf("Claimed(%d)", at)
				}
			}
			if err := d.Barrier(); err != api.ErrNil {
				t.Errorf("Barrier: %d", err)
			}
			if err := d.Crash(nil); err != api.ErrNil {
				t.Errorf("Crash: %d", err)
			}
			if err := d.Crash([]bool{true}); err != api.ErrNil {
				t.Errorf("Crash: %d", err)
			}
			if d.Len() != 0 || d.Stopped() || d.Made() != 0 || d.Reads() != 0 || d.Claim() != 0 {
				t.Error("a number is told of no disk")
			}
			if im := d.Image(); len(d.Pending()) != 0 || len(d.History()) != 0 || im.Blocks != 0 || len(im.Data) != 0 {
				t.Error("something is told of no disk")
			}
		}
	}
}

// The numbers of the errors.
func TestErrors(t *testing.T) {
	var none *disk.Disk
	d := newDisk(t, 1)
	_, arg := disk.New(0)
	_, inval := disk.Load(api.Image{})
	outside := d.Write(1, filled(1))
	d.Fuse(0)
	for i, err := range []api.Errno{d.Barrier(), none.Barrier(), arg, outside, inval, d.Crash(nil)} {
		if want := []int{3, 1, 2, 2, 4, 0}[i]; int(err) != want {
			t.Errorf("error %d: %d, not %d", i, err, want)
		}
	}
}

// The chapter's table of examples, line by line.
func TestExamples(t *testing.T) {
	x, y := filled(1), filled(2)
	_, few := disk.New(0)
	_, many := disk.New(1<<20 + 1)
	_, most := disk.New(1 << 20)
	if few != api.ErrArg || many != api.ErrArg || most != api.OK {
		t.Errorf("New: %d, %d, %d", few, many, most)
	}

	d := newDisk(t, 4)
	err := d.Write(1, x)
	b, e := d.Read(1)
	if err != api.OK || e != api.OK || b != x || !slices.Equal(d.Pending(), []int{1}) || !sameImage(d.Image(), api.Image{Blocks: 4}) || d.Made() != 1 {
		t.Error("a write that is pending")
	}
	if err := d.Barrier(); err != api.OK || len(d.Pending()) != 0 {
		t.Errorf("a barrier: %d", err)
	}
	if !sameImage(d.Image(), api.Image{Blocks: 4, Data: []api.Held{{Index: 1, Data: x}}}) || !slices.Equal(d.History(), []api.Op{write(1, x), barrier()}) {
		t.Error("behind a barrier")
	}
	if d.Write(1, y) != api.OK || d.Write(2, y) != api.OK || d.Crash([]bool{false, true}) != api.OK {
		t.Error("two writes, and a crash")
	}
	b, _ = d.Read(1)
	c, _ := d.Read(2)
	if b != x || c != y || len(d.History()) != 0 {
		t.Error("behind a crash")
	}

	d = newDisk(t, 4)
	d.Fuse(1)
	if d.Write(0, x) != api.OK || d.Barrier() != api.ErrDead || !d.Stopped() {
		t.Error("a fuse of 1")
	}
	if _, e := d.Read(0); e != api.ErrDead || !slices.Equal(d.Pending(), []int{0}) {
		t.Error("a disk that has stopped")
	}
	err = d.Crash(nil)
	b, e = d.Read(0)
	if err != api.OK || b != (api.Block{}) || e != api.OK || d.Stopped() {
		t.Error("the power came again")
	}

	d = newDisk(t, 4)
	if d.Claim() != 1 || d.Claim() != 2 || d.Claimed(1) || !d.Claimed(2) {
		t.Error("claims")
	}
	if d.Crash(nil) != api.OK || d.Claimed(2) || d.Claim() != 3 {
		t.Error("claims behind a crash")
	}

	for i, im := range []api.Image{
		{Blocks: 2, Data: []api.Held{{Index: 1, Data: x}}},
		{Blocks: 2, Data: []api.Held{{Index: 2, Data: x}}},
		{Blocks: 2, Data: []api.Held{{Index: 0}}},
		{Blocks: 0},
	} {
		want := []api.Errno{api.OK, api.ErrInval, api.ErrInval, api.ErrInval}[i]
		if d, err := disk.Load(im); err != want || (d == nil) != (err != api.OK) {
			t.Errorf("Load of image %d: %d, not %d", i, err, want)
		}
	}
}
