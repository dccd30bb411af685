package node_test

import (
	"math"
	"testing"

	"undercroft/api"
	"undercroft/node"
	"undercroft/slab"
)

// field is a field of an inode: how many bytes it has, from which on.
type field struct {
	at, size int
	get      func(n api.Node) uint32
	set      func(n *api.Node, v uint32)
}

// fields are an inode's fields by the chapter's words, in the order in which they stand.
func fields() []field {
	l := []field{
		{0, 2, func(n api.Node) uint32 { return uint32(n.Kind) }, func(n *api.Node, v uint32) { n.Kind = api.Kind(v) }},
		{2, 2, func(n api.Node) uint32 { return uint32(n.Links) }, func(n *api.Node, v uint32) { n.Links = uint16(v) }},
		{4, 4, func(n api.Node) uint32 { return n.Size }, func(n *api.Node, v uint32) { n.Size = v }},
		{8, 4, func(n api.Node) uint32 { return n.Blocks }, func(n *api.Node, v uint32) { n.Blocks = v }},
	}
	for i := range 12 {
		l = append(l, field{12 + 4*i, 4, func(n api.Node) uint32 { return *twelve(&n)[i] }, func(n *api.Node, v uint32) { *twelve(n)[i] = v }})
	}
	return l
}

// most is the greatest number that a field has.
func (f field) most() uint32 {
	if f.size == 2 {
		return 1<<16 - 1
	}
	return 1<<32 - 1
}

// numbers are those at and about the ends of a field and of its bytes.
func (f field) numbers() []uint32 {
	l := []uint32{0, 1, 2, 127, 128, 255, 256, 0x1234, 1<<15 - 1, 1 << 15, f.most() - 1, f.most()}
	if f.size == 4 {
		l = append(l, 1<<16-1, 1<<16, 1<<24, 0x12345678, 1<<31-1, 1<<31)
	}
	return l
}

// written are an inode's bytes by the chapter's words: each number with its lowest byte first, noughts behind them.
func written(n api.Node) node.Bytes {
	var b node.Bytes
	for _, f := range fields() {
		v := f.get(n)
		for k := range f.size {
			b[f.at+k] = byte(v % 256)
			v /= 256
		}
	}
	return b
}

// read is the inode of such bytes.
func read(b node.Bytes) api.Node {
	var n api.Node
	for _, f := range fields() {
		v := uint32(0)
		for k := f.size - 1; k >= 0; k-- {
			v = v*256 + uint32(b[f.at+k])
		}
		f.set(&n, v)
	}
	return n
}

// motley is an inode whose bytes all differ.
func motley() api.Node {
	var b node.Bytes
	for i := range b {
		b[i] = byte(3*i + 1)
	}
	return read(b)
}

// thereAndBack holds Encode, and Decode of its bytes, against the words.
func thereAndBack(t *testing.T, n api.Node) {
	t.Helper()
	b := node.Encode(n)
	if b != written(n) {
		t.Errorf("Encode of %+v: %v", n, b)
	}
	if back := node.Decode(b); back != n {
		t.Errorf("Decode of Encode of %+v: %+v", n, back)
	}
}

// backAndThere holds Decode, and Encode of its inode, against the words.
func backAndThere(t *testing.T, b node.Bytes) {
	t.Helper()
	n := node.Decode(b)
	if n != read(b) {
		t.Errorf("Decode of %v: %+v", b, n)
	}
	want := b
	want[60], want[61], want[62], want[63] = 0, 0, 0, 0
	if again := node.Encode(n); again != want {
		t.Errorf("Encode of Decode of %v: %v", b, again)
	}
}

// P10.1, P10.4: each field at both its ends and between, by itself, among noughts, and among others.
func TestFieldsThereAndBack(t *testing.T) {
	for _, f := range fields() {
		for _, v := range f.numbers() {
			for _, n := range []api.Node{{}, file(), directory(), motley()} {
				f.set(&n, v)
				if f.get(n) != v {
					t.Fatalf("the field at %d has no %d", f.at, v)
				}
				thereAndBack(t, n)
			}
		}
	}
}

// P10.1: a field stands in its own bytes and in no others.
func TestFieldsByThemselves(t *testing.T) {
	for _, f := range fields() {
		var n api.Node
		f.set(&n, f.most())
		b := node.Encode(n)
		for i, c := range b {
			if inside := i >= f.at && i < f.at+f.size; inside != (c == 255) || !inside && c != 0 {
				t.Errorf("the field at %d: byte %d is %d", f.at, i, c)
			}
		}
	}
}

// P10.1: every two fields at both their ends.
func TestTwoFields(t *testing.T) {
	for i, f := range fields() {
		for _, g := range fields()[:i] {
			for _, v := range []uint32{0, 1, f.most()} {
				for _, w := range []uint32{0, 1, g.most()} {
					n := motley()
					f.set(&n, v)
					g.set(&n, w)
					thereAndBack(t, n)
				}
			}
		}
	}
}

// P10.1: all fields at 0, at 1, and at their greatest numbers.
func TestAllFields(t *testing.T) {
	var ones, most api.Node
	for _, f := range fields() {
		f.set(&ones, 1)
		f.set(&most, f.most())
	}
	for _, n := range []api.Node{{}, ones, most, motley()} {
		thereAndBack(t, n)
	}
	b := node.Encode(most)
	for i, c := range b {
		if (c == 255) != (i < 60) || i >= 60 && c != 0 {
			t.Errorf("of the greatest numbers byte %d is %d", i, c)
		}
	}
}

// P10.1: every number of the fields that have two bytes.
func TestAllKindsAndLinks(t *testing.T) {
	for v := range 1 << 16 {
		n := motley()
		n.Kind, n.Links = api.Kind(v), uint16(v+12345)
		thereAndBack(t, n)
	}
}

// P10.1: each byte with each value, among noughts, among 255s and among others.
func TestEveryByte(t *testing.T) {
	var most node.Bytes
	for i := range most {
		most[i] = 255
	}
	for _, b := range []node.Bytes{{}, most, written(motley())} {
		for at := range b {
			for v := range 256 {
				c := b
				c[at] = byte(v)
				backAndThere(t, c)
			}
		}
	}
}

// P10.1: any bytes.
func TestAnyBytes(t *testing.T) {
	var seed uint64 = 7
	for range 50000 {
		var b node.Bytes
		for i := range b {
			seed = seed*6364136223846793005 + 1442695040888963407
			b[i] = byte(seed >> 40)
		}
		backAndThere(t, b)
	}
}

// P10.1: the last four bytes count for nothing, whatever the others are.
func TestLastFourBytes(t *testing.T) {
	for _, n := range []api.Node{{}, file(), directory(), motley()} {
		for _, tail := range [][4]byte{{1}, {0, 1}, {0, 0, 1}, {0, 0, 0, 1}, {255, 255, 255, 255}, {39, 0, 0, 0}, {0, 0, 0, 128}} {
			b := written(n)
			copy(b[60:], tail[:])
			if got := node.Decode(b); got != n {
				t.Errorf("with %v at its end, %+v is %+v", tail, n, got)
			}
			backAndThere(t, b)
		}
	}
}

// P10.4: a free inode is 64 noughts, and these are a free inode.
func TestFreeIsBlank(t *testing.T) {
	if b := node.Encode(api.Node{}); b != (node.Bytes{}) {
		t.Errorf("a free inode: %v", b)
	}
	if n := node.Decode(node.Bytes{}); n != (api.Node{}) {
		t.Errorf("64 noughts: %+v", n)
	}
}

// P10.4: no inode but the free one has 64 noughts.
func TestOthersAreNotBlank(t *testing.T) {
	for _, f := range fields() {
		for _, v := range f.numbers() {
			var n api.Node
			if f.set(&n, v); v != 0 && node.Encode(n) == (node.Bytes{}) {
				t.Errorf("%+v is written as noughts", n)
			}
		}
	}
}

// The layout: an inode's numbers are those that slab reads where it stands in a block.
func TestInABlock(t *testing.T) {
	for i := range 16 {
		n := motley()
		n.Size += uint32(i)
		b := node.Encode(n)
		in := slab.Lay(api.Block{}, 64*i, b[:])
		for _, f := range fields() {
			got := slab.U32(in, 64*i+f.at)
			if f.size == 2 {
				got = uint32(slab.U16(in, 64*i+f.at))
			}
			if got != f.get(n) {
				t.Errorf("place %d: the field at %d is %d", i, f.at, got)
			}
		}
		if back := node.Decode(node.Bytes(slab.Piece(in, 64*i, 64))); back != n {
			t.Errorf("place %d: %+v", i, back)
		}
	}
}

// Rule 3: what was handed in stays as it is, and no answer changes with a later call.
func TestAnswersStand(t *testing.T) {
	n, b := motley(), written(motley())
	first, from := node.Encode(n), node.Decode(b)
	node.Encode(file())
	node.Decode(written(file()))
	if n != motley() || b != written(motley()) || first != b || from != n {
		t.Error("an inode or its bytes have changed")
	}
	first[0]++
	if again := node.Encode(n); again != b {
		t.Errorf("Encode's second answer: %v", again)
	}
}

// P10.3: of any number and any inode, also one that may not be.
func TestStat(t *testing.T) {
	nodes := []api.Node{{}, file(), directory(), motley(), {Kind: 3, Links: 2000, Size: api.MaxFile + 1, Blocks: 7}}
	for _, f := range fields() {
		for _, v := range f.numbers() {
			n := file()
			f.set(&n, v)
			nodes = append(nodes, n)
		}
	}
	for _, inum := range []int{math.MinInt, -65536, -1, 0, 1, 2, 60, 61, 65535, 65536, math.MaxInt} {
		for _, n := range nodes {
			got := node.Stat(inum, n)
			if got.Inum != inum || got.Kind != n.Kind || got.Links != int(n.Links) || got.Size != int(n.Size) || got.Blocks != int(n.Blocks) {
				t.Errorf("Stat(%d, %+v): %+v", inum, n, got)
			}
		}
	}
}

// P10.3: the block numbers are not told: inodes that differ in them alone have the same Stat.
func TestStatWithoutNumbers(t *testing.T) {
	for i := range 12 {
		n := motley()
		*twelve(&n)[i]++
		if got := node.Stat(9, n); got != node.Stat(9, motley()) {
			t.Errorf("number %d is told: %+v", i, got)
		}
	}
}

// The chapter's examples.
func TestExamples(t *testing.T) {
	lay := layoutOf(t, small())
	want := node.Bytes{1, 0, 1, 0, 3, 0, 0, 0, 1, 0, 0, 0, 39}
	if b := node.Encode(file()); b != want {
		t.Errorf("Encode of the file: %v", b)
	}
	for i, c := range []struct {
		n    api.Node
		turn func(n *api.Node)
		err  api.Errno
	}{
		{file(), func(n *api.Node) {}, api.OK},
		{file(), func(n *api.Node) { n.Direct[0] = 37 }, api.ErrInval},
		{file(), func(n *api.Node) { n.Direct[0] = 0 }, api.ErrInval},
		{file(), func(n *api.Node) { n.Direct[1], n.Blocks = 40, 2 }, api.ErrInval},
		{file(), func(n *api.Node) { n.Blocks = 2 }, api.ErrInval},
		{file(), func(n *api.Node) { n.Size, n.Direct[0], n.Blocks = 2000, 0, 0 }, api.OK},
		{directory(), func(n *api.Node) {}, api.OK},
		{directory(), func(n *api.Node) { n.Links = 1 }, api.ErrInval},
		{directory(), func(n *api.Node) { n.Size = 33 }, api.ErrInval},
		{directory(), func(n *api.Node) { n.Direct[0], n.Blocks = 0, 0 }, api.ErrInval},
		{api.Node{Kind: api.KindFile, Size: 20000, Single: 50, Blocks: 1}, func(n *api.Node) {}, api.ErrInval},
		{api.Node{Kind: api.KindFile, Size: 20000, Single: 50, Blocks: 2}, func(n *api.Node) {}, api.OK},
		{api.Node{Links: 1}, func(n *api.Node) {}, api.ErrInval},
		{api.Node{}, func(n *api.Node) {}, api.OK},
		{api.Node{Kind: 3}, func(n *api.Node) {}, api.ErrInval},
	} {
		c.turn(&c.n)
		if err := node.Check(lay, c.n); err != c.err {
			t.Errorf("example %d: Check of %+v: %d, not %d", i, c.n, err, c.err)
		}
	}
	if s := node.Stat(5, file()); s != (api.Stat{Inum: 5, Kind: api.KindFile, Links: 1, Size: 3, Blocks: 1}) {
		t.Errorf("Stat: %+v", s)
	}
}
