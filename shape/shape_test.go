package shape_test

import (
	"math"
	"reflect"
	"testing"

	"undercroft/api"
	"undercroft/shape"
)

func small() api.Geometry { return api.Geometry{Blocks: 400, Log: 32, Inodes: 60} }

func large() api.Geometry { return api.Geometry{Blocks: 1048576, Log: 256, Inodes: 65535} }

// The numbers that a geometry's fields are given: each limit just inside and just outside, numbers below 0, and the ends of int.
var (
	blockNumbers = []int{
		math.MinInt, math.MinInt + 1, math.MinInt + 8191, math.MinInt + 8192, math.MinInt32, -1048576, -8193, -8192, -8191, -1, 0, 1, 2,
		33, 34, 35, 36, 37, 38, 39, 40, 258, 259, 260, 261, 400, 4130, 4131, 4132, 4133, 4354, 4355, 4356,
		8191, 8192, 8193, 16384, 16385, 65536, 1040384, 1040385, 1048575, 1048576, 1048577, math.MaxInt32, math.MaxInt - 8191, math.MaxInt - 8190, math.MaxInt - 1, math.MaxInt,
	}
	logNumbers   = []int{math.MinInt, math.MinInt + 1, -32, -1, 0, 1, 30, 31, 32, 33, 100, 255, 256, 257, 65536 + 32, math.MaxInt32, math.MaxInt - 1, math.MaxInt}
	inodeNumbers = []int{math.MinInt, math.MinInt + 1, -60, -17, -16, -15, -1, 0, 1, 2, 14, 15, 16, 17, 31, 32, 60, 65518, 65519, 65520, 65534, 65535, 65536, 65537, math.MaxInt32, math.MaxInt - 16, math.MaxInt - 15, math.MaxInt - 1, math.MaxInt}
)

// geometries calls check for all that the numbers make.
func geometries(check func(g api.Geometry)) {
	for _, blocks := range blockNumbers {
		for _, log := range logNumbers {
			for _, inodes := range inodeNumbers {
				check(api.Geometry{Blocks: blocks, Log: log, Inodes: inodes})
			}
		}
	}
}

// held is how many blocks hold n things, if one block holds so many of them.
func held(n, each int) int {
	blocks := n / each
	if n%each > 0 {
		blocks++
	}
	return blocks
}

// laid is the layout by the words of the document's section 'The layout': the regions one behind the other, each behind the blocks of the one ahead.
func laid(g api.Geometry) (api.Layout, bool) {
	if g.Log < 32 || g.Log > 256 || g.Inodes < 1 || g.Inodes > 65535 || g.Blocks < 0 || g.Blocks > 1<<20 {
		return api.Layout{}, false
	}
	where := api.Layout{Geometry: g, NodeBlocks: held(g.Inodes+1, 16), BitsBlocks: held(g.Blocks, 8192)}
	behind := 1 // the superblock
	where.LogAt = behind
	behind += g.Log
	where.NodeAt = behind
	behind += where.NodeBlocks
	where.BitsAt = behind
	behind += where.BitsBlocks
	where.DataAt = behind
	if g.Blocks-behind < 1 {
		return api.Layout{}, false
	}
	return where, true
}

func lies(where api.Layout) bool {
	told, ok := laid(where.Geometry)
	return ok && told == where
}

// written is a layout's superblock by the document's words.
func written(where api.Layout) api.Block {
	var b api.Block
	for i, c := range []byte{'c', 'r', 'o', 'f', 't', 'f', 's', '1'} {
		b[i] = c
	}
	for i, n := range []int{where.Geometry.Blocks, where.Geometry.Log, where.Geometry.Inodes, where.LogAt, where.NodeAt, where.NodeBlocks, where.BitsAt, where.BitsBlocks, where.DataAt} {
		for k := range 4 {
			b[8+4*i+k] = byte(n % 256)
			n /= 256
		}
	}
	return b
}

// read is what Decode ought to tell: the layout among those that may be whose superblock b is. Its numbers are put together as int64, which holds all that four bytes say.
func read(b api.Block, blocks int) (api.Layout, bool) {
	var n [3]int64
	for i := range n {
		for k := 3; k >= 0; k-- {
			n[i] = n[i]*256 + int64(b[8+4*i+k])
		}
		if n[i] > 1<<20 {
			return api.Layout{}, false
		}
	}
	where, ok := laid(api.Geometry{Blocks: int(n[0]), Log: int(n[1]), Inodes: int(n[2])})
	if !ok || where.Geometry.Blocks > blocks || written(where) != b {
		return api.Layout{}, false
	}
	return where, true
}

func layoutOf(t *testing.T, g api.Geometry) api.Layout {
	t.Helper()
	where, err := shape.Of(g)
	if err != api.OK {
		t.Fatalf("Of(%+v): %d", g, err)
	}
	return where
}

func superOf(t *testing.T, where api.Layout) api.Block {
	t.Helper()
	b, err := shape.Encode(where)
	if err != api.OK {
		t.Fatalf("Encode(%+v): %d", where, err)
	}
	return b
}

// The numbers of Region and of the errors.
func TestNumbers(t *testing.T) {
	for want, r := range []shape.Region{shape.RegionNone, shape.RegionSuper, shape.RegionLog, shape.RegionNodes, shape.RegionBits, shape.RegionData} {
		if int(r) != want {
			t.Errorf("region %d is %d", want, r)
		}
	}
	if kind := reflect.TypeOf(shape.RegionNone); kind.Kind() != reflect.Uint8 || kind.Name() != "Region" {
		t.Errorf("a region is a %v", kind)
	}
	if _, err := shape.Of(api.Geometry{}); err != 2 {
		t.Errorf("Of refuses with %d", err)
	}
	if _, err := shape.Encode(api.Layout{}); err != 2 {
		t.Errorf("Encode refuses with %d", err)
	}
	if _, err := shape.Decode(api.Block{}, 400); err != 4 {
		t.Errorf("Decode refuses with %d", err)
	}
}

// P3.1
func TestOf(t *testing.T) {
	some := 0
	geometries(func(g api.Geometry) {
		want, ok := laid(g)
		got, err := shape.Of(g)
		switch {
		case !ok && (err != api.ErrArg || got != api.Layout{}):
			t.Errorf("Of(%+v): %+v, %d", g, got, err)
		case ok && (err != api.OK || got != want):
			t.Errorf("Of(%+v): %+v, %d, not %+v", g, got, err, want)
		}
		if ok {
			some++
		}
	})
	if some < 500 {
		t.Errorf("only %d geometries that may be", some)
	}
}

// P3.1: the least disk of a log and of inodes has one data block; one block less is refused.
func TestLeastDisk(t *testing.T) {
	for log := api.MinLog; log <= api.MaxLog; log += 7 {
		for inodes := 1; inodes <= api.MaxInodes; inodes += 13 {
			g := api.Geometry{Log: log, Inodes: inodes}
			g.Blocks = 1 + log + held(inodes+1, 16) + 1 + 1 // never more than 8,192: its bitmap has one block
			if where, err := shape.Of(g); err != api.OK || where.DataAt != g.Blocks-1 {
				t.Fatalf("Of(%+v): %+v, %d", g, where, err)
			}
			g.Blocks--
			if where, err := shape.Of(g); err != api.ErrArg || where != (api.Layout{}) {
				t.Fatalf("Of(%+v): %+v, %d", g, where, err)
			}
		}
	}
}

// fields are the places of a layout's numbers.
func fields(where *api.Layout) []*int {
	return []*int{
		&where.Geometry.Blocks, &where.Geometry.Log, &where.Geometry.Inodes, &where.LogAt,
		&where.NodeAt, &where.NodeBlocks, &where.BitsAt, &where.BitsBlocks, &where.DataAt,
	}
}

// altered calls check for layouts that differ from where in one number: by a little, below 0, at the ends of int, and by what does not show in the lower 32 or 16 bits.
func altered(where api.Layout, check func(field int, other api.Layout)) {
	wide := 1
	wide <<= 32 // 0 where int has 32 bits
	for i := range fields(&where) {
		was := *fields(&where)[i]
		for _, v := range []int{
			was - 1, was + 1, was - 16, was + 16, -was, ^was, was + 1<<16, was + wide, was - wide, was ^ math.MinInt,
			-1, 0, 1, math.MinInt, math.MinInt + 1, math.MinInt32, math.MaxInt32, math.MaxInt - 1, math.MaxInt,
		} {
			other := where
			*fields(&other)[i] = v
			check(i, other)
		}
	}
}

func someGeometries() []api.Geometry {
	return []api.Geometry{
		small(), large(),
		{Blocks: 36, Log: 32, Inodes: 15}, {Blocks: 37, Log: 32, Inodes: 16}, {Blocks: 36, Log: 32, Inodes: 1},
		{Blocks: 8192, Log: 256, Inodes: 1000}, {Blocks: 8193, Log: 33, Inodes: 31}, {Blocks: 1 << 20, Log: 32, Inodes: 1}, {Blocks: 4356, Log: 256, Inodes: 65535},
	}
}

// P3.2
func TestEncode(t *testing.T) {
	geometries(func(g api.Geometry) {
		where, ok := laid(g)
		if !ok {
			where = api.Layout{Geometry: g, LogAt: 1}
		}
		got, err := shape.Encode(where)
		switch {
		case ok && (err != api.OK || got != written(where)):
			t.Errorf("Encode(%+v): %d, %v", where, err, got[:48])
		case !ok && (err != api.ErrArg || got != api.Block{}):
			t.Errorf("Encode(%+v): %d", where, err)
		}
	})
}

// P3.2: a layout that is not just what Of answers has no superblock; P3.4: nor has it regions.
func TestAltered(t *testing.T) {
	for _, g := range someGeometries() {
		refused := [9]int{}
		altered(layoutOf(t, g), func(field int, other api.Layout) {
			got, err := shape.Encode(other)
			if lies(other) {
				if err != api.OK || got != written(other) {
					t.Errorf("Encode(%+v): %d", other, err)
				}
				return
			}
			refused[field]++
			if err != api.ErrArg || got != (api.Block{}) {
				t.Errorf("Encode(%+v): %d", other, err)
			}
			for _, block := range []int{-1, 0, 1, 32, 33, 34, 35, 37, 38, 399, other.Geometry.Blocks - 1, other.DataAt} {
				if r := shape.Where(other, block); r != shape.RegionNone {
					t.Errorf("Where(%+v, %d): %d", other, block, r)
				}
			}
		})
		for field, n := range refused {
			if n < 5 {
				t.Errorf("%+v: field %d: only %d refused", g, field, n)
			}
		}
	}
}

// P3.2: where a geometry's numbers are out of bounds, what a layout would be by the same sums is refused as well.
func TestEncodeOutOfBounds(t *testing.T) {
	for _, g := range []api.Geometry{{Blocks: 400, Log: 31, Inodes: 60}, {Blocks: 400, Log: 257, Inodes: 60}, {Blocks: 400, Log: 32, Inodes: 0}, {Blocks: 10000, Log: 32, Inodes: 65536}, {Blocks: 1<<20 + 1, Log: 32, Inodes: 60}, {Blocks: 35, Log: 32, Inodes: 15}} {
		where := api.Layout{Geometry: g, LogAt: 1, NodeAt: 1 + g.Log, NodeBlocks: (g.Inodes + 16) / 16, BitsBlocks: (g.Blocks + 8191) / 8192}
		where.BitsAt = where.NodeAt + where.NodeBlocks
		where.DataAt = where.BitsAt + where.BitsBlocks
		if b, err := shape.Encode(where); err != api.ErrArg || b != (api.Block{}) {
			t.Errorf("Encode(%+v): %d", where, err)
		}
		if r := shape.Where(where, 0); r != shape.RegionNone {
			t.Errorf("Where(%+v, 0): %d", where, r)
		}
		if got, err := shape.Decode(written(where), 1<<20+1); err != api.ErrInval || got != (api.Layout{}) {
			t.Errorf("Decode of %+v: %+v, %d", where, got, err)
		}
	}
}

// checkDecode holds Decode against the document's words, and tells whether b was taken.
func checkDecode(t *testing.T, b api.Block, blocks int) bool {
	t.Helper()
	want, ok := read(b, blocks)
	got, err := shape.Decode(b, blocks)
	switch {
	case ok && (err != api.OK || got != want):
		t.Errorf("Decode(%v, %d): %+v, %d", b[:48], blocks, got, err)
	case !ok && (err != api.ErrInval || got != api.Layout{}):
		t.Errorf("Decode(%v, %d): %+v, %d", b[:48], blocks, got, err)
	}
	return ok
}

// P3.3: the disk has as many blocks, more or fewer.
func TestDecodeOfDisks(t *testing.T) {
	for _, g := range someGeometries() {
		b := superOf(t, layoutOf(t, g))
		for _, blocks := range []int{g.Blocks, g.Blocks + 1, 1 << 20, 1<<20 + 1, math.MaxInt32, math.MaxInt} {
			if !checkDecode(t, b, blocks) {
				t.Errorf("%+v: not read of a disk of %d blocks", g, blocks)
			}
		}
		for _, blocks := range []int{g.Blocks - 1, 35, 1, 0, -1, -g.Blocks, math.MinInt32, math.MinInt} {
			if checkDecode(t, b, blocks) {
				t.Errorf("%+v: read of a disk of %d blocks", g, blocks)
			}
		}
	}
}

// P3.3: superblocks that differ in one byte, whichever it is.
func TestDecodeOfOneByteElse(t *testing.T) {
	for _, g := range someGeometries() {
		b := superOf(t, layoutOf(t, g))
		for at := range b {
			for _, change := range []byte{1, 2, 4, 8, 16, 32, 64, 128, 255} {
				c := b
				c[at] ^= change
				taken := checkDecode(t, c, 1<<20)
				if taken && (at < 8 || at > 19) {
					t.Errorf("%+v: read with another byte %d", g, at)
				}
			}
		}
	}
}

// P3.3: each value of the bytes that say the geometry, on disks that are just large enough or not.
func TestDecodeOfAnyGeometry(t *testing.T) {
	taken, refused := 0, 0
	b := superOf(t, layoutOf(t, small()))
	for at := 8; at < 20; at++ {
		for v := range 256 {
			c := b
			c[at] = byte(v)
			for _, blocks := range []int{255, 399, 400, 401, 655, 1 << 20} {
				if checkDecode(t, c, blocks) {
					taken++
				} else {
					refused++
				}
			}
		}
	}
	if taken < 100 || refused < 100 {
		t.Errorf("%d were taken, %d were not", taken, refused)
	}
}

// P3.3: blocks that are no superblock: numbers whose highest bits are set, all bytes alike, one number alone.
func TestDecodeOfOtherBlocks(t *testing.T) {
	for v := range 256 {
		var alike, named api.Block
		for i := range alike {
			alike[i], named[i] = byte(v), byte(v)
		}
		copy(named[:], "croftfs1")
		for _, b := range []api.Block{alike, named} {
			if checkDecode(t, b, math.MaxInt) {
				t.Errorf("read of bytes %d", v)
			}
		}
	}
	b := superOf(t, layoutOf(t, large()))
	for i := range 9 {
		for _, high := range []byte{0x7f, 0x80, 0xff} {
			c := b
			c[8+4*i+3] = high
			if checkDecode(t, c, math.MaxInt) {
				t.Errorf("read with number %d beyond its bounds", i)
			}
		}
	}
}

// region is where a block lies, by how many blocks each region has.
func region(where api.Layout, block int) shape.Region {
	if block < 0 || block >= where.Geometry.Blocks {
		return shape.RegionNone
	}
	for i, n := range []int{1, where.Geometry.Log, where.NodeBlocks, where.BitsBlocks} {
		if block < n {
			return shape.Region(1 + i)
		}
		block -= n
	}
	return shape.RegionData
}

// P3.4: both ends of each region, and what is outside.
func TestWhere(t *testing.T) {
	for _, g := range someGeometries() {
		where := layoutOf(t, g)
		for _, at := range []int{0, where.LogAt, where.NodeAt, where.BitsAt, where.DataAt, g.Blocks} {
			for _, block := range []int{at - 1, at, at + 1} {
				if got, want := shape.Where(where, block), region(where, block); got != want {
					t.Errorf("%+v: block %d: %d, not %d", g, block, got, want)
				}
			}
		}
		for _, block := range []int{math.MinInt, math.MinInt + 1, -g.Blocks, -2, -1, g.Blocks, g.Blocks + 1, g.Blocks + 1<<20, math.MaxInt32, math.MaxInt - 1, math.MaxInt} {
			if got := shape.Where(where, block); got != shape.RegionNone {
				t.Errorf("%+v: block %d: %d", g, block, got)
			}
		}
	}
}

// P3.5: from block to block Where never goes back, leaves out no region, and each has as many blocks as the layout says.
func TestRegionsStandBehindOneAnother(t *testing.T) {
	for _, g := range someGeometries() {
		where := layoutOf(t, g)
		var count [6]int
		last := shape.RegionSuper
		for block := range g.Blocks {
			r := shape.Where(where, block)
			if r != last && r != last+1 {
				t.Fatalf("%+v: block %d is %d behind %d", g, block, r, last)
			}
			last = r
			count[r]++
		}
		if last != shape.RegionData {
			t.Errorf("%+v: the last block is %d", g, last)
		}
		if want := [6]int{0, 1, g.Log, where.NodeBlocks, where.BitsBlocks, g.Blocks - where.DataAt}; count != want {
			t.Errorf("%+v: the regions have %v blocks, not %v", g, count, want)
		}
		for r, n := range count[1:] {
			if n < 1 {
				t.Errorf("%+v: region %d has no block", g, 1+r)
			}
		}
	}
}

// P3.5: there and back.
func TestThereAndBack(t *testing.T) {
	geometries(func(g api.Geometry) {
		where, err := shape.Of(g)
		if err != api.OK {
			return
		}
		b, err := shape.Encode(where)
		if err != api.OK {
			t.Fatalf("Encode(%+v): %d", where, err)
		}
		told, err := shape.Decode(b, g.Blocks)
		if err != api.OK || told != where {
			t.Fatalf("Decode of Encode(%+v): %+v, %d", where, told, err)
		}
		if again, err := shape.Encode(told); err != api.OK || again != b {
			t.Fatalf("Encode of what Decode told: %+v, %d", told, err)
		}
	})
}

// The chapter's examples.
func TestExamples(t *testing.T) {
	for _, c := range []struct{ blocks, log, inodes, nodeAt, nodeBlocks, bitsAt, bitsBlocks, dataAt int }{
		{400, 32, 60, 33, 4, 37, 1, 38},
		{36, 32, 15, 33, 1, 34, 1, 35},
		{37, 32, 16, 33, 2, 35, 1, 36},
		{1048576, 256, 65535, 257, 4096, 4353, 128, 4481},
	} {
		g := api.Geometry{Blocks: c.blocks, Log: c.log, Inodes: c.inodes}
		want := api.Layout{Geometry: g, LogAt: 1, NodeAt: c.nodeAt, NodeBlocks: c.nodeBlocks, BitsAt: c.bitsAt, BitsBlocks: c.bitsBlocks, DataAt: c.dataAt}
		if got, err := shape.Of(g); err != api.OK || got != want {
			t.Errorf("Of(%+v): %+v, %d", g, got, err)
		}
	}
	for _, g := range []api.Geometry{{Blocks: 35, Log: 32, Inodes: 15}, {Blocks: 400, Log: 31, Inodes: 60}, {Blocks: 400, Log: 257, Inodes: 60}, {Blocks: 400, Log: 32, Inodes: 0}, {Blocks: 1048577, Log: 32, Inodes: 60}, {Blocks: -1, Log: 32, Inodes: 60}} {
		if got, err := shape.Of(g); err != api.ErrArg || got != (api.Layout{}) {
			t.Errorf("Of(%+v): %+v, %d", g, got, err)
		}
	}
}

func TestExamplesOfTheSuperblock(t *testing.T) {
	where := layoutOf(t, small())
	b := superOf(t, where)
	if [4]byte(b[8:12]) != [4]byte{144, 1, 0, 0} || [4]byte(b[40:44]) != [4]byte{38, 0, 0, 0} {
		t.Errorf("bytes 8 to 11: %v, 40 to 43: %v", b[8:12], b[40:44])
	}
	if got, err := shape.Decode(b, 400); err != api.OK || got != where {
		t.Errorf("of 400 blocks: %+v, %d", got, err)
	}
	set, moved := b, b
	set[44], moved[40] = 1, 39
	for i, c := range []struct {
		b      api.Block
		blocks int
	}{{b, 399}, {set, 400}, {moved, 400}} {
		if got, err := shape.Decode(c.b, c.blocks); err != api.ErrInval || got != (api.Layout{}) {
			t.Errorf("%d: %+v, %d", i, got, err)
		}
	}
	regions := []shape.Region{shape.RegionSuper, shape.RegionLog, shape.RegionLog, shape.RegionNodes, shape.RegionNodes, shape.RegionBits, shape.RegionData, shape.RegionData, shape.RegionNone, shape.RegionNone}
	for i, block := range []int{0, 1, 32, 33, 36, 37, 38, 399, 400, -1} {
		if got := shape.Where(where, block); got != regions[i] {
			t.Errorf("Where of %d: %d, not %d", block, got, regions[i])
		}
	}
}
