package node_test

import (
	"math"
	"slices"
	"testing"

	"undercroft/api"
	"undercroft/node"
	"undercroft/shape"
)

func small() api.Geometry { return api.Geometry{Blocks: 400, Log: 32, Inodes: 60} }

// some are geometries of one data block, of as many as an inode has numbers and of one fewer and more, of several blocks of the bitmap, and of the most blocks.
func some() []api.Geometry {
	return []api.Geometry{
		small(),
		{Blocks: 36, Log: 32, Inodes: 15}, {Blocks: 46, Log: 32, Inodes: 15}, {Blocks: 47, Log: 32, Inodes: 15}, {Blocks: 48, Log: 32, Inodes: 15},
		{Blocks: 900, Log: 256, Inodes: 1000}, {Blocks: 8193, Log: 32, Inodes: 1}, {Blocks: 70000, Log: 100, Inodes: 65535},
		{Blocks: 1 << 20, Log: 32, Inodes: 1}, {Blocks: 1 << 20, Log: 256, Inodes: 65535},
	}
}

func layoutOf(t testing.TB, g api.Geometry) api.Layout {
	t.Helper()
	lay, err := shape.Of(g)
	if err != api.OK {
		t.Fatalf("Of(%+v): %d", g, err)
	}
	return lay
}

// twelve are the places of an inode's block numbers, in their order.
func twelve(n *api.Node) [12]*uint32 {
	d := &n.Direct
	return [12]*uint32{&d[0], &d[1], &d[2], &d[3], &d[4], &d[5], &d[6], &d[7], &d[8], &d[9], &n.Single, &n.Double}
}

// The points of 'An inode may be', each by its words.
const (
	pointKind = 1 << iota
	pointLinks
	pointSize
	pointRegion
	pointTwice
	pointBeyond
	pointBlocks
	pointSlots
	pointOneLink
	pointHole
)

// broken tells which points an inode breaks on a layout that stands, by the chapter's words; 0: it may be.
func broken(lay api.Layout, n api.Node) int {
	l := twelve(&n)
	all := uint64(n.Kind) + uint64(n.Links) + uint64(n.Size) + uint64(n.Blocks)
	for _, v := range l {
		all += uint64(*v)
	}
	if all == 0 {
		return 0
	}
	b := 0
	point := func(p int, kept bool) {
		if !kept {
			b |= p
		}
	}
	point(pointKind, n.Kind == 1 || n.Kind == 2)
	point(pointLinks, n.Links <= 1000)
	point(pointSize, n.Size <= 67381248)
	m := int64(n.Size) / 1024
	if n.Size%1024 != 0 {
		m++
	}
	there := int64(0)
	for i, v := range l {
		may := int64(i) < m // of a direct one
		switch i {
		case 10:
			may = !(m <= 10)
		case 11:
			may = !(m <= 266)
		}
		if *v == 0 {
			point(pointHole, n.Kind != 2 || !may)
			continue
		}
		there++
		point(pointBeyond, may)
		point(pointRegion, int64(*v) >= int64(lay.DataAt) && int64(*v) < int64(lay.Geometry.Blocks))
		for _, w := range l[:i] {
			point(pointTwice, *w != *v)
		}
	}
	blocks := int64(n.Blocks)
	switch {
	case n.Single == 0 && n.Double == 0:
		point(pointBlocks, blocks == there)
	case n.Double == 0:
		point(pointBlocks, blocks >= there+1)
	case n.Single == 0:
		point(pointBlocks, blocks >= there+2)
	default:
		point(pointBlocks, blocks >= there+3)
	}
	if n.Kind == 2 {
		point(pointSlots, n.Size%16 == 0)
		point(pointOneLink, n.Links != 1)
	}
	return b
}

// check holds Check on a layout that stands against the words, and tells whether the inode may be.
func check(t *testing.T, lay api.Layout, n api.Node) bool {
	t.Helper()
	want := api.OK
	if broken(lay, n) != 0 {
		want = api.ErrInval
	}
	if err := node.Check(lay, n); err != want {
		t.Errorf("%+v: Check of %+v: %d, not %d", lay.Geometry, n, err, want)
	}
	return want == api.OK
}

// may and breaks hold Check and the words against what a test says by itself: that the inode may be, or that it breaks this point and no other.
func may(t *testing.T, lay api.Layout, n api.Node) {
	t.Helper()
	if err, b := node.Check(lay, n), broken(lay, n); err != api.OK || b != 0 {
		t.Errorf("%+v: Check of %+v: %d, not OK (points %#x)", lay.Geometry, n, err, b)
	}
}

func breaks(t *testing.T, lay api.Layout, n api.Node, point int) {
	t.Helper()
	if err, b := node.Check(lay, n), broken(lay, n); err != api.ErrInval || b != point {
		t.Errorf("%+v: Check of %+v: %d, not ErrInval (points %#x, not %#x)", lay.Geometry, n, err, b, point)
	}
}

// least is how many blocks an inode of these numbers has at least.
func least(n api.Node) uint32 {
	k := uint32(0)
	for i, v := range twelve(&n) {
		switch {
		case *v == 0:
		case i == 10: // and one beneath it
			k += 2
		case i == 11: // and two beneath it
			k += 3
		default:
			k++
		}
	}
	return k
}

// full is an inode of a kind and a size that has all numbers that it may have, from at on, and as few blocks as may be; its layout has to have as many data blocks.
func full(kind api.Kind, size, at uint32) api.Node {
	n := api.Node{Kind: kind, Links: 2, Size: size}
	for i, v := range twelve(&n) {
		if from := []uint32{0, 1, 2, 3, 4, 5, 6, 7, 8, 9, 10, 266}[i]; size > 1024*from {
			*v = at + uint32(i)
		}
	}
	n.Blocks = least(n)
	return n
}

// sizes are at and about the bounds at which a number may stand more, of files as of directories.
func sizes() []uint32 {
	var l []uint32
	for m := range uint32(13) {
		l = append(l, 1024*m)
	}
	for _, m := range []uint32{100, 265, 266, 267, 268, 522, 523, 65801, 65802} {
		l = append(l, 1024*m)
	}
	for _, s := range slices.Clone(l) {
		for _, by := range []uint32{1, 15, 16, 17, 512, 1008, 1023} {
			if s+by <= api.MaxFile {
				l = append(l, s+by)
			}
		}
	}
	return l
}

func file() api.Node {
	return api.Node{Kind: api.KindFile, Links: 1, Size: 3, Blocks: 1, Direct: [10]uint32{39}}
}

func directory() api.Node {
	return api.Node{Kind: api.KindDir, Links: 2, Size: 32, Blocks: 1, Direct: [10]uint32{38}}
}

// The numbers of the errors, the kinds and the limits.
func TestNumbers(t *testing.T) {
	if err := node.Check(api.Layout{}, api.Node{}); err != 2 {
		t.Errorf("of no layout: %d", err)
	}
	if err := node.Check(layoutOf(t, small()), api.Node{Links: 1}); err != 4 {
		t.Errorf("of an inode that may not be: %d", err)
	}
	if len(node.Bytes{}) != 64 || api.MaxFile != 67381248 || api.KindFile != 1 || api.KindDir != 2 {
		t.Error("the limits are others")
	}
}

// P10.2: of the free inode, on every layout.
func TestFree(t *testing.T) {
	for _, g := range some() {
		may(t, layoutOf(t, g), api.Node{})
	}
}

// P10.2: Kind 0 with one other field: it is neither free nor of a kind.
func TestFreeWithOneField(t *testing.T) {
	lay := layoutOf(t, small())
	for _, v := range []uint32{1, 2, 16, 38, 399, 1 << 15, 1<<16 - 1} {
		if err := node.Check(lay, api.Node{Links: uint16(v)}); err != api.ErrInval {
			t.Errorf("Links %d: %d", v, err)
		}
	}
	for _, v := range []uint32{1, 2, 16, 38, 399, 1 << 15, 1 << 16, 1 << 31, 1<<32 - 1} {
		for _, n := range []api.Node{{Size: v}, {Blocks: v}} {
			if err := node.Check(lay, n); err != api.ErrInval {
				t.Errorf("%+v: %d", n, err)
			}
		}
		for i := range 12 {
			var n api.Node
			*twelve(&n)[i] = v
			if err := node.Check(lay, n); err != api.ErrInval {
				t.Errorf("%+v: %d", n, err)
			}
		}
	}
	breaks(t, lay, api.Node{Size: 16}, pointKind)
	breaks(t, lay, api.Node{Links: 1}, pointKind)
}

// P10.2: every kind, of inodes that may be else.
func TestKinds(t *testing.T) {
	lay := layoutOf(t, small())
	for _, n := range []api.Node{directory(), full(api.KindDir, 20000, 50), full(api.KindDir, 272400, 50), {Links: 2}, {}} {
		for k := range 1 << 16 {
			n.Kind = api.Kind(k)
			switch {
			case k == 1 || k == 2 || n == api.Node{}:
				may(t, lay, n)
			default:
				breaks(t, lay, n, pointKind)
			}
		}
	}
}

// P10.2: every number of links; a directory may not have 1.
func TestLinks(t *testing.T) {
	lay := layoutOf(t, small())
	for links := range 1 << 16 {
		f, d := file(), directory()
		f.Links, d.Links = uint16(links), uint16(links)
		switch {
		case links > 1000:
			breaks(t, lay, f, pointLinks)
			breaks(t, lay, d, pointLinks)
		case links == 1:
			may(t, lay, f)
			breaks(t, lay, d, pointOneLink)
		default:
			may(t, lay, f)
			may(t, lay, d)
		}
	}
}

// P10.2: sizes at and behind the greatest one; above 2^32 - 1024 a size in blocks would wrap round.
func TestGreatestSize(t *testing.T) {
	lay := layoutOf(t, small())
	for _, kind := range []api.Kind{api.KindFile, api.KindDir} {
		n := full(kind, api.MaxFile, 40)
		may(t, lay, n)
		for _, size := range []uint32{api.MaxFile + 16, api.MaxFile + 1024, 1 << 27, 1 << 31, 1<<32 - 1040, 1<<32 - 1024, 1<<32 - 1008, 1<<32 - 16} {
			n.Size = size
			breaks(t, lay, n, pointSize)
		}
	}
	for _, n := range []api.Node{{Kind: api.KindFile}, full(api.KindFile, 9000, 40), full(api.KindFile, api.MaxFile, 40)} {
		n.Size = api.MaxFile
		may(t, lay, n)
		for _, size := range []uint32{api.MaxFile + 1, api.MaxFile + 2, 1<<31 - 1, 1<<31 + 1, 1<<32 - 1025, 1<<32 - 1023, 1<<32 - 2, 1<<32 - 1} {
			n.Size = size
			breaks(t, lay, n, pointSize)
		}
	}
}

// P10.2: each of the twelve numbers at the bounds of the data region, by itself and among others.
func TestBoundsOfANumber(t *testing.T) {
	for _, g := range some() {
		lay := layoutOf(t, g)
		from, to := uint32(lay.DataAt), uint32(g.Blocks)
		for i := range 12 {
			alone := api.Node{Kind: api.KindFile, Links: 1, Size: api.MaxFile}
			may(t, lay, alone)
			others := []api.Node{alone}
			if to-from > 14 {
				others = append(others, full(api.KindFile, api.MaxFile, from+1), full(api.KindDir, api.MaxFile, from+1))
			}
			for _, n := range others {
				v := twelve(&n)[i]
				for _, at := range []uint32{from, to - 1} {
					*v = at
					n.Blocks = least(n)
					may(t, lay, n)
				}
				for _, at := range []uint32{1, 2, from - 1, to, to + 1, from + 1<<20, from + 1<<24, from | 1<<31, 1 << 31, -from, 1<<32 - 1} {
					*v = at
					breaks(t, lay, n, pointRegion)
				}
			}
		}
	}
}

// P10.2: every block number about the data region of the least disks, at each place.
func TestEveryBlock(t *testing.T) {
	for _, g := range []api.Geometry{small(), {Blocks: 36, Log: 32, Inodes: 15}, {Blocks: 47, Log: 32, Inodes: 15}} {
		lay := layoutOf(t, g)
		for at := range uint32(g.Blocks + 50) {
			for i := range 12 {
				n := api.Node{Kind: api.KindFile, Size: api.MaxFile}
				*twelve(&n)[i] = at
				n.Blocks = least(n)
				region := shape.Where(lay, int(at))
				if got := check(t, lay, n); got != (at == 0 || region == shape.RegionData) {
					t.Errorf("%+v: number %d is %d, of the region %d: %v", g, i, at, region, got)
				}
			}
		}
	}
}

// P10.2: a hole may be at each place of a file, and at none of a directory.
func TestHoles(t *testing.T) {
	for _, size := range sizes() {
		lay := layoutOf(t, small())
		whole := full(api.KindFile, size, 50)
		may(t, lay, whole)
		for i := range 12 {
			n := whole
			if *twelve(&n)[i] == 0 {
				continue
			}
			*twelve(&n)[i] = 0
			n.Blocks = least(n)
			may(t, lay, n)
			if n.Kind = api.KindDir; size%16 == 0 {
				breaks(t, lay, n, pointHole)
			}
		}
		n := api.Node{Kind: api.KindFile, Links: 1000, Size: size}
		may(t, lay, n)
		if n.Kind = api.KindDir; size%16 == 0 && size > 0 {
			breaks(t, lay, n, pointHole)
		}
	}
}

// P10.2: one number twice, at every two places, of a file whose other numbers are holes and of inodes that have all of them.
func TestTwice(t *testing.T) {
	for _, g := range some() {
		lay := layoutOf(t, g)
		from, to := uint32(lay.DataAt), uint32(g.Blocks)
		for i := range 12 {
			for k := range i {
				for _, at := range []uint32{from, to - 1} {
					n := api.Node{Kind: api.KindFile, Size: api.MaxFile}
					*twelve(&n)[i], *twelve(&n)[k] = at, at
					n.Blocks = least(n)
					breaks(t, lay, n, pointTwice)
					if to-from < 12 {
						continue
					}
					for _, kind := range []api.Kind{api.KindFile, api.KindDir} {
						n := full(kind, api.MaxFile, from)
						may(t, lay, n)
						*twelve(&n)[i] = *twelve(&n)[k]
						breaks(t, lay, n, pointTwice)
					}
				}
			}
		}
	}
}

// P10.2: numbers behind the size: each place at each size about a bound.
func TestBeyondTheSize(t *testing.T) {
	lay := layoutOf(t, small())
	for _, size := range sizes() {
		for _, kind := range []api.Kind{api.KindFile, api.KindDir} {
			if kind == api.KindDir && size%16 != 0 {
				continue
			}
			for i := range 12 {
				n := full(kind, size, 50)
				there := *twelve(&n)[i] != 0
				*twelve(&n)[i] = 399
				n.Blocks = least(n)
				if there {
					may(t, lay, n)
				} else {
					breaks(t, lay, n, pointBeyond)
				}
			}
		}
	}
}

// P10.2: m at 10, 11, 266 and 267, each at its least and its greatest size, as the words have it.
func TestBoundsOfM(t *testing.T) {
	lay := layoutOf(t, small())
	for _, c := range []struct {
		m              uint32
		single, double bool
	}{{10, false, false}, {11, true, false}, {266, true, false}, {267, true, true}} {
		for _, size := range []uint32{1024*(c.m-1) + 1, 1024*(c.m-1) + 16, 1024*c.m - 1, 1024 * c.m} {
			for i, there := range []bool{9: true, 10: c.single, 11: c.double} {
				if i < 9 {
					continue
				}
				n := api.Node{Kind: api.KindFile, Links: 1, Size: size}
				*twelve(&n)[i] = 77
				n.Blocks = least(n)
				if there {
					may(t, lay, n)
				} else {
					breaks(t, lay, n, pointBeyond)
				}
			}
		}
	}
	for i := range uint32(10) { // a direct one at the bound, just below it and just above
		for _, by := range []uint32{0, 1} {
			n := api.Node{Kind: api.KindFile, Links: 1, Size: 1024*i + by, Blocks: 1}
			n.Direct[i] = 77
			if by == 1 {
				may(t, lay, n)
			} else {
				breaks(t, lay, n, pointBeyond)
			}
		}
	}
}

// P10.2: how many blocks, with each choice of numbers that are there.
func TestBlocks(t *testing.T) {
	lay := layoutOf(t, small())
	for choice := range 1 << 12 {
		n := api.Node{Kind: api.KindFile, Links: 1, Size: api.MaxFile}
		there := 0
		for i, v := range twelve(&n) {
			if choice>>i&1 == 1 {
				*v = uint32(50 + i)
				there++
			}
		}
		single, double := choice>>10&1, choice>>11&1
		need := uint32(there + single + 2*double)
		for _, blocks := range []uint32{0, 1, need - 3, need - 2, need - 1, need, need + 1, need + 2, 65802, 66061, 1 << 20, 1<<31 - 1, 1 << 31, 1<<32 - 1} {
			n.Blocks = blocks
			if blocks == need || blocks > need && single+double > 0 {
				may(t, lay, n)
			} else {
				breaks(t, lay, n, pointBlocks)
			}
		}
	}
}

// P10.2: likewise of directories, that have all numbers up to their size.
func TestBlocksOfDirectories(t *testing.T) {
	lay := layoutOf(t, small())
	for _, size := range sizes() {
		n := full(api.KindDir, size, 50)
		if size%16 != 0 {
			continue
		}
		need := n.Blocks
		for _, blocks := range []uint32{0, need - 2, need - 1, need, need + 1, need + 2, 1 << 31, 1<<32 - 1} {
			n.Blocks = blocks
			if blocks == need || blocks > need && size > 10240 {
				may(t, lay, n)
			} else {
				breaks(t, lay, n, pointBlocks)
			}
		}
	}
}

// P10.2: a directory's size is a multiple of 16, also at its ends.
func TestSizeOfADirectory(t *testing.T) {
	lay := layoutOf(t, small())
	for _, about := range []uint32{0, 1024, 8192, 10240, 11264, 272384, api.MaxFile - 1024} {
		for by := range uint32(1025) {
			n := full(api.KindDir, about+by, 50)
			if (about+by)%16 == 0 {
				may(t, lay, n)
			} else {
				breaks(t, lay, n, pointSlots)
			}
			n.Kind = api.KindFile
			may(t, lay, n)
		}
	}
	may(t, lay, api.Node{Kind: api.KindDir}) // an orphan without slots
	may(t, lay, api.Node{Kind: api.KindDir, Links: 2})
}

// P10.2: all choices of numbers at all sizes of both kinds, with more or fewer blocks.
func TestAllChoices(t *testing.T) {
	lay := layoutOf(t, small())
	taken := 0
	for _, size := range sizes() {
		for choice := range 1 << 12 {
			n := api.Node{Kind: api.KindFile, Links: 2, Size: size}
			for i, v := range twelve(&n) {
				if choice>>i&1 == 1 {
					*v = uint32(60 - i)
				}
			}
			n.Blocks = least(n)
			for _, kind := range []api.Kind{api.KindFile, api.KindDir} {
				n.Kind = kind
				if check(t, lay, n) {
					taken++
				}
			}
		}
	}
	// Of a file each number that the size reaches is there or not; of a directory all of them are.
	want := 0
	for _, size := range sizes() {
		n := full(api.KindFile, size, 50)
		ways := 1
		for _, v := range twelve(&n) {
			if *v != 0 {
				ways *= 2
			}
		}
		want += ways
		if size%16 == 0 {
			want++
		}
	}
	if taken != want {
		t.Errorf("%d inodes may be, not %d", taken, want)
	}
}

// P10.2: inodes that are near to such as may be, and of any points at once.
func TestMixed(t *testing.T) {
	var seed uint64 = 1
	next := func(n int) int {
		seed = seed*6364136223846793005 + 1442695040888963407
		return int(seed >> 33 % uint64(n))
	}
	numbers := sizes()
	taken, refused := 0, 0
	for _, g := range some() {
		lay := layoutOf(t, g)
		for range 20000 {
			n := api.Node{Kind: api.Kind(next(2) + 1), Links: uint16(next(1001)), Size: numbers[next(len(numbers))]}
			whole := full(n.Kind, n.Size, uint32(lay.DataAt+next(2)))
			for i, v := range twelve(&n) {
				if *v = *twelve(&whole)[i]; n.Kind == api.KindFile && next(2) == 0 {
					*v = 0
				}
			}
			n.Blocks = least(n)
			for range next(4) {
				switch next(6) {
				case 0:
					n.Kind = api.Kind(next(4))
				case 1:
					n.Links = uint16(next(1010))
				case 2:
					n.Size += uint32(next(2000)) - 1000
				case 3:
					n.Blocks += uint32(next(5)) - 2
				case 4:
					*twelve(&n)[next(12)] = uint32(lay.DataAt + next(20) - 3)
				default:
					*twelve(&n)[next(12)] = uint32(g.Blocks + next(20) - 17)
				}
			}
			if check(t, lay, n) {
				taken++
			} else {
				refused++
			}
		}
	}
	if taken < 20000 || refused < 20000 {
		t.Errorf("%d may be, %d may not: too few", taken, refused)
	}
}

// layoutFields are the places of a layout's numbers.
func layoutFields(lay *api.Layout) []*int {
	return []*int{
		&lay.Geometry.Blocks, &lay.Geometry.Log, &lay.Geometry.Inodes, &lay.LogAt,
		&lay.NodeAt, &lay.NodeBlocks, &lay.BitsAt, &lay.BitsBlocks, &lay.DataAt,
	}
}

// laid is what a layout would be by the words of 'The layout', whether its geometry may be or not.
func laid(g api.Geometry) api.Layout {
	lay := api.Layout{Geometry: g, LogAt: 1, NodeAt: 1 + g.Log, NodeBlocks: (g.Inodes + 16) / 16, BitsBlocks: (g.Blocks + 8191) / 8192}
	lay.BitsAt = lay.NodeAt + lay.NodeBlocks
	lay.DataAt = lay.BitsAt + lay.BitsBlocks
	return lay
}

// anyNodes are inodes that may be on the layouts of the tests, and such as may not be on any.
func anyNodes() []api.Node {
	return []api.Node{
		{}, {Kind: api.KindFile}, {Kind: api.KindDir, Links: 2}, file(), directory(), full(api.KindFile, 20000, 50), full(api.KindDir, api.MaxFile, 50),
		{Kind: 3}, {Links: 1}, {Kind: api.KindFile, Blocks: 1}, {Kind: api.KindDir, Links: 1}, motley(),
	}
}

// P10.2: each field of a layout turned by itself is ErrArg, of inodes that may be and of such as may not: it is ahead of ErrInval.
func TestLayoutTurned(t *testing.T) {
	for _, g := range some() {
		lay := layoutOf(t, g)
		if lay != laid(g) {
			t.Fatalf("%+v: %+v", g, lay)
		}
		for i := range layoutFields(&lay) {
			was, turned := *layoutFields(&lay)[i], 0
			for _, v := range []int{was - 1, was + 1, was + 8192, was + 1<<16, -was, was ^ math.MinInt, -1, 0, 1, math.MinInt, math.MinInt32, math.MaxInt32, math.MaxInt} {
				other := lay
				*layoutFields(&other)[i] = v
				if v == was || other == laid(other.Geometry) && proper(other) {
					continue // a geometry of which nothing else hangs on that number
				}
				turned++
				for _, n := range anyNodes() {
					if err := node.Check(other, n); err != api.ErrArg {
						t.Errorf("Check(%+v, %+v): %d", other, n, err)
					}
				}
			}
			if turned < 5 {
				t.Errorf("%+v: field %d: only %d layouts that are none", g, i, turned)
			}
		}
	}
}

// proper tells whether the geometry of what laid answers may be.
func proper(lay api.Layout) bool {
	g := lay.Geometry
	return g.Log >= 32 && g.Log <= 256 && g.Inodes >= 1 && g.Inodes <= 65535 && g.Blocks <= 1<<20 && lay.DataAt < g.Blocks
}

// P10.2: no layout at all, parts of one, and such as would be one if their geometry might be.
func TestLayoutsThatAreNone(t *testing.T) {
	l := []api.Layout{{}, {LogAt: 1}, {Geometry: small()}, {Geometry: small(), DataAt: 38}, {DataAt: 38}}
	for _, g := range []api.Geometry{
		{Blocks: 400, Log: 31, Inodes: 60}, {Blocks: 2000, Log: 257, Inodes: 60}, {Blocks: 400, Log: 32}, {Blocks: 10000, Log: 32, Inodes: 65536},
		{Blocks: 1<<20 + 1, Log: 32, Inodes: 60}, {Blocks: 35, Log: 32, Inodes: 15}, {Blocks: 0, Log: 32, Inodes: 15}, {Blocks: -400, Log: 32, Inodes: 60},
		{Blocks: 400, Log: -32, Inodes: 60}, {Blocks: 400, Log: 32, Inodes: -60},
	} {
		l = append(l, laid(g))
	}
	for _, lay := range l {
		for _, n := range anyNodes() {
			if err := node.Check(lay, n); err != api.ErrArg {
				t.Errorf("Check(%+v, %+v): %d", lay, n, err)
			}
		}
	}
}

// P10.2: Check hangs on the inode's fields alone, as they come back from its bytes.
func TestCheckOfDecode(t *testing.T) {
	lay := layoutOf(t, small())
	for _, n := range slices.Concat(anyNodes(), []api.Node{full(api.KindFile, api.MaxFile, 200), full(api.KindDir, 272400, 388), full(api.KindDir, 272400, 389)}) {
		b := node.Encode(n)
		b[60], b[63] = 9, 9
		if got, want := node.Check(lay, node.Decode(b)), node.Check(lay, n); got != want {
			t.Errorf("%+v: %d by its bytes, %d by itself", n, got, want)
		}
	}
}
