package head_test

import (
	"math"
	"slices"
	"testing"

	"undercroft/api"
	"undercroft/head"
	"undercroft/shape"
	"undercroft/slab"
)

func small() api.Geometry { return api.Geometry{Blocks: 400, Log: 32, Inodes: 60} }

// some are geometries of the least and the greatest log, of disks with fewer targets than a header has room for, and of such as have the most blocks.
func some() []api.Geometry {
	return []api.Geometry{
		small(),
		{Blocks: 36, Log: 32, Inodes: 15}, {Blocks: 66, Log: 33, Inodes: 1}, {Blocks: 65, Log: 33, Inodes: 1},
		{Blocks: 2000, Log: 255, Inodes: 100}, {Blocks: 8193, Log: 256, Inodes: 1000},
		{Blocks: 1 << 20, Log: 32, Inodes: 1}, {Blocks: 1 << 20, Log: 256, Inodes: 65535},
	}
}

func layoutOf(t testing.TB, g api.Geometry) api.Layout {
	t.Helper()
	lay, err := shape.Of(g)
	if err != api.OK {
		t.Fatalf("Of(%+v): %d", g, err)
	}
	return lay
}

// count is how many targets a header may have on a layout: the disk may have fewer blocks behind the log than the log has places.
func count(lay api.Layout) int {
	return min(lay.Geometry.Log-1, lay.Geometry.Blocks-1-lay.Geometry.Log)
}

// rising are n targets from at on.
func rising(at, n int) []int {
	l := make([]int, n)
	for i := range l {
		l[i] = at + i
	}
	return l
}

// mixed are n targets that may be, from both ends of where targets may lie by turns.
func mixed(lay api.Layout, n int) []int {
	l := make([]int, n)
	for i := range l {
		if l[i] = 1 + lay.Geometry.Log + i/2; i%2 == 0 {
			l[i] = lay.Geometry.Blocks - 1 - i/2
		}
	}
	return l
}

// proper tells whether a header of these targets may be, by the chapter's words.
func proper(g api.Geometry, targets []int) bool {
	if len(targets) > g.Log-1 {
		return false
	}
	for i, target := range targets {
		if target < 1+g.Log || target >= g.Blocks || slices.Contains(targets[:i], target) {
			return false
		}
	}
	return true
}

// written is the block of a header, byte by byte.
func written(targets []int) api.Block {
	var b api.Block
	put(&b, 0, uint32(len(targets)))
	for i, target := range targets {
		put(&b, 1+i, uint32(target))
	}
	return b
}

// put lays a number into the four bytes from 4 i on.
func put(b *api.Block, i int, v uint32) {
	for k := range 4 {
		b[4*i+k] = byte(v)
		v /= 256
	}
}

// got reads it again: as int64, which holds all that four bytes say.
func got(b *api.Block, i int) int64 {
	v := int64(0)
	for k := 3; k >= 0; k-- {
		v = v*256 + int64(b[4*i+k])
	}
	return v
}

// words is a block that begins with these numbers.
func words(l ...uint32) api.Block {
	var b api.Block
	for i, v := range l {
		put(&b, i, v)
	}
	return b
}

// read is what Decode ought to answer on a layout that stands, by the chapter's words.
func read(g api.Geometry, b *api.Block) ([]int, bool) {
	n := got(b, 0)
	if n > int64(g.Log-1) {
		return nil, false
	}
	targets := make([]int, n)
	for i := range targets {
		v := got(b, 1+i)
		if v >= 1<<20 { // no disk has such a block
			return nil, false
		}
		targets[i] = int(v)
	}
	return targets, proper(g, targets)
}

// checkEncode holds Encode on a layout that stands against the chapter's words, and tells whether the header was taken.
func checkEncode(t *testing.T, lay api.Layout, targets []int) bool {
	b, err := head.Encode(lay, api.Head{Targets: targets})
	ok := proper(lay.Geometry, targets)
	switch {
	case ok && (err != api.OK || b != written(targets)):
		t.Errorf("%+v: Encode of %v: %d, %v", lay.Geometry, targets, err, b[:16])
	case !ok && (err != api.ErrInval || b != api.Block{}):
		t.Errorf("%+v: Encode of %v: %d, not refused", lay.Geometry, targets, err)
	}
	return ok
}

// checkDecode does so with Decode.
func checkDecode(t *testing.T, lay api.Layout, b api.Block) bool {
	h, err := head.Decode(lay, b)
	want, ok := read(lay.Geometry, &b)
	switch {
	case ok && (err != api.OK || !slices.Equal(h.Targets, want)):
		t.Errorf("%+v: Decode of %v ..: %v, %d, not %v", lay.Geometry, b[:16], h.Targets, err, want)
	case !ok && (err != api.ErrInval || len(h.Targets) > 0):
		t.Errorf("%+v: Decode of %v ..: %v, %d, not refused", lay.Geometry, b[:16], h.Targets, err)
	}
	return ok
}

// taken and refused hold both calls against the words, of one header that both can be told.
func taken(t *testing.T, lay api.Layout, targets []int) {
	t.Helper()
	if !checkEncode(t, lay, targets) || !checkDecode(t, lay, written(targets)) {
		t.Errorf("%+v: %v may not be", lay.Geometry, targets)
	}
}

func refused(t *testing.T, lay api.Layout, targets []int) {
	t.Helper()
	if checkEncode(t, lay, targets) || checkDecode(t, lay, written(targets)) {
		t.Errorf("%+v: %v may be", lay.Geometry, targets)
	}
}

// The numbers of the errors.
func TestNumbers(t *testing.T) {
	lay := layoutOf(t, small())
	if _, err := head.Encode(api.Layout{}, api.Head{}); err != 2 {
		t.Errorf("Encode, of no layout: %d", err)
	}
	if _, err := head.Encode(lay, api.Head{Targets: []int{0}}); err != 4 {
		t.Errorf("Encode, of no header: %d", err)
	}
	if _, err := head.Decode(api.Layout{}, api.Block{}); err != 2 {
		t.Errorf("Decode, of no layout: %d", err)
	}
	if _, err := head.Decode(lay, words(1)); err != 4 {
		t.Errorf("Decode, of no header: %d", err)
	}
}

// P7.1, P7.2: as many targets as may be, each number of them, and one more.
func TestHowMany(t *testing.T) {
	for _, g := range some() {
		lay := layoutOf(t, g)
		for n := range count(lay) + 1 {
			taken(t, lay, mixed(lay, n))
			taken(t, lay, rising(1+g.Log, n))
			taken(t, lay, rising(g.Blocks-n, n))
		}
		if count(lay) < g.Log-1 {
			continue // no more that may be, and differ
		}
		room := g.Blocks - 1 - g.Log
		for n := g.Log; n <= min(room, 255); n++ {
			refused(t, lay, rising(1+g.Log, n))
		}
		for _, n := range []int{g.Log, g.Log + 1, 256, 257, 1000, 70000} {
			if l := rising(1+g.Log, min(n, room)); len(l) >= g.Log && checkEncode(t, lay, l) {
				t.Errorf("%+v: %d targets are taken", g, len(l))
			}
		}
	}
}

// P7.1: more targets than may be, whatever they are: as many as Log or more are none the better for being no targets, or one of them.
func TestTooManyThatMayNotBe(t *testing.T) {
	lay := layoutOf(t, small())
	for _, n := range []int{32, 33, 255, 256, 1 << 16, 1 << 20} {
		for _, v := range []int{0, 33, -1} {
			if b, err := head.Encode(lay, api.Head{Targets: slices.Repeat([]int{v}, n)}); err != api.ErrInval || b != (api.Block{}) {
				t.Errorf("%d times %d: %d", n, v, err)
			}
		}
	}
}

// P7.1, P7.2: both bounds of a target, at each place of headers of 1 target, of a few, and of as many as may be.
func TestBoundsOfATarget(t *testing.T) {
	for _, g := range some() {
		lay := layoutOf(t, g)
		for _, n := range []int{1, 2, 3, count(lay)} {
			if n > g.Blocks-1-g.Log-2 {
				continue // both bounds are to be free
			}
			for at := range n {
				l := rising(2+g.Log, n) // neither bound among them
				for _, v := range []int{1 + g.Log, g.Blocks - 1} {
					l[at] = v
					taken(t, lay, l)
				}
				for _, v := range []int{0, 1, 2, g.Log - 1, g.Log, g.Blocks, g.Blocks + 1, 1 << 20, 1<<20 + 1, 1 << 24, math.MaxInt32} {
					l[at] = v
					refused(t, lay, l)
				}
			}
		}
	}
}

// P7.1: targets at the ends of int, below 0, and such as are others' in their lower 32 or 16 bits.
func TestFarTargets(t *testing.T) {
	wide := 1
	wide <<= 32 // 0 where int has 32 bits
	for _, g := range some() {
		lay := layoutOf(t, g)
		n := min(3, count(lay))
		for at := range n {
			l := rising(1+g.Log, n)
			was := l[at]
			far := []int{math.MinInt, math.MinInt + 1, math.MinInt32, -1 << 20, -g.Blocks, -g.Log, -was, ^was, -2, -1, was ^ math.MinInt, was | 1<<30, math.MaxInt - 1, math.MaxInt}
			if wide != 0 {
				far = append(far, was+wide, was-wide, wide, wide-1, wide>>1, -wide>>1-1)
			}
			for _, v := range far {
				l[at] = v
				if checkEncode(t, lay, l) {
					t.Errorf("%+v: %v is taken", g, l)
				}
			}
			l[at] = was
			taken(t, lay, l)
		}
	}
}

// P7.2: the same in a block: targets as great as four bytes can say.
func TestFarTargetsInABlock(t *testing.T) {
	for _, g := range some() {
		lay := layoutOf(t, g)
		for _, n := range []int{1, min(3, count(lay)), count(lay)} {
			for at := range n {
				b := written(rising(1+g.Log, n))
				was := uint32(got(&b, 1+at))
				for _, v := range []uint32{0, was | 1<<31, was | 1<<30, was | 1<<24, 1<<31 - 1, 1 << 31, 1<<31 + 1, 1<<32 - 2, 1<<32 - 1, -was} {
					put(&b, 1+at, v)
					if checkDecode(t, lay, b) {
						t.Errorf("%+v: target %d of %d is taken as %d", g, at, n, v)
					}
				}
			}
		}
	}
}

// P7.1, P7.2: every short list of targets of the least disk: blocks of the log, all three that may be, and such as are behind the disk.
func TestShortLists(t *testing.T) {
	lay := layoutOf(t, api.Geometry{Blocks: 36, Log: 32, Inodes: 15})
	numbers := []int{0, 1, 32, 33, 34, 35, 36, 37}
	may := 0
	for n := range 5 {
		l := make([]int, n)
		var fill func(at int)
		fill = func(at int) {
			if at < n {
				for _, v := range numbers {
					l[at] = v
					fill(at + 1)
				}
				return
			}
			if checkDecode(t, lay, written(l)) != checkEncode(t, lay, l) {
				t.Errorf("%v may be by one call alone", l)
			}
			if proper(lay.Geometry, l) {
				may++
			}
		}
		fill(0)
	}
	if may != 1+3+6+6 {
		t.Errorf("%d headers that may be", may)
	}
}

// P7.1, P7.2: one target twice, at any two places.
func TestTwice(t *testing.T) {
	for _, g := range []api.Geometry{small(), {Blocks: 2000, Log: 40, Inodes: 100}, {Blocks: 8193, Log: 256, Inodes: 1000}} {
		lay := layoutOf(t, g)
		for _, n := range []int{2, 3, count(lay)} {
			stride := 1 + n/40 // the full header of the greatest log has too many pairs
			for i := 0; i < n; i += stride {
				for k := i + 1; k < n; k++ {
					if k > i+stride && k < n-stride && (k-i)%stride != 0 {
						continue
					}
					l := mixed(lay, n)
					l[i] = l[k]
					refused(t, lay, l)
				}
			}
		}
	}
	lay := layoutOf(t, small())
	refused(t, lay, []int{40, 41, 40, 41})
	refused(t, lay, slices.Repeat([]int{399}, 31))
}

// P7.2: the number in the first four bytes, whatever targets stand behind it.
func TestDecodeOfNumbers(t *testing.T) {
	for _, g := range some() {
		lay := layoutOf(t, g)
		full := written(rising(1+g.Log, 255)) // as far as they may be
		for n := range count(lay) + 1 {
			b := full
			put(&b, 0, uint32(n))
			if !checkDecode(t, lay, b) {
				t.Errorf("%+v: %d targets are refused", g, n)
			}
		}
		log := uint32(g.Log)
		for _, n := range []uint32{
			log, log + 1, 255 + 1, 257, 258, 1 << 9, 1<<15 - 1, 1 << 15, 1<<16 - 1, 1 << 16, 1<<16 + 1, 1<<24 + 1,
			1<<30 + 1, 1<<31 - 1, 1 << 31, 1<<31 + 1, 1<<31 + log - 1, -log, 1<<32 - 2, 1<<32 - 1,
		} {
			b := full
			put(&b, 0, n)
			if checkDecode(t, lay, b) {
				t.Errorf("%+v: the number %d is taken", g, n)
			}
		}
	}
}

// P7.2: what stands behind the targets counts for nothing, be it targets again, numbers that may be none, or any bytes.
func TestDecodeOfWhatStandsBehind(t *testing.T) {
	for _, g := range some() {
		lay := layoutOf(t, g)
		for n := range count(lay) + 1 {
			want := mixed(lay, n)
			for _, behind := range []uint32{0, 1, uint32(1 + g.Log), uint32(g.Blocks - 1), uint32(g.Blocks), 1 << 31, 1<<32 - 1} {
				b := written(want)
				for i := 1 + n; i < 256; i++ {
					put(&b, i, behind)
				}
				h, err := head.Decode(lay, b)
				if err != api.OK || !slices.Equal(h.Targets, want) {
					t.Fatalf("%+v: %d targets, behind them %d: %d, %v", g, n, behind, err, h.Targets)
				}
			}
		}
	}
}

// P7.2: each byte of a header's block changed by itself.
func TestDecodeOfOneByteElse(t *testing.T) {
	for _, g := range some() {
		lay := layoutOf(t, g)
		for _, n := range []int{0, 1, 2, count(lay)} {
			b := written(mixed(lay, n))
			for at := range b {
				for _, change := range []byte{1, 2, 128, 255} {
					c := b
					c[at] ^= change
					if ok := checkDecode(t, lay, c); !ok && at >= 4*(n+1) {
						t.Fatalf("%+v: %d targets: refused with another byte %d", g, n, at)
					}
				}
			}
		}
	}
}

// P7.2: blocks that are alike throughout.
func TestDecodeOfLikeBytes(t *testing.T) {
	for _, g := range some() {
		lay := layoutOf(t, g)
		for v := range 256 {
			var b api.Block
			for i := range b {
				b[i] = byte(v)
			}
			if ok := checkDecode(t, lay, b); ok != (v == 0) {
				t.Errorf("%+v: bytes %d: %v", g, v, ok)
			}
		}
	}
}

// fields are the places of a layout's numbers.
func fields(lay *api.Layout) []*int {
	return []*int{
		&lay.Geometry.Blocks, &lay.Geometry.Log, &lay.Geometry.Inodes, &lay.LogAt,
		&lay.NodeAt, &lay.NodeBlocks, &lay.BitsAt, &lay.BitsBlocks, &lay.DataAt,
	}
}

// none are layouts that shape.Of does not answer: those of which one number is another than that of a layout that it answers, those that have none, and what would be one if its geometry might be.
func none(t *testing.T) []api.Layout {
	wide := 1
	wide <<= 32 // 0 where int has 32 bits
	l := []api.Layout{{}, {LogAt: 1}, {Geometry: small()}}
	for _, g := range some() {
		lay := layoutOf(t, g)
		for i := range fields(&lay) {
			was, before := *fields(&lay)[i], len(l)
			for _, v := range []int{was - 1, was + 1, -was, was + 1<<16, was + wide, was ^ math.MinInt, -1, 0, 1, math.MinInt, math.MinInt32, math.MaxInt32, math.MaxInt} {
				other := lay
				*fields(&other)[i] = v
				if told, err := shape.Of(other.Geometry); err != api.OK || told != other {
					l = append(l, other)
				}
			}
			if len(l) < before+5 {
				t.Errorf("%+v: field %d: only %d layouts that are none", g, i, len(l)-before)
			}
		}
	}
	for _, g := range []api.Geometry{{Blocks: 400, Log: 31, Inodes: 60}, {Blocks: 2000, Log: 257, Inodes: 60}, {Blocks: 400, Log: 32}, {Blocks: 10000, Log: 32, Inodes: 65536}, {Blocks: 1<<20 + 1, Log: 32, Inodes: 60}, {Blocks: 35, Log: 32, Inodes: 15}} {
		lay := api.Layout{Geometry: g, LogAt: 1, NodeAt: 1 + g.Log, NodeBlocks: (g.Inodes + 16) / 16, BitsBlocks: (g.Blocks + 8191) / 8192}
		lay.BitsAt = lay.NodeAt + lay.NodeBlocks
		lay.DataAt = lay.BitsAt + lay.BitsBlocks
		l = append(l, lay)
	}
	return l
}

// P7.1, P7.2: a layout that is none is ErrArg, also where the header may not be: ErrArg is ahead of ErrInval.
func TestLayoutsThatAreNone(t *testing.T) {
	blocks := []api.Block{{}, words(1, 300), words(1, 0), words(1, 5), words(2, 300, 300), words(32), words(1<<32 - 1), words(1, 1<<32-1)}
	lists := [][]int{nil, {}, {300}, {0}, {-1}, {math.MaxInt}, {300, 300}, rising(300, 255), rising(300, 256), rising(0, 1000)}
	for _, lay := range none(t) {
		for i := range blocks {
			if h, err := head.Decode(lay, blocks[i]); err != api.ErrArg || len(h.Targets) > 0 {
				t.Errorf("Decode(%+v, %v ..): %v, %d", lay, blocks[i][:12], h.Targets, err)
			}
		}
		for _, l := range lists {
			if b, err := head.Encode(lay, api.Head{Targets: l}); err != api.ErrArg || b != (api.Block{}) {
				t.Errorf("Encode(%+v, %d targets): %d", lay, len(l), err)
			}
		}
	}
}

// P7.1, P7.2: all layouts that differ in their Log, each with its own bounds.
func TestEveryLog(t *testing.T) {
	for log := api.MinLog; log <= api.MaxLog; log++ {
		lay := layoutOf(t, api.Geometry{Blocks: 900, Log: log, Inodes: 60})
		taken(t, lay, nil)
		taken(t, lay, []int{899, 1 + log})
		refused(t, lay, []int{900, 1 + log})
		refused(t, lay, []int{899, log})
		taken(t, lay, rising(1+log, log-1))
		more := rising(1+log, log)
		b := written(more[:log-1]) // a block has no room for 256 of them
		put(&b, 0, uint32(log))
		if log < 256 {
			put(&b, log, uint32(more[log-1]))
		}
		if checkEncode(t, lay, more) || checkDecode(t, lay, b) {
			t.Errorf("a log of %d takes so many targets", log)
		}
	}
}

// P7.3: there and back.
func TestThereAndBack(t *testing.T) {
	for _, g := range some() {
		lay := layoutOf(t, g)
		for n := range count(lay) + 1 {
			for _, want := range [][]int{mixed(lay, n), rising(1+g.Log, n), rising(g.Blocks-n, n)} {
				b, err := head.Encode(lay, api.Head{Targets: want})
				if err != api.OK {
					t.Fatalf("%+v: Encode of %v: %d", g, want, err)
				}
				h, err := head.Decode(lay, b)
				if err != api.OK || !slices.Equal(h.Targets, want) {
					t.Fatalf("%+v: Decode of Encode of %v: %v, %d", g, want, h.Targets, err)
				}
				// What stands behind the targets is not told, so that what comes back has noughts there.
				other := b
				for i := 4 * (n + 1); i < len(other); i++ {
					other[i] = 0xa5
				}
				h, err = head.Decode(lay, other)
				if again, err2 := head.Encode(lay, h); err != api.OK || err2 != api.OK || again != b {
					t.Fatalf("%+v: Encode of Decode of %v: %d, %d", g, want, err, err2)
				}
			}
		}
	}
}

// P7.3: the blank block is the header without targets, on every layout.
func TestBlank(t *testing.T) {
	for _, g := range some() {
		lay := layoutOf(t, g)
		for _, l := range [][]int{nil, {}, make([]int, 0, 9)} {
			if b, err := head.Encode(lay, api.Head{Targets: l}); err != api.OK || !slab.Blank(b) {
				t.Errorf("%+v: Encode of no targets: %d, %v", g, err, b[:8])
			}
		}
		if h, err := head.Decode(lay, api.Block{}); err != api.OK || len(h.Targets) != 0 {
			t.Errorf("%+v: Decode of the blank block: %v, %d", g, h.Targets, err)
		}
	}
}

// P7.3: a header of one target may be just where that is one of the inode, bitmap and data regions.
func TestRegions(t *testing.T) {
	for _, g := range some() {
		lay := layoutOf(t, g)
		stride := 1 + g.Blocks/5000
		blocks := rising(-2, lay.DataAt+5) // every region's bounds but the last one's
		for at := 0; at < g.Blocks; at += stride {
			blocks = append(blocks, at)
		}
		for _, at := range append(blocks, rising(g.Blocks-2, 5)...) {
			r := shape.Where(lay, at)
			want := r == shape.RegionNodes || r == shape.RegionBits || r == shape.RegionData
			if _, err := head.Encode(lay, api.Head{Targets: []int{at}}); (err == api.OK) != want {
				t.Fatalf("%+v: Encode of %d, of the region %d: %d", g, at, r, err)
			}
			if _, err := head.Decode(lay, words(1, uint32(at))); (err == api.OK) != want {
				t.Fatalf("%+v: Decode of %d, of the region %d: %d", g, at, r, err)
			}
		}
	}
}

// Rule 3: what is handed in stays as it is, its spare room too, and is not kept.
func TestHandedIn(t *testing.T) {
	lay := layoutOf(t, small())
	for _, l := range [][]int{{}, {33}, {399, 33, 40}, {40, 40}, {0}, {-1, 7}, rising(33, 31), rising(33, 32)} {
		room := append(slices.Clone(l), 91, 92, 93)
		want := slices.Clone(room)
		h := api.Head{Targets: room[:len(l)]}
		b, err := head.Encode(lay, h)
		if !slices.Equal(room, want) || len(h.Targets) != len(l) {
			t.Errorf("Encode changes %v to %v", want, room)
		}
		was := b
		for i := range room {
			room[i] = 34
		}
		if b != was || err == api.OK && b != written(l) {
			t.Errorf("Encode's answer for %v hangs on what was handed in", l)
		}
		if again, err2 := head.Encode(lay, api.Head{Targets: l}); again != was || err2 != err {
			t.Errorf("Encode of %v again: %d, then %d", l, err, err2)
		}
	}
	b := words(3, 33, 399, 40)
	h, _ := head.Decode(lay, b)
	b = words(1, 34)
	if !slices.Equal(h.Targets, []int{33, 399, 40}) {
		t.Errorf("Decode's answer hangs on the block: %v, %v", h.Targets, b[:8])
	}
}

// Rule 3: what is handed out may be written over, its spare room too, without another answer's changing.
func TestHandedOut(t *testing.T) {
	for _, g := range some() {
		lay := layoutOf(t, g)
		for n := range count(lay) + 1 {
			want := mixed(lay, n)
			b := written(want)
			first, err1 := head.Decode(lay, b)
			second, err2 := head.Decode(lay, b)
			if err1 != api.OK || err2 != api.OK {
				t.Fatalf("%+v: Decode of %v: %d, %d", g, want, err1, err2)
			}
			whole := first.Targets[:cap(first.Targets)]
			for i := range whole {
				whole[i] = -9
			}
			third, err := head.Decode(lay, b)
			if err != api.OK || !slices.Equal(second.Targets, want) || !slices.Equal(third.Targets, want) {
				t.Fatalf("%+v: %v, then %v, not %v", g, second.Targets, third.Targets, want)
			}
			if _, err := head.Encode(lay, second); err != api.OK || !slices.Equal(second.Targets, want) {
				t.Fatalf("%+v: %v changes by being encoded: %d", g, want, err)
			}
		}
	}
}

// The chapter's examples.
func TestExamplesOfEncode(t *testing.T) {
	lay := layoutOf(t, small())
	if b, err := head.Encode(lay, api.Head{}); err != api.OK || b != (api.Block{}) {
		t.Errorf("no targets: %d", err)
	}
	want := api.Block{3, 0, 0, 0, 33, 0, 0, 0, 399 - 256, 1, 0, 0, 40}
	if b, err := head.Encode(lay, api.Head{Targets: []int{33, 399, 40}}); err != api.OK || b != want {
		t.Errorf("33 399 40: %d, %v", err, b[:20])
	}
	for _, l := range [][]int{{0}, {32}, {400}, {-1}, {40, 40}, rising(33, 32)} {
		if b, err := head.Encode(lay, api.Head{Targets: l}); err != api.ErrInval || b != (api.Block{}) {
			t.Errorf("%v: %d", l, err)
		}
	}
}

func TestExamplesOfDecode(t *testing.T) {
	lay := layoutOf(t, small())
	if h, err := head.Decode(lay, words(1, 33, 7, 7)); err != api.OK || !slices.Equal(h.Targets, []int{33}) {
		t.Errorf("1, 33, 7, 7: %v, %d", h.Targets, err)
	}
	for _, b := range []api.Block{words(32), words(1, 5), words(2, 40, 40)} {
		if h, err := head.Decode(lay, b); err != api.ErrInval || len(h.Targets) > 0 {
			t.Errorf("%v ..: %v, %d", b[:12], h.Targets, err)
		}
	}
	lay.DataAt++
	if h, err := head.Decode(lay, api.Block{}); err != api.ErrArg || len(h.Targets) > 0 {
		t.Errorf("another DataAt: %v, %d", h.Targets, err)
	}
}
