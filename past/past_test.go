package past_test

import (
	"math"
	"slices"
	"strconv"
	"testing"

	"undercroft/api"
	"undercroft/disk"
	"undercroft/past"
)

// letter is a block of one byte over and over.
func letter(v byte) api.Block {
	var b api.Block
	for i := range b {
		b[i] = v
	}
	return b
}

// lone is a block of noughts but for one byte.
func lone(at int, v byte) api.Block {
	var b api.Block
	b[at] = v
	return b
}

// numbered is a block that no other number below 2^16 has.
func numbered(n int) api.Block {
	b := lone(0, 1)
	b[1022], b[1023] = byte(n), byte(n>>8)
	return b
}

func write(at int, b api.Block) api.Op { return api.Op{Kind: api.OpWrite, At: at, Data: b} }

func barrier() api.Op { return api.Op{Kind: api.OpBarrier} }

func held(at int, b api.Block) api.Held { return api.Held{Index: at, Data: b} }

func image(blocks int, data ...api.Held) api.Image { return api.Image{Blocks: blocks, Data: data} }

func alike(a, b api.Image) bool { return a.Blocks == b.Blocks && slices.Equal(a.Data, b.Data) }

func zero(im api.Image) bool { return im.Blocks == 0 && len(im.Data) == 0 }

// after asks After where it must be OK.
func after(t testing.TB, im api.Image, ops []api.Op, k int, keep []bool) api.Image {
	t.Helper()
	got, err := past.After(im, ops, k, keep)
	if err != api.OK {
		t.Fatalf("After of %d ops, %d, %v: %d", len(ops), k, keep, err)
	}
	return got
}

// block asks Block where it must be OK.
func block(t testing.TB, im api.Image, ops []api.Op, k, at int) []api.Block {
	t.Helper()
	got, err := past.Block(im, ops, k, at)
	if err != api.OK {
		t.Fatalf("Block of %d ops, %d, %d: %d", len(ops), k, at, err)
	}
	return got
}

// The functions by the document's words, block by block and op by op.

func blockAt(im api.Image, at int) api.Block {
	for _, h := range im.Data {
		if h.Index == at {
			return h.Data
		}
	}
	return api.Block{}
}

func imageMayBe(im api.Image) bool {
	if im.Blocks < 1 || im.Blocks > 1048576 {
		return false
	}
	for i, h := range im.Data {
		if h.Index < 0 || h.Index > im.Blocks-1 || h.Data == letter(0) {
			return false
		}
		for _, g := range im.Data[:i] {
			if g.Index >= h.Index {
				return false
			}
		}
	}
	return true
}

func isPending(ops []api.Op, k, place int) bool {
	for i := place; i < k && i < len(ops); i++ {
		if ops[i].Kind == api.OpBarrier {
			return false
		}
	}
	return place < k && ops[place].Kind == api.OpWrite
}

func toldPending(ops []api.Op, k int) []int {
	var places []int
	for i := range ops {
		if isPending(ops, k, i) {
			places = append(places, i)
		}
	}
	return places
}

func toldAfter(im api.Image, ops []api.Op, k int, keep []bool) api.Image {
	blocks := make([]api.Block, im.Blocks)
	for at := range blocks {
		blocks[at] = blockAt(im, at)
	}
	pending := toldPending(ops, k)
	for i, op := range ops[:k] {
		if op.Kind != api.OpWrite {
			continue
		}
		n := slices.Index(pending, i)
		if n < 0 || n < len(keep) && keep[n] {
			blocks[op.At] = op.Data
		}
	}
	out := api.Image{Blocks: im.Blocks}
	for at, b := range blocks {
		if b != letter(0) {
			out.Data = append(out.Data, held(at, b))
		}
	}
	return out
}

func toldBlock(im api.Image, ops []api.Op, k, at int) []api.Block {
	list := []api.Block{blockAt(toldAfter(im, ops, k, nil), at)}
	for _, i := range toldPending(ops, k) {
		if ops[i].At == at && !slices.Contains(list, ops[i].Data) {
			list = append(list, ops[i].Data)
		}
	}
	return list
}

func toldChanged(a, b api.Image) []int {
	if !imageMayBe(a) || !imageMayBe(b) || a.Blocks != b.Blocks {
		return nil
	}
	var ats []int
	for at := range a.Blocks {
		if blockAt(a, at) != blockAt(b, at) {
			ats = append(ats, at)
		}
	}
	return ats
}

// lists calls check for all lists of up to most elements of kinds.
func lists[T any](kinds []T, most int, check func(list []T)) {
	var grow func(list []T)
	grow = func(list []T) {
		check(list)
		if len(list) == most {
			return
		}
		for _, k := range kinds {
			grow(append(list[:len(list):len(list)], k))
		}
	}
	grow(nil)
}

// keeps calls check for all choices of keep of 0 to most elements.
func keeps(most int, check func(keep []bool)) { lists([]bool{false, true}, most, check) }

// row gives numbers that look like chance and are the same each time.
func row(seed uint32) func(n int) int {
	return func(n int) int {
		seed = seed*1664525 + 1013904223
		return int(seed>>8) % n
	}
}

// someOps are ops of a disk of that many blocks, by a row of numbers.
func someOps(next func(n int) int, blocks, most int) []api.Op {
	ops := make([]api.Op, next(most+1))
	for i := range ops {
		ops[i] = write(next(blocks), letter(byte(next(4))))
		if next(5) == 0 {
			ops[i] = barrier()
		}
	}
	return ops
}

// someImage is an image by a row of numbers.
func someImage(next func(n int) int, blocks int) api.Image {
	im := api.Image{Blocks: blocks}
	for at := range blocks {
		if b := letter(byte(next(4))); b != letter(0) {
			im.Data = append(im.Data, held(at, b))
		}
	}
	return im
}

// shortKinds are the ops that all short lists are made of: two blocks, writes alike and unlike, of noughts, and a barrier.
var shortKinds = []api.Op{write(0, letter(1)), write(0, letter(2)), write(1, letter(1)), write(0, letter(0)), barrier()}

// shortImages are what these lists begin from.
var shortImages = []api.Image{image(2), image(2, held(0, letter(1))), image(3, held(0, letter(9)), held(2, letter(9)))}

// The numbers that are no disk's blocks.
var noBlocks = []int{math.MinInt, math.MinInt + 1, math.MinInt32, -1048576, -2, -1, 0, 1<<20 + 1, 1<<20 + 2, 1 << 21, math.MaxInt32, math.MaxInt - 1, math.MaxInt}

// badImages may not be, each for one reason alone.
func badImages() map[string]api.Image {
	x, y := letter(1), letter(2)
	return map[string]api.Image{
		"no blocks":                  image(0),
		"blocks below 0":             image(-1),
		"too many blocks":            image(1<<20 + 1),
		"too many blocks, and one":   image(1<<20+1, held(0, x)),
		"behind the last":            image(4, held(4, x)),
		"far behind the last":        image(4, held(math.MaxInt, x)),
		"behind the last, the third": image(4, held(0, x), held(3, x), held(4, x)),
		"below 0":                    image(4, held(-1, x)),
		"far below 0":                image(4, held(math.MinInt, x)),
		"below 0, then not":          image(4, held(-1, x), held(0, x)),
		"twice, alike":               image(4, held(2, x), held(2, x)),
		"twice, unlike":              image(4, held(2, x), held(2, y)),
		"twice, block 0":             image(4, held(0, x), held(0, x)),
		"twice, another between":     image(4, held(1, x), held(3, y), held(1, x)),
		"falling":                    image(4, held(2, x), held(1, x)),
		"falling at last":            image(4, held(0, x), held(3, y), held(2, y)),
		"falling, above the first":   image(4, held(1, x), held(3, y), held(2, y)),
		"blank":                      image(4, held(0, letter(0))),
		"blank at last":              image(4, held(0, x), held(3, letter(0))),
		"blank in the midst":         image(4, held(0, x), held(1, letter(0)), held(2, x)),
		"of one block, a second":     image(1, held(1, x)),
		"more than there are blocks": image(1, held(0, x), held(1, x)),
	}
}

// P5.1: images that may not be, and images that just may be.
func TestWhole(t *testing.T) {
	for _, n := range noBlocks {
		if err := past.Whole(image(n)); err != api.ErrArg {
			t.Errorf("%d blocks: %d", n, err)
		}
	}
	for name, im := range badImages() {
		if err := past.Whole(im); err != api.ErrArg {
			t.Errorf("%s: %d", name, err)
		}
	}
	x := letter(1)
	for i, im := range []api.Image{
		image(1), {Blocks: 1, Data: []api.Held{}}, image(2), image(1<<20 - 1), image(1 << 20),
		image(1, held(0, x)), image(4, held(0, x)), image(4, held(3, x)), image(4, held(1, x), held(2, x)),
		image(4, held(0, x), held(1, x), held(2, x), held(3, x)), image(1<<20, held(0, x), held(1<<20-1, x)),
	} {
		if err := past.Whole(im); err != api.OK {
			t.Errorf("image %d: %d", i, err)
		}
	}
}

// P5.1: a block is all noughts only if each of its bytes is one.
func TestWholeEachByte(t *testing.T) {
	for at := range 1024 {
		for _, v := range []byte{1, 128, 255} {
			if err := past.Whole(image(2, held(1, lone(at, v)))); err != api.OK {
				t.Errorf("byte %d: %d", at, err)
			}
		}
	}
}

// P5.1: every list of up to three numbers and blocks, held against the document's words.
func TestWholeAllShort(t *testing.T) {
	var kinds []api.Held
	for at := -1; at <= 3; at++ {
		kinds = append(kinds, held(at, letter(1)), held(at, letter(0)))
	}
	for blocks := -1; blocks <= 3; blocks++ {
		lists(kinds, 3, func(data []api.Held) {
			im := image(blocks, data...)
			want := api.ErrArg
			if imageMayBe(im) {
				want = api.OK
			}
			if err := past.Whole(im); err != want {
				t.Errorf("%d blocks, %d of them told: %d, not %d", blocks, len(data), err, want)
			}
		})
	}
}

// P5.1: Pending of every short list, with ops that are none among them, at each k inside and outside, and at the ends of int.
func TestPending(t *testing.T) {
	kinds := []api.Op{write(0, letter(1)), barrier(), {}, {Kind: 3, At: 1}, write(-1, letter(0)), {Kind: 255}}
	ends := []int{math.MinInt, math.MinInt + 1, math.MinInt32, math.MaxInt32, math.MaxInt - 1, math.MaxInt}
	lists(kinds, 4, func(ops []api.Op) {
		check := func(k int) {
			if got := past.Pending(ops, k); !slices.Equal(got, toldPending(ops, k)) {
				t.Errorf("Pending of %d ops, %d: %v, not %v", len(ops), k, got, toldPending(ops, k))
			}
		}
		for k := -2; k <= len(ops)+2; k++ {
			check(k)
		}
		for _, k := range ends {
			check(k)
		}
	})
}

// P5.1: ops of other kinds say nothing in Pending: they are neither writes nor barriers, and the places are those in the whole list.
func TestPendingOtherKinds(t *testing.T) {
	for kind := range 256 {
		if kind == 1 || kind == 2 {
			continue
		}
		none := api.Op{Kind: api.OpKind(kind), Data: letter(1)}
		ops := []api.Op{none, write(0, letter(1)), none, write(9999, letter(1)), none}
		if got := past.Pending(ops, 5); !slices.Equal(got, []int{1, 3}) {
			t.Errorf("kind %d: %v", kind, got)
		}
		if got := past.Pending([]api.Op{none, barrier(), none}, 3); len(got) != 0 {
			t.Errorf("kind %d: %v", kind, got)
		}
	}
}

// P5.1 to P5.3: every short list of ops, each k and every choice of keep, one longer than what is pending among them.
func TestAfterAllShort(t *testing.T) {
	lists(shortKinds, 4, func(ops []api.Op) {
		for n, im := range shortImages {
			for k := range len(ops) + 1 {
				pending := len(toldPending(ops, k))
				keeps(pending+1, func(keep []bool) {
					got := after(t, im, ops, k, keep)
					if !alike(got, toldAfter(im, ops, k, keep)) {
						t.Fatalf("After of image %d, %d ops, %d, %v is another one", n, len(ops), k, keep)
					}
					if err := past.Whole(got); err != api.OK {
						t.Fatalf("what After tells may not be: %d", err)
					}
				})
			}
		}
	})
}

// P5.1: what Block tells, its order too, of every short list.
func TestBlockAllShort(t *testing.T) {
	lists(shortKinds, 5, func(ops []api.Op) {
		for n, im := range shortImages {
			for k := range len(ops) + 1 {
				for at := range im.Blocks {
					if got := block(t, im, ops, k, at); !slices.Equal(got, toldBlock(im, ops, k, at)) {
						t.Fatalf("Block of image %d, %d ops, %d, %d: %d blocks, or others", n, len(ops), k, at, len(got))
					}
				}
			}
		}
	})
}

// P5.3: what Block tells of a block is just what After has there, whatever keep is, and nothing twice.
func TestBlockIsWhatAfterHas(t *testing.T) {
	lists(shortKinds, 4, func(ops []api.Op) {
		for _, im := range shortImages {
			for k := range len(ops) + 1 {
				for at := range im.Blocks {
					blockAgainstAfter(t, im, ops, k, at)
				}
			}
		}
	})
}

func blockAgainstAfter(t testing.TB, im api.Image, ops []api.Op, k, at int) {
	t.Helper()
	may := block(t, im, ops, k, at)
	had := make([]int, len(may))
	keeps(len(past.Pending(ops, k)), func(keep []bool) {
		i := slices.Index(may, blockAt(after(t, im, ops, k, keep), at))
		if i < 0 {
			t.Fatalf("After has a block at %d that Block does not tell, with %v", at, keep)
		}
		had[i]++
	})
	for i, n := range had {
		if n == 0 || slices.Contains(may[:i], may[i]) {
			t.Fatalf("Block tells as its %d-th at %d what After never has, or tells it twice", i, at)
		}
	}
}

// P5.1 to P5.3 in longer lists, by a row of numbers.
func TestLongerLists(t *testing.T) {
	next := row(3)
	for range 400 {
		blocks := 1 + next(6)
		im, ops := someImage(next, blocks), someOps(next, blocks, 40)
		k := next(len(ops) + 1)
		keep := make([]bool, next(12))
		for i := range keep {
			keep[i] = next(2) == 0
		}
		got := after(t, im, ops, k, keep)
		if !alike(got, toldAfter(im, ops, k, keep)) || past.Whole(got) != api.OK {
			t.Fatalf("After of %d ops, %d, %v", len(ops), k, keep)
		}
		for at := range blocks {
			may := block(t, im, ops, k, at)
			if !slices.Equal(may, toldBlock(im, ops, k, at)) || !slices.Contains(may, blockAt(got, at)) {
				t.Fatalf("Block of %d ops, %d, %d", len(ops), k, at)
			}
		}
	}
}

// P5.1: images that may not be are refused by each function that is handed one.
func TestBadImages(t *testing.T) {
	good := image(4, held(1, letter(1)))
	for name, im := range badImages() {
		for _, ops := range [][]api.Op{nil, {barrier()}, {write(0, letter(1))}} {
			refused(t, name, im, ops, 0, nil, 0)
			refused(t, name, im, ops, len(ops), []bool{true}, 0)
		}
		for _, other := range []api.Image{im, good, image(im.Blocks)} {
			if past.Same(im, other) || past.Same(other, im) {
				t.Errorf("%s: the same", name)
			}
			if a, b := past.Changed(im, other), past.Changed(other, im); len(a) != 0 || len(b) != 0 {
				t.Errorf("%s: changed %v, %v", name, a, b)
			}
		}
	}
}

// refused tells whether After and Block answer ErrArg, and nothing beside.
func refused(t testing.TB, name string, im api.Image, ops []api.Op, k int, keep []bool, at int) {
	t.Helper()
	if got, err := past.After(im, ops, k, keep); err != api.ErrArg || !zero(got) {
		t.Errorf("After, %s: %d blocks, %d", name, got.Blocks, err)
	}
	if got, err := past.Block(im, ops, k, at); err != api.ErrArg || len(got) != 0 {
		t.Errorf("Block, %s: %d blocks, %d", name, len(got), err)
	}
}

// P5.1: an op that may not be is refused wherever it stands, before and behind k.
func TestBadOps(t *testing.T) {
	im := image(4, held(1, letter(1)))
	bad := map[string]api.Op{
		"behind the last block":     write(4, letter(1)),
		"far behind the last block": write(math.MaxInt, letter(1)),
		"below 0":                   write(-1, letter(1)),
		"far below 0":               write(math.MinInt, letter(1)),
		"noughts outside":           write(4, letter(0)),
	}
	for kind := range 256 {
		if kind != 1 && kind != 2 {
			bad["kind "+strconv.Itoa(kind)] = api.Op{Kind: api.OpKind(kind)}
		}
	}
	for name, op := range bad {
		for place := range 4 {
			ops := []api.Op{write(0, letter(1)), barrier(), write(3, letter(2))}
			ops = slices.Insert(ops, place, op)
			for k := range len(ops) + 1 {
				refused(t, name, im, ops, k, nil, 0)
			}
		}
	}
}

// P5.1: writes just inside are made; what a barrier has in At and Data counts for nothing.
func TestJustInside(t *testing.T) {
	for _, blocks := range []int{1, 2, 4, 1 << 20} {
		ops := []api.Op{write(0, letter(1)), write(blocks-1, letter(2))}
		want := image(blocks, held(0, letter(1)), held(blocks-1, letter(2)))
		if blocks == 1 {
			want = image(1, held(0, letter(2)))
		}
		if got := after(t, image(blocks), ops, 2, []bool{true, true}); !alike(got, want) {
			t.Errorf("%d blocks: %d told", blocks, len(got.Data))
		}
		if got := block(t, image(blocks), ops, 2, blocks-1); got[len(got)-1] != letter(2) {
			t.Errorf("%d blocks: the last one", blocks)
		}
		refused(t, "a write just outside", image(blocks), []api.Op{write(blocks, letter(1))}, 1, nil, 0)
	}
	for _, at := range []int{math.MinInt, -1, 0, 1, 4, 5, math.MaxInt} {
		ops := []api.Op{write(1, letter(1)), {Kind: api.OpBarrier, At: at, Data: letter(7)}, write(2, letter(2))}
		want := image(4, held(1, letter(1)))
		if got := after(t, image(4), ops, 3, nil); !alike(got, want) {
			t.Errorf("a barrier with At %d: %d told", at, len(got.Data))
		}
		if got := block(t, image(4), ops, 3, 0); !slices.Equal(got, []api.Block{{}}) {
			t.Errorf("a barrier with At %d: block 0 may be %d things", at, len(got))
		}
	}
}

// P5.1: k just inside and just outside its bounds, and at the ends of int.
func TestBounds(t *testing.T) {
	im := image(4, held(1, letter(9)))
	all := []api.Op{write(1, letter(1)), barrier(), write(2, letter(2)), write(3, letter(3))}
	for n := range len(all) + 1 {
		ops := all[:n] // with more behind its end, in its spare room
		for _, k := range []int{math.MinInt, math.MinInt + 1, math.MinInt32, -2, -1, n + 1, n + 2, math.MaxInt32, math.MaxInt - 1, math.MaxInt} {
			refused(t, "k outside", im, ops, k, []bool{true, true}, 1)
		}
		for k := range n + 1 {
			if got := after(t, im, ops, k, []bool{true, true}); !alike(got, toldAfter(im, ops, k, []bool{true, true})) {
				t.Errorf("After, %d of %d", k, n)
			}
			if got := block(t, im, ops, k, 1); !slices.Equal(got, toldBlock(im, ops, k, 1)) {
				t.Errorf("Block, %d of %d", k, n)
			}
		}
	}
	for _, at := range []int{math.MinInt, math.MinInt + 1, math.MinInt32, -2, -1, 4, 5, 1 << 20, math.MaxInt32, math.MaxInt} {
		if got, err := past.Block(im, all, 4, at); err != api.ErrArg || len(got) != 0 {
			t.Errorf("Block at %d: %d, %d", at, len(got), err)
		}
	}
	for at := range 4 {
		if got := block(t, im, all, 4, at); !slices.Equal(got, toldBlock(im, all, 4, at)) {
			t.Errorf("Block at %d: %d", at, len(got))
		}
	}
}

// P5.1: what stands behind the first k is not made, and no barrier behind them makes a write sure.
func TestBehindK(t *testing.T) {
	ops := []api.Op{write(1, letter(1)), write(2, letter(2)), barrier(), write(1, letter(3)), barrier()}
	if got := after(t, image(4), ops, 2, nil); !alike(got, image(4)) {
		t.Errorf("a barrier behind k makes sure: %d told", len(got.Data))
	}
	if got := after(t, image(4), ops, 4, nil); !alike(got, image(4, held(1, letter(1)), held(2, letter(2)))) {
		t.Errorf("the first four: %d told", len(got.Data))
	}
	if got := block(t, image(4), ops, 3, 1); !slices.Equal(got, []api.Block{letter(1)}) {
		t.Errorf("block 1 behind the first three may be %d things", len(got))
	}
}

// P5.1: keep shorter and longer than what is pending: what it has no place for is lost, and what is too much counts for nothing, its spare room neither.
func TestKeepLength(t *testing.T) {
	ops := []api.Op{write(0, letter(1)), barrier(), write(1, letter(2)), write(2, letter(3)), write(3, letter(4))}
	all := []bool{true, true, true, true, true, true}
	for n := range all {
		want := image(4, held(0, letter(1)), held(1, letter(2)), held(2, letter(3)), held(3, letter(4)))
		want.Data = want.Data[:min(n, 3)+1]
		if got := after(t, image(4), ops, 5, all[:n]); !alike(got, want) {
			t.Errorf("keep of %d: %d told", n, len(got.Data))
		}
	}
	long := make([]bool, 1<<16)
	if got := after(t, image(4), ops, 5, long); !alike(got, image(4, held(0, letter(1)))) {
		t.Errorf("a long keep of nothing: %d told", len(got.Data))
	}
}

// P5.1: several pending writes of one block, alike and unlike, and of noughts.
func TestOneBlock(t *testing.T) {
	a, b, none := letter(1), letter(2), letter(0)
	for i, x := range []struct {
		im   api.Image
		puts []api.Block // pending, of block 1
		want []api.Block
	}{
		{image(2), []api.Block{a, a, a}, []api.Block{none, a}},
		{image(2), []api.Block{a, b, a, b}, []api.Block{none, a, b}},
		{image(2), []api.Block{none, a, none}, []api.Block{none, a}},
		{image(2, held(1, a)), []api.Block{a}, []api.Block{a}},
		{image(2, held(1, a)), []api.Block{none}, []api.Block{a, none}},
		{image(2, held(1, a)), []api.Block{b, a, none, b, none}, []api.Block{a, b, none}},
		{image(2, held(1, b)), []api.Block{a, b}, []api.Block{b, a}},
		{image(2, held(0, a)), []api.Block{a}, []api.Block{none, a}},
		{image(2), []api.Block{lone(0, 1), lone(1023, 1), lone(0, 2)}, []api.Block{none, lone(0, 1), lone(1023, 1), lone(0, 2)}},
	} {
		var ops []api.Op
		for _, p := range x.puts {
			ops = append(ops, write(0, numbered(len(ops))), write(1, p)) // another block's writes between
		}
		if got := block(t, x.im, ops, len(ops), 1); !slices.Equal(got, x.want) {
			t.Errorf("case %d: %d blocks, or others", i, len(got))
		}
		ops = append(ops, barrier())
		if got := block(t, x.im, ops, len(ops), 1); !slices.Equal(got, x.puts[len(x.puts)-1:]) {
			t.Errorf("case %d behind a barrier: %d blocks, or others", i, len(got))
		}
	}
}

// P5.1, P5.2: a write of noughts takes a block out of the image, be it sure or kept; and puts none in.
func TestNoughts(t *testing.T) {
	im := image(4, held(0, letter(1)), held(2, letter(2)))
	ops := []api.Op{write(2, letter(0)), barrier(), write(0, letter(0)), write(3, letter(0))}
	if got := after(t, im, ops, 4, nil); !alike(got, image(4, held(0, letter(1)))) {
		t.Errorf("noughts that are sure: %d told", len(got.Data))
	}
	if got := after(t, im, ops, 4, []bool{true, true}); !alike(got, image(4)) {
		t.Errorf("noughts that are kept: %d told", len(got.Data))
	}
	ops = []api.Op{write(1, letter(0)), barrier(), write(1, letter(3)), write(2, letter(0)), write(2, letter(4))}
	if got := after(t, im, ops, 5, []bool{true, true, true}); !alike(got, image(4, held(0, letter(1)), held(1, letter(3)), held(2, letter(4)))) {
		t.Errorf("noughts, and others behind them: %d told", len(got.Data))
	}
}

// P5.2: where the last of the first k ops is a barrier, keep does not matter.
func TestKeepBehindBarrier(t *testing.T) {
	lists(shortKinds, 4, func(ops []api.Op) {
		ops = append(ops[:len(ops):len(ops)], barrier())
		if got := past.Pending(ops, len(ops)); len(got) != 0 {
			t.Fatalf("pending behind a barrier: %v", got)
		}
		for _, im := range shortImages {
			want := after(t, im, ops, len(ops), nil)
			keeps(3, func(keep []bool) {
				if got := after(t, im, ops, len(ops), keep); !alike(got, want) {
					t.Fatalf("After of %d ops, the last a barrier, is another one with %v", len(ops), keep)
				}
			})
		}
	})
}

// P5.4: every short list cut at each of its barriers: the two parts are the whole.
func TestCutAtBarriers(t *testing.T) {
	lists(shortKinds, 5, func(ops []api.Op) {
		for cut, op := range ops {
			if op.Kind == api.OpBarrier {
				for _, im := range shortImages[1:] {
					cutAt(t, im, ops, cut+1)
				}
			}
		}
	})
}

// cutAt makes the first n ops, and then those behind them, as many as one likes.
func cutAt(t testing.TB, im api.Image, ops []api.Op, n int) {
	t.Helper()
	for k := n; k <= len(ops); k++ {
		keeps(len(past.Pending(ops, k)), func(keep []bool) {
			whole := after(t, im, ops, k, keep)
			for _, first := range [][]bool{nil, keep} {
				parts := after(t, after(t, im, ops, n, first), ops[n:], k-n, keep)
				if !alike(whole, parts) {
					t.Fatalf("%d ops, cut at %d, %d, %v: the parts are not the whole", len(ops), n, k, keep)
				}
			}
		})
	}
}

// P5.4 in longer lists.
func TestCutLongerLists(t *testing.T) {
	next := row(11)
	for range 60 {
		im, ops := someImage(next, 5), someOps(next, 5, 40)
		keep := make([]bool, 10)
		for i := range keep {
			keep[i] = next(2) == 0
		}
		for n, op := range ops {
			if op.Kind != api.OpBarrier {
				continue
			}
			for k := n + 1; k <= len(ops); k++ {
				whole := after(t, im, ops, k, keep)
				parts := after(t, after(t, im, ops, n+1, keep), ops[n+1:], k-n-1, keep)
				if !alike(whole, parts) {
					t.Fatalf("%d ops, cut at %d, %d: the parts are not the whole", len(ops), n+1, k)
				}
			}
		}
	}
}

// P5.1, P5.5: all pairs of small images: alike, of one block or several that differ, of another length, and such that may not be.
func TestSameAndChanged(t *testing.T) {
	ims := []api.Image{image(0), image(2, held(2, letter(1))), image(3, held(1, letter(0))), image(3, held(1, letter(1)), held(0, letter(1)))}
	for blocks := 1; blocks <= 3; blocks++ {
		lists([]byte{0, 1, 2}, blocks, func(letters []byte) {
			if len(letters) < blocks {
				return
			}
			im := api.Image{Blocks: blocks}
			for at, v := range letters {
				if v != 0 {
					im.Data = append(im.Data, held(at, letter(v)))
				}
			}
			ims = append(ims, im)
		})
	}
	for i, a := range ims {
		for j, b := range ims {
			b.Data = slices.Clone(b.Data)
			changed := past.Changed(a, b)
			if !slices.Equal(changed, toldChanged(a, b)) {
				t.Errorf("Changed of images %d and %d: %v, not %v", i, j, changed, toldChanged(a, b))
			}
			same := past.Same(a, b)
			if want := imageMayBe(a) && i == j; same != want {
				t.Errorf("Same of images %d and %d: %v", i, j, same)
			}
			if imageMayBe(a) && imageMayBe(b) && a.Blocks == b.Blocks && same != (len(changed) == 0) {
				t.Errorf("images %d and %d: Same is %v, and %v changed", i, j, same, changed)
			}
		}
	}
}

// P5.1: images that differ in one byte of one block, each byte of it.
func TestOneByteDiffers(t *testing.T) {
	a := image(4, held(0, letter(1)), held(2, letter(2)), held(3, letter(3)))
	for i := range 1024 {
		b := image(4, slices.Clone(a.Data)...)
		b.Data[1].Data[i]++
		if past.Same(a, b) || !slices.Equal(past.Changed(a, b), []int{2}) {
			t.Errorf("byte %d", i)
		}
	}
}

// P5.1: images of another length differ, though all their blocks are the same; none is told then.
func TestOtherLength(t *testing.T) {
	x := held(0, letter(1))
	for _, p := range [][2]api.Image{{image(1), image(2)}, {image(1, x), image(2, x)}, {image(1<<20-1, x), image(1 << 20)}, {image(3), image(2, x)}} {
		if past.Same(p[0], p[1]) || past.Same(p[1], p[0]) || len(past.Changed(p[0], p[1])) != 0 || len(past.Changed(p[1], p[0])) != 0 {
			t.Errorf("%d and %d blocks", p[0].Blocks, p[1].Blocks)
		}
	}
}

// P5.1: Changed rises, however many there are.
func TestManyChanged(t *testing.T) {
	const n = 3000
	a, b := image(1<<20), image(1<<20)
	var want []int
	for i := range n {
		at := i * 349
		switch i % 4 {
		case 0:
			a.Data = append(a.Data, held(at, numbered(i)))
		case 1:
			b.Data = append(b.Data, held(at, numbered(i)))
		case 2:
			a.Data, b.Data = append(a.Data, held(at, numbered(i))), append(b.Data, held(at, numbered(i+1)))
		case 3:
			a.Data, b.Data = append(a.Data, held(at, numbered(i))), append(b.Data, held(at, numbered(i)))
			continue
		}
		want = append(want, at)
	}
	if !slices.Equal(past.Changed(a, b), want) || !slices.Equal(past.Changed(b, a), want) {
		t.Error("many changed")
	}
	if past.Same(a, b) || !past.Same(a, a) || len(past.Changed(a, a)) != 0 {
		t.Error("Same of many")
	}
}

// P5.1, P5.2: long lists of ops and of blocks are not slow, and what is told rises.
func TestMany(t *testing.T) {
	const n = 1 << 14
	ops := make([]api.Op, 0, 2*n)
	for i := range n {
		ops = append(ops, write(i*7919%n, numbered(i)))
	}
	ops = append(ops, barrier())
	for i := range n - 1 {
		ops = append(ops, write(5, numbered(i)))
	}
	got := after(t, image(n), ops, len(ops), nil)
	if len(got.Data) != n || past.Whole(got) != api.OK {
		t.Errorf("After of many: %d told, %d", len(got.Data), past.Whole(got))
	}
	for i := range n {
		if h := got.Data[i*7919%n]; h.Data != numbered(i) {
			t.Fatalf("block %d", h.Index)
		}
	}
	if places := past.Pending(ops, len(ops)); len(places) != n-1 || places[0] != n+1 {
		t.Errorf("Pending of many: %d", len(places))
	}
	want := []api.Block{blockAt(got, 5)}
	for i := range n - 1 {
		if numbered(i) != want[0] {
			want = append(want, numbered(i))
		}
	}
	if may := block(t, image(n), ops, len(ops), 5); !slices.Equal(may, want) {
		t.Errorf("Block of many: %d", len(may))
	}
}

// What a disk holds behind a crash is what After tells of its history, with the same keep; and what it tells as pending is what Pending tells.
func TestAsDisk(t *testing.T) {
	next := row(5)
	for range 300 {
		im, ops := someImage(next, 5), someOps(next, 5, 30)
		d, err := disk.Load(im)
		if err != api.OK {
			t.Fatalf("Load: %d", err)
		}
		for _, op := range ops {
			if op.Kind == api.OpWrite {
				d.Write(op.At, op.Data)
			} else {
				d.Barrier()
			}
		}
		keep := make([]bool, next(12))
		for i := range keep {
			keep[i] = next(2) == 0
		}
		history := d.History()
		var ats []int
		for _, i := range past.Pending(history, len(history)) {
			ats = append(ats, history[i].At)
		}
		if !slices.Equal(ats, d.Pending()) {
			t.Fatalf("pending: %v, not %v", ats, d.Pending())
		}
		d.Crash(keep)
		if !alike(after(t, im, history, len(history), keep), d.Image()) || !past.Same(after(t, im, history, len(history), keep), d.Image()) {
			t.Fatalf("After of %d ops with %v is not what the disk holds", len(ops), keep)
		}
	}
}

// Rule 3: answers are new memory, their spare room too: writing over one changes neither what was handed in nor a later answer.
func TestAnswersAreNew(t *testing.T) {
	im := image(4, held(0, letter(1)), held(1, letter(2)))
	ops := []api.Op{write(1, letter(3)), barrier(), write(1, letter(4)), write(2, letter(5))}
	wantIm, wantOps := image(4, slices.Clone(im.Data)...), slices.Clone(ops)
	other := image(4, held(3, letter(6)))
	for range 2 {
		for _, k := range []int{0, 2, 4} {
			got := after(t, im, ops, k, []bool{true})
			if !alike(got, toldAfter(wantIm, wantOps, k, []bool{true})) {
				t.Errorf("After of %d is another one", k)
			}
			ruin(got.Data, held(77, letter(77)))
			may := block(t, im, ops, k, 1)
			if !slices.Equal(may, toldBlock(wantIm, wantOps, k, 1)) {
				t.Errorf("Block of %d is another one", k)
			}
			ruin(may, letter(77))
			places := past.Pending(ops, k)
			if !slices.Equal(places, toldPending(wantOps, k)) {
				t.Errorf("Pending of %d is another one", k)
			}
			ruin(places, 77)
		}
		changed := past.Changed(im, other)
		if !slices.Equal(changed, []int{0, 1, 3}) {
			t.Errorf("Changed: %v", changed)
		}
		ruin(changed, 77)
	}
	if !alike(im, wantIm) || !slices.Equal(ops, wantOps) {
		t.Error("an answer is memory that was handed in")
	}
}

// ruin writes over a list, its spare room too.
func ruin[T any](list []T, v T) {
	list = list[:cap(list)]
	for i := range list {
		list[i] = v
	}
}

// Rule 3: nothing of an answer changes when what was handed in is written over afterwards, or with later calls.
func TestAnswersStay(t *testing.T) {
	im := image(4, held(0, letter(1)), held(1, letter(2)))
	ops := []api.Op{write(1, letter(3)), barrier(), write(1, letter(4)), write(2, letter(5))}
	keep := []bool{false, true}
	first := after(t, im, ops, 0, keep)
	got, may, places := after(t, im, ops, 4, keep), block(t, im, ops, 4, 1), past.Pending(ops, 4)
	changed := past.Changed(im, image(4))
	after(t, im, ops, 4, []bool{true})
	block(t, im, ops, 4, 2)
	ruin(im.Data, held(0, letter(99)))
	ruin(ops, write(0, letter(99)))
	ruin(keep, true)
	if !alike(first, image(4, held(0, letter(1)), held(1, letter(2)))) {
		t.Error("After of none is the image that was handed in")
	}
	if !alike(got, image(4, held(0, letter(1)), held(1, letter(3)), held(2, letter(5)))) {
		t.Error("After's answer changed")
	}
	if !slices.Equal(may, []api.Block{letter(3), letter(4)}) || !slices.Equal(places, []int{2, 3}) || !slices.Equal(changed, []int{0, 1}) {
		t.Error("an answer changed")
	}
}

// Rule 3: nothing that is handed in is changed, its spare room too, nor does that spare room count.
func TestArgumentsStay(t *testing.T) {
	room := []api.Held{held(0, letter(1)), held(2, letter(2)), held(9, letter(0)), held(1, letter(1))}
	hold := []api.Op{write(1, letter(3)), barrier(), write(2, letter(0)), {Kind: 9, At: -1}, barrier()}
	keep := []bool{false, true, true}
	wantRoom, wantHold, wantKeep := slices.Clone(room), slices.Clone(hold), slices.Clone(keep)
	im, ops := image(4), hold[:3]
	im.Data = room[:2]
	if got := after(t, im, ops, 3, keep[:1]); !alike(got, image(4, held(0, letter(1)), held(1, letter(3)), held(2, letter(2)))) {
		t.Errorf("After: %d told", len(got.Data))
	}
	if got := block(t, im, ops, 3, 2); !slices.Equal(got, []api.Block{letter(2), {}}) {
		t.Errorf("Block: %d", len(got))
	}
	if got := past.Pending(ops, 9); !slices.Equal(got, []int{2}) {
		t.Errorf("Pending: %v", got)
	}
	if past.Whole(im) != api.OK || !past.Same(im, im) || !slices.Equal(past.Changed(im, image(4)), []int{0, 2}) {
		t.Error("an image with other things in its spare room")
	}
	if !slices.Equal(room, wantRoom) || !slices.Equal(hold, wantHold) || !slices.Equal(keep, wantKeep) {
		t.Error("what was handed in was changed")
	}
}

// A list that is nil and one that is empty are the same.
func TestNilAndEmpty(t *testing.T) {
	none, empty := image(2), api.Image{Blocks: 2, Data: []api.Held{}}
	if !past.Same(none, empty) || !past.Same(empty, none) || len(past.Changed(none, empty)) != 0 {
		t.Error("images of nothing")
	}
	for _, ops := range [][]api.Op{nil, {}} {
		for _, keep := range [][]bool{nil, {}, {true}} {
			if got := after(t, empty, ops, 0, keep); !alike(got, none) {
				t.Error("After of nothing")
			}
		}
		if got := block(t, none, ops, 0, 1); !slices.Equal(got, []api.Block{{}}) {
			t.Errorf("Block of nothing: %d", len(got))
		}
		if got := past.Pending(ops, 0); len(got) != 0 {
			t.Errorf("Pending of nothing: %v", got)
		}
	}
}

// The number of the error.
func TestErrors(t *testing.T) {
	_, a := past.After(image(1), nil, 1, nil)
	_, b := past.Block(image(1), nil, 0, 1)
	for i, err := range []api.Errno{past.Whole(image(0)), a, b} {
		if int(err) != 2 {
			t.Errorf("error %d: %d, not 2", i, err)
		}
	}
}

// The chapter's examples, line by line.
func TestExamples(t *testing.T) {
	a, b, c, none := letter(1), letter(2), letter(3), letter(0)
	im := image(4)
	ops := []api.Op{write(1, a), barrier(), write(1, b), write(2, c), write(1, a)}
	for k, want := range map[int][]int{5: {2, 3, 4}, 2: nil, 1: {0}} {
		if got := past.Pending(ops, k); !slices.Equal(got, want) {
			t.Errorf("Pending of the first %d: %v", k, got)
		}
	}
	for i, x := range []struct {
		k    int
		keep []bool
		want api.Image
	}{
		{5, []bool{false, true}, image(4, held(1, a), held(2, c))},
		{5, []bool{true}, image(4, held(1, b))},
		{5, []bool{true, false, true}, image(4, held(1, a))},
		{5, nil, image(4, held(1, a))},
		{1, nil, image(4)},
		{1, []bool{true}, image(4, held(1, a))},
	} {
		if got := after(t, im, ops, x.k, x.keep); !alike(got, x.want) {
			t.Errorf("After, case %d: %d told", i, len(got.Data))
		}
	}
	for at, want := range [][]api.Block{1: {a, b}, 2: {none, c}, 3: {none}} {
		if at > 0 && !slices.Equal(block(t, im, ops, 5, at), want) {
			t.Errorf("Block at %d", at)
		}
	}
	if got, err := past.Block(im, ops, 5, 4); err != api.ErrArg || len(got) != 0 {
		t.Errorf("Block at 4: %d, %d", len(got), err)
	}
	for i, im := range []api.Image{image(0), image(4, held(4, a)), image(4, held(1, none)), image(4, held(2, a), held(1, a))} {
		if err := past.Whole(im); err != api.ErrArg {
			t.Errorf("Whole of image %d: %d", i, err)
		}
	}
}
