package files_test

import (
	"maps"
	"math"
	"math/rand"
	"slices"
	"testing"

	"undercroft/api"
	"undercroft/mount"
)

// with is an image in which some blocks are others.
func with(im api.Image, others map[int]api.Block) api.Image {
	blocks := map[int]api.Block{}
	for _, h := range im.Data {
		blocks[h.Index] = h.Data
	}
	maps.Copy(blocks, others)
	out := api.Image{Blocks: im.Blocks}
	for _, at := range slices.Sorted(maps.Keys(blocks)) {
		if blocks[at] != (api.Block{}) {
			out.Data = append(out.Data, api.Held{Index: at, Data: blocks[at]})
		}
	}
	return out
}

func blockOf(im api.Image, at int) api.Block {
	for _, h := range im.Data {
		if h.Index == at {
			return h.Data
		}
	}
	return api.Block{}
}

// put lays a number into a list of bytes, the lowest byte first.
func put(b []byte, v uint32) {
	b[0], b[1], b[2], b[3] = byte(v), byte(v>>8), byte(v>>16), byte(v>>24)
}

// within asks whether nothing was written but to the log and to the regions of inodes, bitmap and data.
func (x *world) within(t testing.TB, g api.Geometry) {
	t.Helper()
	for _, op := range x.d.History() {
		if op.Kind == api.OpWrite && (op.At < 1 || op.At >= g.Blocks) {
			t.Fatalf("block %d was written", op.At)
		}
	}
}

// Rule 8: a block number that is no data block's is ErrInval where it is met, and no descriptor is changed by that; what does not meet it goes on.
func TestBadNumber(t *testing.T) {
	im := village(t, small())
	for _, n := range []uint32{1, 32, 33, 37, 400, 401, 1 << 20, math.MaxInt32, math.MaxUint32} {
		nodes := blockOf(im, 33)
		put(nodes[3*64+16:], n) // the index 1 of inode 3
		x := &world{d: load(t, with(im, map[int]api.Block{33: nodes}))}
		x.mount(t, newAccount(small(), look(t, im, small())))
		x.all(t, opening(2, rw), opening(3, rw), reading(1, 1024), stating(1), seeking(1, -24, 1))
		before := x.spent()
		answers(t, x.f[0], []answer{
			{reading(1, 25), wrong(api.ErrInval)}, {reading(1, 65536), wrong(api.ErrInval)}, {writing(1, sown(1, 25)), wrong(api.ErrInval)}, {writing(1, sown(1, 20000)), wrong(api.ErrInval)},
			{opening(3, wr|tr), wrong(api.ErrInval)}, {opening(3, rw|tr), wrong(api.ErrInval)}, {seeking(1, 0, 1), value(1000)}, {reading(1, 0), told()},
		})
		if now := x.spent(); now.made != before.made || now.used != before.used {
			t.Fatalf("number %d: something was written", n)
		}
		x.sees(t)
		x.all(t, reading(1, 24), seeking(1, 2048, 0), reading(1, 5000), closing(1), opening(3, rd), closing(1), writing(0, sown(1, 9000)))
		x.within(t, small())
	}
}

// Rule 8: files of whatever disk: every call ends, none panics, nothing is written outside; an answer that is an error tells nothing else.
func TestAnyDisk(t *testing.T) {
	im := village(t, small())
	c := &chooser{rand.New(rand.NewSource(26)), nil, 600000}
	mounted, errs := 0, map[api.Errno]int{}
	for range 600 {
		others := map[int]api.Block{}
		for range 1 + c.Intn(4) {
			at := []int{33, 34, 33, 37, 38 + c.Intn(20)}[c.Intn(5)]
			others[at] = spoiled(c.Rand, blockOf(im, at))
		}
		x := &world{d: load(t, with(im, others))}
		if _, err := mount.Mount(x.d); err != api.OK {
			continue
		}
		mounted++
		x.mount(t, newAccount(small(), nil)) // of which there are just the descriptors, for the choice
		c.x = x
		for range 60 {
			who := c.Intn(2)
			call := c.call(who)
			before := x.v.Desk().Len()
			got := x.ask(who, call)
			errs[got.Err]++
			tb := &x.a.tables[who]
			switch {
			case got.Err != api.OK && !like(got, wrong(got.Err)):
				t.Fatalf("kind %d: %+v", call.Kind, short(got))
			case got.Err == api.OK && call.Kind == api.CallOpen:
				tb[got.Value] = slot{open: true}
			case call.Kind == api.CallClose && got.Err != api.ErrBad:
				tb[call.Desc] = slot{}
			case x.v.Desk().Len() != before:
				t.Fatalf("kind %d: %d: another number of inodes is held", call.Kind, got.Err)
			}
			if x.f[who].Full() != tb.full() {
				t.Fatalf("kind %d: %d: Full: %t", call.Kind, got.Err, x.f[who].Full())
			}
		}
		x.v.Sync()
		x.within(t, small())
	}
	if mounted < 100 || errs[api.OK] < 1000 || errs[api.ErrInval] < 100 {
		t.Errorf("%d were mounted, %v", mounted, errs)
	}
}

// spoiled is a block in which some bytes, or all, are others, or numbers of blocks, or inodes.
func spoiled(c *rand.Rand, b api.Block) api.Block {
	switch c.Intn(4) {
	case 0:
		c.Read(b[:])
	case 1:
		for i := 0; i < 1024; i += 4 {
			put(b[i:], uint32(c.Intn(3)*c.Intn(210)))
		}
	case 2:
		for range 1 + c.Intn(30) {
			b[c.Intn(1024)] = byte(c.Intn(256))
		}
	default:
		for i := range 16 {
			n := b[64*i : 64*i+64]
			put(n, uint32(1+c.Intn(2)+1<<16*c.Intn(3)))
			put(n[4:], c.Uint32()>>c.Intn(28))
			put(n[8:], uint32(c.Intn(20)))
			for k := 12; k < 60; k += 4 {
				put(n[k:], uint32(c.Intn(3)*c.Intn(202)))
			}
		}
	}
	return b
}
