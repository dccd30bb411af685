package mkfs_test

import (
	"slices"
	"testing"

	"undercroft/api"
	"undercroft/disk"
	"undercroft/mkfs"
)

// account is an empty file system by the words of the document: where its regions begin, byte by byte what is written, and in which order.
type account struct {
	g                              api.Geometry
	nodes, nodeBlocks, bits, bitsN int // where inodes and bitmap begin, how many blocks they have
	data                           int
	all                            []api.Op // as ops tells them, once it was asked
}

// of reckons where the regions begin by counting their blocks one by one.
func of(g api.Geometry) *account {
	a := &account{g: g, nodes: 1 + g.Log}
	for 16*a.nodeBlocks < g.Inodes+1 {
		a.nodeBlocks++
	}
	a.bits = a.nodes + a.nodeBlocks
	for 8192*a.bitsN < g.Blocks {
		a.bitsN++
	}
	a.data = a.bits + a.bitsN
	return a
}

// super is the superblock, byte by byte.
func (a *account) super() api.Block {
	b := api.Block{'c', 'r', 'o', 'f', 't', 'f', 's', '1'}
	for i, n := range []int{a.g.Blocks, a.g.Log, a.g.Inodes, 1, a.nodes, a.nodeBlocks, a.bits, a.bitsN, a.data} {
		for k := range 4 {
			b[8+4*i+k] = byte(n)
			n /= 256
		}
	}
	return b
}

// second is a byte of what the second part writes.
func (a *account) second(at, i int) byte {
	switch {
	case at == 1:
		return 0
	case at < a.bits:
		return a.ofNodes(1024*(at-a.nodes) + i)
	case at < a.data:
		return a.ofBits(8 * (1024*(at-a.bits) + i))
	}
	return [1024]byte{0: 1, 2: '.', 16: 1, 18: '.', 19: '.'}[i]
}

// ofNodes is a byte of the inodes' region: inode 1 has those from 64 on.
func (a *account) ofNodes(place int) byte {
	if place < 64 || place >= 128 {
		return 0
	}
	return [64]byte{0: 2, 2: 2, 4: 32, 8: 1, 12: byte(a.data), 13: byte(a.data / 256), 14: byte(a.data / 65536)}[place-64]
}

// ofBits is the byte of the bitmap whose first bit is this block's.
func (a *account) ofBits(block int) byte {
	n := 0
	for k := range 8 {
		if block+k <= a.data {
			n += []int{1, 2, 4, 8, 16, 32, 64, 128}[k]
		}
	}
	return byte(n)
}

// ats are the blocks that the second part writes, in order.
func (a *account) ats() []int {
	l := []int{1}
	for at := a.nodes; at <= a.data; at++ {
		l = append(l, at)
	}
	return l
}

// ops are all writes and barriers, in order.
func (a *account) ops() []api.Op {
	if a.all != nil {
		return a.all
	}
	l := []api.Op{write(0, api.Block{}), barrier()}
	for _, at := range a.ats() {
		var b api.Block
		for i := range b {
			b[i] = a.second(at, i)
		}
		l = append(l, write(at, b))
	}
	a.all = append(l, barrier(), write(0, a.super()), barrier())
	return a.all
}

// on is what an image becomes when all is done.
func (a *account) on(im api.Image) api.Image { return made(im, a.ops()) }

// made is what an image becomes when all these writes are made.
func made(im api.Image, ops []api.Op) api.Image {
	held := map[int]api.Block{}
	for _, h := range im.Data {
		held[h.Index] = h.Data
	}
	for _, op := range ops {
		if op.Kind == api.OpWrite {
			held[op.At] = op.Data
		}
	}
	out := api.Image{Blocks: im.Blocks}
	for at := range im.Blocks {
		if held[at] != (api.Block{}) {
			out.Data = append(out.Data, api.Held{Index: at, Data: held[at]})
		}
	}
	return out
}

func write(at int, b api.Block) api.Op { return api.Op{Kind: api.OpWrite, At: at, Data: b} }

func barrier() api.Op { return api.Op{Kind: api.OpBarrier} }

// small is the geometry of the document's examples.
func small() api.Geometry { return api.Geometry{Blocks: 400, Log: 32, Inodes: 60} }

// least is a geometry than which none has less of anything: its one data block is the root's.
func least() api.Geometry { return api.Geometry{Blocks: 36, Log: 32, Inodes: 1} }

// some are geometries at all borders.
func some() []api.Geometry {
	l := []api.Geometry{
		small(), least(),
		{Blocks: 37, Log: 32, Inodes: 1}, {Blocks: 36, Log: 32, Inodes: 15}, {Blocks: 37, Log: 32, Inodes: 16}, {Blocks: 100, Log: 32, Inodes: 31}, {Blocks: 100, Log: 32, Inodes: 32},
		// The greatest log, on few blocks and on many.
		{Blocks: 260, Log: 256, Inodes: 1}, {Blocks: 900, Log: 256, Inodes: 600}, {Blocks: 70000, Log: 255, Inodes: 600},
		// The most inodes, beside one data block and beside more.
		{Blocks: 4131, Log: 32, Inodes: 65535}, {Blocks: 4132, Log: 32, Inodes: 65535}, {Blocks: 9000, Log: 100, Inodes: 65534},
		// Bitmaps of one block and of several, just full and just begun.
		{Blocks: 8191, Log: 32, Inodes: 60}, {Blocks: 8192, Log: 32, Inodes: 60}, {Blocks: 8193, Log: 32, Inodes: 60}, {Blocks: 16384, Log: 40, Inodes: 999}, {Blocks: 16385, Log: 40, Inodes: 999},
		{Blocks: 1 << 20, Log: 32, Inodes: 1}, {Blocks: 1<<20 - 8192, Log: 77, Inodes: 777},
		// Where the data region begins farthest back: no first data block has the last bit of the bitmap's first block, nor one behind it.
		{Blocks: 1 << 20, Log: 256, Inodes: 65535}, {Blocks: 4355, Log: 256, Inodes: 65535},
	}
	// The first data block's bit is each one of a byte, from 3 on round to 3 again, beside one data block and beside many.
	for log := 32; log <= 40; log++ {
		l = append(l, api.Geometry{Blocks: log + 4, Log: log, Inodes: 15}, api.Geometry{Blocks: 300, Log: log, Inodes: 15})
	}
	// It is at both ends of the number's lowest byte.
	for inodes := 3519; inodes <= 3567; inodes += 16 {
		l = append(l, api.Geometry{Blocks: 300, Log: 32, Inodes: inodes}, api.Geometry{Blocks: 8500, Log: 32, Inodes: inodes})
	}
	return l
}

// filled is a block none of whose bytes is 0: each n up to 254 gives another one.
func filled(n int) api.Block {
	var b api.Block
	for i := range b {
		b[i] = byte(1 + (n+i)%255)
	}
	return b
}

// full is an image none of whose blocks has a byte 0.
func full(blocks int) api.Image {
	im := api.Image{Blocks: blocks}
	for at := range blocks {
		im.Data = append(im.Data, api.Held{Index: at, Data: filled(at)})
	}
	return im
}

func blank(blocks int) api.Image { return api.Image{Blocks: blocks} }

func load(t testing.TB, im api.Image) *disk.Disk {
	t.Helper()
	d, err := disk.Load(im)
	if err != api.OK {
		t.Fatalf("Load of %d blocks: %d", im.Blocks, err)
	}
	return d
}

func ok(t testing.TB, errs ...api.Errno) {
	t.Helper()
	for i, err := range errs {
		if err != api.OK {
			t.Fatalf("call %d: %d", i, err)
		}
	}
}

// makes has a file system made on a disk, or refused.
func makes(t testing.TB, d *disk.Disk, g api.Geometry, want api.Errno) {
	t.Helper()
	if err := mkfs.Make(d, g); err != want {
		t.Fatalf("Make(%+v): %d, not %d", g, err, want)
	}
}

// did asks whether just these things were done to a disk since the power came.
func did(t testing.TB, d *disk.Disk, want []api.Op) {
	t.Helper()
	l := d.History()
	if len(l) != len(want) {
		t.Fatalf("%d things were done, not %d", len(l), len(want))
	}
	for i := range l {
		if l[i] != want[i] {
			t.Fatalf("thing %d: kind %d, block %d, not kind %d, block %d; the first byte that is another: %d", i, l[i].Kind, l[i].At, want[i].Kind, want[i].At, unlike(l[i].Data, want[i].Data))
		}
	}
}

// unlike is the first byte that is not the same in two blocks; -1, if there is none.
func unlike(a, b api.Block) int {
	for i := range a {
		if a[i] != b[i] {
			return i
		}
	}
	return -1
}

func same(a, b api.Image) bool { return a.Blocks == b.Blocks && slices.Equal(a.Data, b.Data) }

// holds asks whether a disk holds an image.
func holds(t testing.TB, d *disk.Disk, want api.Image) {
	t.Helper()
	if im := d.Image(); !same(im, want) {
		t.Fatalf("the disk of %d blocks holds something else (%d blocks that are not blank, not %d)", im.Blocks, len(im.Data), len(want.Data))
	}
}
