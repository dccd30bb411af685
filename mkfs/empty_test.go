package mkfs_test

import (
	"slices"
	"testing"

	"undercroft/api"
	"undercroft/dir"
	"undercroft/disk"
	"undercroft/head"
	"undercroft/node"
	"undercroft/orphan"
	"undercroft/rack"
	"undercroft/room"
	"undercroft/shape"
	"undercroft/wal"
	"undercroft/walk"
)

func layout(t testing.TB, g api.Geometry) api.Layout {
	t.Helper()
	where, err := shape.Of(g)
	ok(t, err)
	return where
}

// opened is a log of a disk on which a file system was made: found by the superblock, nothing being there to recover, and nothing being written.
func opened(t testing.TB, d *disk.Disk, g api.Geometry) *wal.Log {
	t.Helper()
	super(t, d, g, api.OK)
	where := layout(t, g)
	if b, err := d.Read(where.LogAt); err != api.OK {
		t.Fatal(err)
	} else if h, err := head.Decode(where, b); len(h.Targets) != 0 || err != api.OK {
		t.Fatalf("the header: %v, %d", h.Targets, err)
	}
	before := d.Made()
	if n, err := wal.Recover(d, where); n != 0 || err != api.OK {
		t.Fatalf("Recover: %d, %d", n, err)
	}
	l, err := wal.New(d, where)
	ok(t, err)
	if n, err := orphan.All(l); n != 0 || err != api.OK || d.Made() != before {
		t.Fatalf("All: %d, %d; %d things were done", n, err, d.Made()-before)
	}
	return l
}

// empty asks whether what a log's disk holds is the empty file system, as the layers that are there read it: the root alone, with its two entries; all blocks but those ahead of it and its own are free, all inodes but it.
func empty(t testing.TB, l *wal.Log, g api.Geometry) {
	t.Helper()
	a, where := of(g), layout(t, g)
	want := api.Node{Kind: api.KindDir, Links: 2, Size: 32, Blocks: 1, Direct: [api.Direct]uint32{uint32(a.data)}}
	n, err := rack.Read(l, api.Root)
	if n != want || err != api.OK || node.Check(where, n) != api.OK {
		t.Fatalf("the root is %+v, %d; may it be: %d", n, err, node.Check(where, n))
	}
	spare, err := rack.Spare(l)
	if spare != g.Inodes-1 || err != api.OK {
		t.Fatalf("Spare: %d, %d", spare, err)
	}
	free, err := room.Free(l)
	if free != g.Blocks-a.data-1 || err != api.OK {
		t.Fatalf("Free: %d, %d", free, err)
	}
	for at := a.data; at < min(g.Blocks, a.data+100); at++ {
		if used, err := room.Used(l, at); used != (at == a.data) || err != api.OK {
			t.Fatalf("block %d is used: %t, %d", at, used, err)
		}
	}
	slots, err := dir.Slots(l, api.Root)
	if !slices.Equal(slots, []api.Entry{{Inum: 1, Name: "."}, {Inum: 1, Name: ".."}}) || err != api.OK {
		t.Fatalf("the root's slots: %v, %d", slots, err)
	}
	for _, names := range [][]string{nil, {"."}, {".."}, {"..", ".", ".."}} {
		if inum, err := walk.Find(l, names); inum != 1 || err != api.OK {
			t.Fatalf("Find of %q: %d, %d", names, inum, err)
		}
	}
}

// P23.2: behind Make that is OK there is the empty file system, of each geometry, whatever the disk held.
func TestEmpty(t *testing.T) {
	for _, g := range some() {
		blocks := min(g.Blocks+3, api.MaxBlocks)
		held := []api.Image{blank(blocks)}
		if blocks < 20000 {
			held = append(held, full(blocks))
		}
		for _, im := range held {
			d := load(t, im)
			makes(t, d, g, api.OK)
			ok(t, d.Crash(nil))
			empty(t, opened(t, d, g), g)
		}
	}
}

// Chapter 23, example 1.
func TestExampleFree(t *testing.T) {
	d := load(t, blank(400))
	makes(t, d, small(), api.OK)
	l := opened(t, d, small())
	free, err := room.Free(l)
	spare, err2 := rack.Spare(l)
	ok(t, err, err2)
	if free != 361 || spare != 59 {
		t.Errorf("Free %d, Spare %d", free, spare)
	}
}

// Every byte of the image by itself: each bit of the bitmap, those behind the last block too, and each inode's place, that of inode 0 and those behind the last one too.
func TestImage(t *testing.T) {
	for _, g := range some() {
		if g.Blocks > 20000 {
			continue
		}
		d, a := load(t, full(g.Blocks)), of(g)
		makes(t, d, g, api.OK)
		bits, inodes := joined(t, d, a.bits, a.bitsN), joined(t, d, a.nodes, a.nodeBlocks)
		for at := range 8 * len(bits) {
			if used := bits[at/8]>>(at%8)&1 == 1; used != (at <= a.data) {
				t.Fatalf("%+v: the bit of block %d is 1: %t", g, at, used)
			}
		}
		for inum := range len(inodes) / 64 {
			n := node.Decode(node.Bytes(inodes[64*inum : 64*inum+64]))
			if (n == api.Node{}) == (inum == 1) || node.Encode(n) != node.Bytes(inodes[64*inum:64*inum+64]) {
				t.Fatalf("%+v: inode %d is %+v", g, inum, n)
			}
		}
	}
}

// joined are the bytes of n blocks from at on.
func joined(t testing.TB, d *disk.Disk, at, n int) []byte {
	t.Helper()
	var p []byte
	for i := range n {
		b, err := d.Read(at + i)
		ok(t, err)
		p = append(p, b[:]...)
	}
	return p
}

// grown makes, in a step, a file of one block and its entry in the root: the least that is free is taken each time.
func grown(t testing.TB, l *wal.Log, name string, inum, at int) {
	t.Helper()
	slot, need, err := dir.Spot(l, api.Root)
	if need != 0 {
		t.Fatalf("Spot: %d, %d, %d", slot, need, err)
	}
	ok(t, err, l.Begin(api.StepCreate))
	got, err := room.Take(l)
	if got != at || err != api.OK {
		t.Fatalf("the block that is taken: %d, %d", got, err)
	}
	n, err := rack.Take(l, api.Node{Kind: api.KindFile, Links: 1, Size: 1, Blocks: 1, Direct: [api.Direct]uint32{uint32(at)}})
	if n != inum || err != api.OK {
		t.Fatalf("the inode that is taken: %d, %d", n, err)
	}
	ok(t, dir.Set(l, api.Root, slot, api.Entry{Inum: uint16(inum), Name: name}), l.End())
}

// What is done on it goes on from there: the blocks and inodes that are taken first are those behind the root's; and a Make on that disk has all of it be gone.
func TestGoesOn(t *testing.T) {
	for _, g := range []api.Geometry{small(), {Blocks: 300, Log: 36, Inodes: 15}, {Blocks: 300, Log: 37, Inodes: 15}, {Blocks: 8193, Log: 32, Inodes: 60}, {Blocks: 16385, Log: 256, Inodes: 65535}} {
		a := of(g)
		d := load(t, full(g.Blocks))
		makes(t, d, g, api.OK)
		l := opened(t, d, g)
		grown(t, l, "a", 2, a.data+1)
		grown(t, l, "b", 3, a.data+2)
		ok(t, l.Close(), d.Crash(nil))
		l, err := wal.New(d, layout(t, g))
		ok(t, err)
		if inum, err := walk.Find(l, []string{"..", "b"}); inum != 3 || err != api.OK {
			t.Errorf("Find: %d, %d", inum, err)
		}
		makes(t, d, g, api.OK)
		ok(t, d.Crash(nil))
		empty(t, opened(t, d, g), g)
	}
}
