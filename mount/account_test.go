package mount_test

import (
	"maps"
	"slices"
	"testing"

	"undercroft/api"
	"undercroft/disk"
)

// account is what a disk's image says by the words of the document, read byte by byte.
type account struct {
	t                testing.TB
	blocks           map[int]api.Block // of the image; those that are missing are noughts
	len              int
	all, log, inodes int // of the geometry
	nodes, bits      int // where inodes and bitmap begin
	data             int
	owners           map[int]int // of each data block that an inode has, which one
	owned            map[int]int // of each inode, how many blocks it has
}

// item is an inode that is not free, and the blocks that hold its bytes, by their indices.
type item struct {
	kind, links, size, blocks int
	data                      map[int]api.Block
}

// numbers are the numbers of four bytes that stand in a block from a byte on.
func numbers(b api.Block, from, n int) []int {
	l := make([]int, n)
	for i := range l {
		for k := 3; k >= 0; k-- {
			l[i] = 256*l[i] + int(b[from+4*i+k])
		}
	}
	return l
}

// read begins an account of an image: where the regions lie. The superblock is there.
func read(t testing.TB, im api.Image) *account {
	t.Helper()
	a := &account{t: t, blocks: map[int]api.Block{}, len: im.Blocks, owners: map[int]int{}, owned: map[int]int{}}
	for _, h := range im.Data {
		a.blocks[h.Index] = h.Data
	}
	super := a.blocks[0]
	if string(super[:8]) != "croftfs1" {
		t.Fatal("the image has no superblock")
	}
	n := numbers(super, 8, 3)
	a.all, a.log, a.inodes = n[0], n[1], n[2]
	a.nodes = 1 + a.log
	a.bits = a.nodes + (a.inodes+16)/16
	a.data = a.bits + (a.all+8191)/8192
	return a
}

// targets are the blocks that the log's header names.
func (a *account) targets() []int {
	l := numbers(a.blocks[1], 0, a.log)
	return l[1 : 1+l[0]]
}

// used tells whether a block's bit is 1.
func (a *account) used(at int) bool {
	b := a.blocks[a.bits+at/8192]
	return b[at%8192/8]>>(at%8)&1 == 1
}

// free is how many data blocks have the bit 0.
func (a *account) free() int {
	n := 0
	for at := a.data; at < a.all; at++ {
		if !a.used(at) {
			n++
		}
	}
	return n
}

// place is where an inode stands: a block, and a byte of it.
func (a *account) place(inum int) (int, int) { return a.nodes + inum/16, 64 * (inum % 16) }

// kind is an inode's kind, links its links.
func (a *account) kind(inum int) int {
	at, from := a.place(inum)
	return numbers(a.blocks[at], from, 1)[0] % 65536
}

func (a *account) links(inum int) int {
	at, from := a.place(inum)
	return numbers(a.blocks[at], from, 1)[0] / 65536
}

// spare is how many inodes are free.
func (a *account) spare() int {
	n := 0
	for inum := 1; inum <= a.inodes; inum++ {
		if a.kind(inum) == 0 {
			n++
		}
	}
	return n
}

// orphans are the inodes without names, rising.
func (a *account) orphans() []int {
	var l []int
	for inum := 1; inum <= a.inodes; inum++ {
		if a.kind(inum) != 0 && a.links(inum) == 0 {
			l = append(l, inum)
		}
	}
	return l
}

// own has a data block be an inode's, and nobody else's.
func (a *account) own(inum, at int) api.Block {
	a.t.Helper()
	if at < a.data || at >= a.all || a.owners[at] != 0 {
		a.t.Fatalf("inode %d has the block %d, which the inode %d has", inum, at, a.owners[at])
	}
	a.owners[at] = inum
	a.owned[inum]++
	return a.blocks[at]
}

// below goes down from a number: depth 0 is a block of the file, at the index first; a number of depth n leads to 256^n of them.
func (a *account) below(inum, number, depth, first int, to map[int]api.Block) {
	a.t.Helper()
	if number == 0 {
		return
	}
	b := a.own(inum, number)
	if depth == 0 {
		to[first] = b
		return
	}
	if b == (api.Block{}) {
		a.t.Fatalf("the index block %d of inode %d holds nothing", number, inum)
	}
	each := 1
	for range depth - 1 {
		each *= 256
	}
	for i, n := range numbers(b, 0, 256) {
		a.below(inum, n, depth-1, first+each*i, to)
	}
}

// item is what an inode is, and has: none of its blocks lies behind its size, nor a byte.
func (a *account) item(inum int) item {
	a.t.Helper()
	at, from := a.place(inum)
	n := numbers(a.blocks[at], from, 16)
	it := item{kind: n[0] % 65536, links: n[0] / 65536, size: n[1], blocks: n[2], data: map[int]api.Block{}}
	for i, number := range n[3:13] {
		a.below(inum, number, 0, i, it.data)
	}
	a.below(inum, n[13], 1, 10, it.data)
	a.below(inum, n[14], 2, 266, it.data)
	for index, b := range it.data {
		end := it.size - 1024*index
		if end <= 0 || end < 1024 && [1024]byte(append(make([]byte, end), b[end:]...)) != [1024]byte{} {
			a.t.Fatalf("inode %d, of %d bytes, has some at the index %d", inum, it.size, index)
		}
	}
	if it.blocks != a.owned[inum] {
		a.t.Fatalf("inode %d says that it has %d blocks, not %d", inum, it.blocks, a.owned[inum])
	}
	return it
}

// items are all inodes that are not free: each used data block has one owner, each other one has none, and what is named has as many links as names.
func (a *account) items() map[int]item {
	a.t.Helper()
	all, named := map[int]item{}, map[int]int{}
	for inum := range a.inodes + 1 {
		if a.kind(inum) != 0 {
			all[inum] = a.item(inum)
		}
	}
	for at := range 8192 * (a.data - a.bits) {
		if a.used(at) != (at < a.data || a.owners[at] != 0) {
			a.t.Fatalf("block %d is used: %t; it is the inode %d's", at, a.used(at), a.owners[at])
		}
	}
	for inum, it := range all {
		if it.kind == 2 && it.links > 0 {
			a.count(inum, it, all, named)
		}
	}
	for inum, it := range all {
		if it.links != named[inum] {
			a.t.Fatalf("inode %d has %d links, not %d", inum, it.links, named[inum])
		}
	}
	return all
}

// count counts what a directory's slots name.
func (a *account) count(inum int, dir item, all map[int]item, named map[int]int) {
	a.t.Helper()
	for slot := range dir.size / 16 {
		b := dir.data[slot/64]
		e := b[16*(slot%64) : 16*(slot%64)+16]
		to := int(e[0]) + 256*int(e[1])
		if to == 0 {
			continue
		}
		if _, ok := all[to]; !ok {
			a.t.Fatalf("the slot %d of inode %d names the free inode %d", slot, inum, to)
		}
		named[to]++
	}
}

// look is an account of an image and its items; what its header names is put in place first.
func look(t testing.TB, im api.Image) (*account, map[int]item) {
	t.Helper()
	a := read(t, im)
	was := maps.Clone(a.blocks)
	for i, at := range a.targets() {
		a.blocks[at] = was[2+i]
	}
	return a, a.items()
}

// without is what is left of some items where these are gone.
func without(items map[int]item, gone []int) map[int]item {
	left := maps.Clone(items)
	for _, inum := range gone {
		delete(left, inum)
	}
	return left
}

// likeItems tells whether items are the same, with all their bytes.
func likeItems(a, b map[int]item) bool {
	return maps.EqualFunc(a, b, func(x, y item) bool {
		return x.kind == y.kind && x.links == y.links && x.size == y.size && x.blocks == y.blocks && maps.Equal(x.data, y.data)
	})
}

// outside is what an image has outside the log.
func outside(im api.Image, log int) api.Image {
	return api.Image{Blocks: im.Blocks, Data: slices.DeleteFunc(slices.Clone(im.Data), func(h api.Held) bool { return h.Index >= 1 && h.Index <= log })}
}

func same(a, b api.Image) bool { return a.Blocks == b.Blocks && slices.Equal(a.Data, b.Data) }

// with is an image in which some blocks are others.
func with(im api.Image, others map[int]api.Block) api.Image {
	blocks := map[int]api.Block{}
	for _, h := range im.Data {
		blocks[h.Index] = h.Data
	}
	maps.Copy(blocks, others)
	out := api.Image{Blocks: im.Blocks}
	for _, at := range slices.Sorted(maps.Keys(blocks)) {
		if blocks[at] != (api.Block{}) {
			out.Data = append(out.Data, api.Held{Index: at, Data: blocks[at]})
		}
	}
	return out
}

// filled is a block none of whose bytes is 0: each n up to 254 gives another one.
func filled(n int) api.Block {
	var b api.Block
	for i := range b {
		b[i] = byte(1 + (n+i)%255)
	}
	return b
}

// header is the log's header that names some blocks.
func header(targets ...int) api.Block {
	var b api.Block
	for i, n := range append([]int{len(targets)}, targets...) {
		for k := range 4 {
			b[4*i+k] = byte(n >> (8 * k))
		}
	}
	return b
}

func write(at int, b api.Block) api.Op { return api.Op{Kind: api.OpWrite, At: at, Data: b} }

func barrier() api.Op { return api.Op{Kind: api.OpBarrier} }

func load(t testing.TB, im api.Image) *disk.Disk {
	t.Helper()
	d, err := disk.Load(im)
	if err != api.OK {
		t.Fatalf("Load of %d blocks: %d", im.Blocks, err)
	}
	return d
}

func ok(t testing.TB, errs ...api.Errno) {
	t.Helper()
	for i, err := range errs {
		if err != api.OK {
			t.Fatalf("call %d: %d", i, err)
		}
	}
}

// did asks whether just these things were done to a disk since it had done so many since the power came.
func did(t testing.TB, d *disk.Disk, before int, want []api.Op) {
	t.Helper()
	l := d.History()[before:]
	if len(l) != len(want) {
		t.Fatalf("%d things were done, not %d", len(l), len(want))
	}
	for i := range l {
		if l[i] != want[i] {
			t.Fatalf("thing %d: kind %d, block %d, not kind %d, block %d", i, l[i].Kind, l[i].At, want[i].Kind, want[i].At)
		}
	}
}

// holds asks whether a disk holds an image, and nothing is pending.
func holds(t testing.TB, d *disk.Disk, want api.Image) {
	t.Helper()
	if im := d.Image(); !same(im, want) {
		t.Fatalf("the disk of %d blocks holds something else (%d blocks that are not blank, not %d)", im.Blocks, len(im.Data), len(want.Data))
	}
	if l := d.Pending(); len(l) != 0 {
		t.Fatalf("pending: %v", l)
	}
}
