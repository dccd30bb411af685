package tree_test

import (
	"bytes"
	"slices"
	"testing"

	"undercroft/api"
	"undercroft/shape"
)

// regions are where a file system's regions begin, by the document's words.
type regions struct {
	nodes int
	bits  int
	data  int
	all   int
}

func where(g api.Geometry) regions {
	r := regions{nodes: 1 + g.Log, all: g.Blocks}
	r.bits = r.nodes + (g.Inodes+1+15)/16
	r.data = r.bits + (g.Blocks+8191)/8192
	return r
}

// put lays a number of so many bytes into a list, the lowest byte first.
func put(b []byte, n, v int) {
	for i := range n {
		b[i] = byte(v >> (8 * i))
	}
}

// number is what some bytes say, the lowest first.
func number(b []byte) int {
	n := 0
	for i, v := range b {
		n |= int(v) << (8 * i)
	}
	return n
}

// blocks are the blocks of the inodes, of the bitmap, and all that an item has, as they must stand on the disk.
func (a *account) blocks() map[int]api.Block {
	out := map[int]api.Block{}
	for at := a.r.nodes; at < a.r.data; at++ {
		out[at] = api.Block{}
	}
	for inum, x := range a.items {
		b := out[a.r.nodes+inum/16]
		copy(b[64*(inum%16):], x.node())
		out[a.r.nodes+inum/16] = b
		for k, at := range x.tables {
			out[at] = x.table(k)
		}
		p := x.content()
		for index, at := range x.at {
			var b api.Block
			copy(b[:], p[min(len(p), 1024*index):])
			out[at] = b
		}
	}
	for first := 0; first < len(a.used); first += 8192 {
		var b api.Block
		for i, used := range a.used[first:min(len(a.used), first+8192)] {
			if used {
				b[i/8] |= 1 << (i % 8)
			}
		}
		out[a.r.bits+first/8192] = b
	}
	return out
}

// node is an item as 64 bytes.
func (x *item) node() []byte {
	b := make([]byte, 64)
	put(b, 2, int(x.kind))
	put(b[2:], 2, x.links)
	put(b[4:], 4, x.size())
	put(b[8:], 4, len(x.at)+len(x.tables))
	for i := range 10 {
		put(b[12+4*i:], 4, x.at[i])
	}
	put(b[52:], 4, x.tables[single])
	put(b[56:], 4, x.tables[double])
	return b
}

// table is one of an item's index blocks.
func (x *item) table(k int) api.Block {
	var b api.Block
	for i := range 256 {
		switch k {
		case single:
			put(b[4*i:], 4, x.at[10+i])
		case double:
			put(b[4*i:], 4, x.tables[i])
		default:
			put(b[4*i:], 4, x.at[266+256*k+i])
		}
	}
	return b
}

// content are an item's bytes.
func (x *item) content() []byte {
	if !x.isDir() {
		return x.bytes
	}
	p := make([]byte, 16*len(x.slots))
	for i, e := range x.slots {
		put(p[16*i:], 2, int(e.Inum))
		copy(p[16*i+2:16*i+16], e.Name)
	}
	return p
}

func superblock(t testing.TB, g api.Geometry) api.Block {
	t.Helper()
	layout, err := shape.Of(g)
	b, err2 := shape.Encode(layout)
	ok(t, err, err2)
	return b
}

// image is a disk that holds what the account has, with bytes in all blocks that are free, in those of the log, and in two behind the file system.
func (a *account) image(t testing.TB) api.Image {
	t.Helper()
	blocks := a.blocks()
	blocks[0], blocks[1] = superblock(t, a.g), api.Block{}
	im := api.Image{Blocks: a.g.Blocks + 2}
	for at := range im.Blocks {
		b, there := blocks[at]
		if !there {
			b = mark(at)
		}
		if b != (api.Block{}) {
			im.Data = append(im.Data, api.Held{Index: at, Data: b})
		}
	}
	return im
}

// sight is an image that is looked over by the document's words, as audit will do it.
type sight struct {
	t      testing.TB
	a      *account
	blocks map[int]api.Block
	owner  map[int]int // of each block that an inode has, that inode
}

// look is the account of a sound image whose log names nothing. Whatever is wrong with it ends the test.
func look(t testing.TB, im api.Image, g api.Geometry) *account {
	t.Helper()
	s := &sight{t: t, a: empty(g), blocks: map[int]api.Block{}, owner: map[int]int{}}
	for _, h := range im.Data {
		s.blocks[h.Index] = h.Data
	}
	s.outside(im.Blocks)
	r, items := where(g), map[int]*item{}
	for i := range (r.bits - r.nodes) * 16 {
		b := s.blocks[r.nodes+i/16]
		if x := s.item(i, b[64*(i%16):64*(i%16)+64]); x != nil {
			items[i] = x
		}
	}
	s.a = newAccount(g, items)
	for at, b := range s.a.blocks() { // the bitmap too
		if s.blocks[at] != b {
			s.wrong("bytes that say nothing, or a wrong bit, in block", at)
		}
	}
	s.names()
	return s.a
}

// wrong ends the test.
func (s *sight) wrong(what string, n int) {
	s.t.Helper()
	s.t.Fatalf("the image: %s: %d", what, n)
}

// outside asks for what no call changes, and for the log's header.
func (s *sight) outside(n int) {
	s.t.Helper()
	g, super := s.a.g, s.blocks[0]
	if string(super[:8]) != "croftfs1" || number(super[8:12]) != g.Blocks || number(super[12:16]) != g.Log || number(super[16:20]) != g.Inodes {
		s.wrong("the superblock", 0)
	}
	if head := s.blocks[1]; head != (api.Block{}) {
		s.wrong("the header names blocks", number(head[:4]))
	}
	if n != g.Blocks+2 || s.blocks[g.Blocks] != mark(g.Blocks) || s.blocks[g.Blocks+1] != mark(g.Blocks+1) {
		s.wrong("the blocks behind the file system", n)
	}
}

// own has a block be an inode's.
func (s *sight) own(inum, at int) int {
	if _, there := s.owner[at]; there || at < where(s.a.g).data || at >= s.a.g.Blocks {
		s.wrong("no data block, or one twice", at)
	}
	s.owner[at] = inum
	return at
}

// numbers are those of an index block; none, if there is none.
func (s *sight) numbers(x *item, inum, k, at int) []int {
	if at == 0 {
		return nil
	}
	x.tables[k] = s.own(inum, at)
	b := s.blocks[at]
	if b == (api.Block{}) {
		s.wrong("an index block without numbers", at)
	}
	out := make([]int, 256)
	for i := range out {
		out[i] = number(b[4*i : 4*i+4])
	}
	return out
}

// item is the inode of 64 bytes; nil, if it is free.
func (s *sight) item(inum int, b []byte) *item {
	if [64]byte(b) == ([64]byte{}) {
		return nil
	}
	x := newItem(api.Kind(number(b[:2])), number(b[2:4]))
	size := number(b[4:8])
	if inum == 0 || inum > s.a.g.Inodes || x.kind < 1 || x.kind > 2 || x.links > 1000 || size > biggest || number(b[60:]) != 0 {
		s.wrong("an inode", inum)
	}
	p := make([]byte, size)
	lay := func(index, at int) {
		if at != 0 {
			x.at[index] = s.own(inum, at)
			if index*1024 >= size {
				s.wrong("a block behind the size of inode", inum)
			}
			b := s.blocks[at]
			copy(p[index*1024:], b[:])
		}
	}
	for i := range 10 {
		lay(i, number(b[12+4*i:16+4*i]))
	}
	for i, at := range s.numbers(x, inum, single, number(b[52:56])) {
		lay(10+i, at)
	}
	for k, below := range s.numbers(x, inum, double, number(b[56:60])) {
		for i, at := range s.numbers(x, inum, k, below) {
			lay(266+256*k+i, at)
		}
	}
	if number(b[8:12]) != len(x.at)+len(x.tables) {
		s.wrong("how many blocks inode has", inum)
	}
	if x.isDir() {
		x.slots = s.slots(inum, p)
		return x
	}
	x.bytes = p
	return x
}

// slots are a directory's bytes as its slots.
func (s *sight) slots(inum int, p []byte) []api.Entry {
	if len(p)%16 != 0 {
		s.wrong("a part of a slot in directory", inum)
	}
	var out []api.Entry
	for b := range slices.Chunk(p, 16) {
		out = append(out, api.Entry{Inum: uint16(number(b[:2])), Name: string(bytes.TrimRight(b[2:], "\x00"))})
	}
	return out
}

// names asks whether each inode is named as often as its links say, each directory but the root once, and where its entry .. leads to; and whether all are reached.
func (s *sight) names() {
	links, parents := map[int]int{}, map[int]int{1: 1}
	var down func(inum int)
	down = func(inum int) {
		x := s.a.items[inum]
		links[inum] += 2
		seen := map[string]bool{".": true, "..": true}
		for _, e := range x.slots[2:] {
			if e == (api.Entry{}) {
				continue
			}
			n := int(e.Inum)
			if s.a.items[n] == nil || n == 1 || seen[e.Name] || e.Name == "" {
				s.wrong("a name of no inode, of the root, or twice, in directory", inum)
			}
			seen[e.Name] = true
			if !s.a.items[n].isDir() {
				links[n]++
				continue
			}
			links[inum]++
			if parents[n] != 0 {
				s.wrong("a directory with two names", n)
			}
			parents[n] = inum
			down(n)
		}
	}
	down(1)
	for inum, x := range s.a.items {
		if links[inum] != x.links {
			s.wrong("the links of inode", inum)
		}
		if x.isDir() && x.links > 0 && (x.slots[0] != api.Entry{Inum: uint16(inum), Name: "."} || x.slots[1] != api.Entry{Inum: uint16(parents[inum]), Name: ".."}) {
			s.wrong("the first entries of directory", inum)
		}
		if index := (x.size() - 1) / 1024; x.isDir() && x.size() > 0 && (len(x.at) != index+1 || x.last(0) != index) {
			s.wrong("a hole in directory", inum)
		}
	}
}
