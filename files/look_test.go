package files_test

import (
	"testing"

	"undercroft/api"
)

// regions are where a file system's regions begin, by the document's words.
type regions struct {
	nodes int
	bits  int
	data  int
	all   int
}

func where(g api.Geometry) regions {
	r := regions{nodes: 1 + g.Log, all: g.Blocks}
	r.bits = r.nodes + (g.Inodes+1+15)/16
	r.data = r.bits + (g.Blocks+8191)/8192
	return r
}

// number is what some bytes say, the lowest first.
func number(b []byte) int {
	n := 0
	for i, v := range b {
		n |= int(v) << (8 * i)
	}
	return n
}

// sight is an image that is looked over by the document's words, as audit will do it.
type sight struct {
	t      testing.TB
	g      api.Geometry
	r      regions
	blocks map[int]api.Block
	owner  map[int]int // of each block that an inode has, that inode
	things map[int]*thing
}

// look is what the inodes of an image are, whose log names nothing. Whatever is wrong with it ends the test.
func look(t testing.TB, im api.Image, g api.Geometry) map[int]*thing {
	t.Helper()
	s := &sight{t: t, g: g, r: where(g), blocks: map[int]api.Block{}, owner: map[int]int{}, things: map[int]*thing{}}
	for _, h := range im.Data {
		s.blocks[h.Index] = h.Data
	}
	s.outside(im.Blocks)
	for i := range (s.r.bits - s.r.nodes) * 16 {
		b := s.blocks[s.r.nodes+i/16]
		if x := s.thing(i, b[64*(i%16):64*(i%16)+64]); x != nil {
			s.things[i] = x
		}
	}
	s.marks()
	s.names()
	return s.things
}

// wrong ends the test.
func (s *sight) wrong(what string, n int) {
	s.t.Helper()
	s.t.Fatalf("the image: %s: %d", what, n)
}

// outside asks for what no call changes, and for the log's header.
func (s *sight) outside(n int) {
	s.t.Helper()
	super, head := s.blocks[0], s.blocks[1]
	if string(super[:8]) != "croftfs1" || number(super[8:12]) != s.g.Blocks || number(super[12:16]) != s.g.Log || number(super[16:20]) != s.g.Inodes {
		s.wrong("the superblock", 0)
	}
	if head != (api.Block{}) {
		s.wrong("the header names blocks", number(head[:4]))
	}
	if n != s.r.all+2 || s.blocks[s.r.all] != mark(s.r.all) || s.blocks[s.r.all+1] != mark(s.r.all+1) {
		s.wrong("the blocks behind the file system", n)
	}
}

// own has a block be an inode's.
func (s *sight) own(inum, at int) {
	if at < s.r.data || at >= s.r.all {
		s.wrong("no data block", at)
	}
	if _, ok := s.owner[at]; ok {
		s.wrong("a block twice", at)
	}
	s.owner[at] = inum
}

// table are the numbers of an index block; none, if there is no block.
func (s *sight) table(inum, at int) []int {
	if at == 0 {
		return nil
	}
	out := make([]int, 256)
	s.own(inum, at)
	b := s.blocks[at]
	if b == (api.Block{}) {
		s.wrong("an index block without numbers", at)
	}
	for i := range out {
		out[i] = number(b[4*i : 4*i+4])
	}
	return out
}

// thing is the inode of 64 bytes; nil, if it is free.
func (s *sight) thing(inum int, b []byte) *thing {
	if [64]byte(b) == ([64]byte{}) {
		return nil
	}
	x := &thing{kind: api.Kind(number(b[:2])), links: number(b[2:4]), mapped: map[int]bool{}}
	size := number(b[4:8])
	if inum == 0 || inum > s.g.Inodes || x.kind < 1 || x.kind > 2 || x.links > 1000 || size > 67381248 || number(b[60:]) != 0 {
		s.wrong("an inode", inum)
	}
	x.bytes = make([]byte, size)
	for i := range 10 {
		s.block(x, inum, i, number(b[12+4*i:16+4*i]))
	}
	for i, at := range s.table(inum, number(b[52:56])) {
		s.block(x, inum, 10+i, at)
	}
	for k, below := range s.table(inum, number(b[56:60])) {
		for i, at := range s.table(inum, below) {
			s.block(x, inum, 266+256*k+i, at)
		}
	}
	if number(b[8:12]) != cost(x.mapped) {
		s.wrong("how many blocks inode has", inum)
	}
	return x
}

// block has a block be that of an index of a thing.
func (s *sight) block(x *thing, inum, index, at int) {
	if at == 0 {
		return
	}
	s.own(inum, at)
	if index*1024 >= len(x.bytes) {
		s.wrong("a block behind the size of inode", inum)
	}
	b := s.blocks[at]
	n := copy(x.bytes[index*1024:], b[:])
	for _, v := range b[n:] {
		if v != 0 {
			s.wrong("bytes behind the size of inode", inum)
		}
	}
	x.mapped[index] = true
}

// marks asks for the bitmap.
func (s *sight) marks() {
	for i := range (s.r.data - s.r.bits) * 8192 {
		b := s.blocks[s.r.bits+i/8192]
		_, ok := s.owner[i]
		if used := b[i%8192/8]>>(i%8)&1 == 1; used != (i < s.r.data || ok) {
			s.wrong("the bit of block", i)
		}
	}
}

// names asks whether each inode is named as often as its links say.
func (s *sight) names() {
	links := map[int]int{}
	for inum, x := range s.things {
		if x.kind != api.KindDir || x.links == 0 {
			continue
		}
		links[inum] += 2
		for at := 32; at < len(x.bytes); at += 16 {
			n := number(x.bytes[at : at+2])
			if n == 0 {
				continue
			}
			if y := s.things[n]; y == nil {
				s.wrong("a name of no inode", n)
			} else if y.kind == api.KindDir {
				links[inum]++
			} else {
				links[n]++
			}
		}
	}
	for inum, x := range s.things {
		if links[inum] != x.links {
			s.wrong("the links of inode", inum)
		}
	}
}
