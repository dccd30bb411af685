package walk_test

import (
	"fmt"
	"maps"
	"reflect"
	"slices"
	"strings"
	"testing"

	"undercroft/api"
	"undercroft/disk"
	"undercroft/shape"
	"undercroft/wal"
)

// item is an inode that is not free.
type item struct {
	kind  api.Kind
	links int
	slots []api.Entry // of a directory
	size  int         // of a file, all of it a hole
	spoil func(n *api.Node)
}

// tree is what a disk holds, by the document's words: its inodes by their numbers.
type tree struct {
	where api.Layout
	items map[int]*item
}

// e is an entry.
func e(inum int, name string) api.Entry { return api.Entry{Inum: uint16(inum), Name: name} }

// layout is a layout that may be.
func layout(t testing.TB, blocks, log, inodes int) api.Layout {
	t.Helper()
	where, err := shape.Of(api.Geometry{Blocks: blocks, Log: log, Inodes: inodes})
	if err != api.OK {
		t.Fatalf("a layout of %d, %d, %d: %d", blocks, log, inodes, err)
	}
	return where
}

// ten is the layout of the document's ten examples.
func ten(t testing.TB) api.Layout {
	t.Helper()
	return layout(t, 400, 32, 60)
}

// planted is a tree of the root alone.
func planted(where api.Layout) *tree {
	tr := &tree{where: where, items: map[int]*item{}}
	tr.items[1] = &item{kind: api.KindDir, links: 2, slots: []api.Entry{e(1, "."), e(1, "..")}}
	return tr
}

// fresh is the least inode that is free.
func (tr *tree) fresh() int {
	inum := 1
	for tr.items[inum] != nil {
		inum++
	}
	return inum
}

// enter has a directory have an entry more, in the least slot that is free.
func (tr *tree) enter(dir int, x api.Entry) {
	d := tr.items[dir]
	if slot := slices.Index(d.slots, api.Entry{}); slot >= 0 {
		d.slots[slot] = x
		return
	}
	d.slots = append(d.slots, x)
}

// leave has a directory have an entry less.
func (tr *tree) leave(dir int, name string) int {
	d := tr.items[dir]
	slot := slices.IndexFunc(d.slots, func(x api.Entry) bool { return x.Name == name })
	inum := int(d.slots[slot].Inum)
	d.slots[slot] = api.Entry{}
	return inum
}

// mkdir makes a directory in another one.
func (tr *tree) mkdir(dir int, name string) int {
	inum := tr.fresh()
	tr.items[inum] = &item{kind: api.KindDir, links: 2, slots: []api.Entry{e(inum, "."), e(dir, "..")}}
	tr.enter(dir, e(inum, name))
	tr.items[dir].links++
	return inum
}

// mkfile makes a file in a directory.
func (tr *tree) mkfile(dir int, name string) int {
	inum := tr.fresh()
	tr.items[inum] = &item{kind: api.KindFile, links: 1, size: inum}
	tr.enter(dir, e(inum, name))
	return inum
}

// link gives a file one name more.
func (tr *tree) link(inum, dir int, name string) {
	tr.enter(dir, e(inum, name))
	tr.items[inum].links++
}

// unlink takes a name away: what has none any more is an orphan.
func (tr *tree) unlink(dir int, name string) int {
	inum := tr.leave(dir, name)
	x := tr.items[inum]
	x.links--
	if x.kind == api.KindDir {
		x.links = 0
		tr.items[dir].links--
	}
	return inum
}

// move moves a directory.
func (tr *tree) move(from int, name string, to int, other string) {
	inum := tr.leave(from, name)
	tr.enter(to, e(inum, other))
	tr.items[inum].slots[1] = e(to, "..")
	tr.items[from].links--
	tr.items[to].links++
}

// put lays a number of four bytes into a list of bytes, the lowest byte first.
func put(b []byte, v int) {
	b[0], b[1], b[2], b[3] = byte(v), byte(v>>8), byte(v>>16), byte(v>>24)
}

// laid are an inode's 64 bytes.
func laid(n api.Node) []byte {
	b := make([]byte, 64)
	put(b, int(n.Kind)+int(n.Links)<<16)
	put(b[4:], int(n.Size))
	put(b[8:], int(n.Blocks))
	for i, v := range n.Direct {
		put(b[12+4*i:], int(v))
	}
	put(b[52:], int(n.Single))
	put(b[56:], int(n.Double))
	return b
}

// paper are blocks that are being laid out, from the first data block on.
type paper struct {
	where api.Layout
	now   map[int]api.Block
	next  int
}

// take is a data block more.
func (p *paper) take(b api.Block) int {
	at := p.next
	p.next++
	p.now[at] = b
	return at
}

// blocks are a disk's blocks, by what the document says of the layout.
func (tr *tree) blocks(t testing.TB) map[int]api.Block {
	t.Helper()
	super, err := shape.Encode(tr.where)
	if err != api.OK {
		t.Fatalf("the superblock: %d", err)
	}
	p := &paper{tr.where, map[int]api.Block{0: super}, tr.where.DataAt}
	for _, inum := range slices.Sorted(maps.Keys(tr.items)) {
		n := tr.items[inum].lay(t, p)
		b := p.now[tr.where.NodeAt+inum/16]
		copy(b[64*(inum%16):], laid(n))
		p.now[tr.where.NodeAt+inum/16] = b
	}
	if p.next > tr.where.Geometry.Blocks {
		t.Fatalf("the tree wants %d blocks", p.next)
	}
	for at := range p.next {
		b := p.now[tr.where.BitsAt+at/8192]
		b[at%8192/8] |= 1 << (at % 8)
		p.now[tr.where.BitsAt+at/8192] = b
	}
	return p.now
}

// lay lays an item's slots out, and tells the inode.
func (x *item) lay(t testing.TB, p *paper) api.Node {
	n := api.Node{Kind: x.kind, Links: uint16(x.links), Size: uint32(x.size + 16*len(x.slots))}
	var single api.Block
	from := p.next
	for index := range (len(x.slots) + 63) / 64 {
		var b api.Block
		for i, s := range x.slots[64*index : min(len(x.slots), 64*index+64)] {
			b[16*i], b[16*i+1] = byte(s.Inum), byte(s.Inum>>8)
			copy(b[16*i+2:16*i+16], s.Name)
		}
		at := p.take(b)
		switch {
		case index < 10:
			n.Direct[index] = uint32(at)
		case index < 266:
			put(single[4*(index-10):], at)
		default:
			t.Fatalf("a directory of %d slots", len(x.slots))
		}
	}
	if single != (api.Block{}) {
		n.Single = uint32(p.take(single))
	}
	n.Blocks = uint32(p.next - from)
	if x.spoil != nil {
		x.spoil(&n)
	}
	return n
}

// named is chapter 18's error of a name.
func named(name string) api.Errno {
	switch {
	case name == "" || strings.ContainsAny(name, "\x00/"):
		return api.ErrInval
	case len(name) > 14:
		return api.ErrName
	}
	return api.OK
}

// bad is the error of the first name that has one.
func bad(names []string) api.Errno {
	for _, name := range names {
		if err := named(name); err != api.OK {
			return err
		}
	}
	return api.OK
}

// isDir tells whether an inode is a directory.
func (tr *tree) isDir(inum int) bool {
	return tr.items[inum] != nil && tr.items[inum].kind == api.KindDir
}

// search is what one name leads to.
func (tr *tree) search(dir int, name string) (int, api.Errno) {
	if !tr.isDir(dir) {
		return 0, api.ErrNotDir
	}
	for _, x := range tr.items[dir].slots {
		if x.Inum != 0 && x.Name == name {
			return int(x.Inum), api.OK
		}
	}
	return 0, api.ErrNoEnt
}

// from is what names lead to from a directory on: what the last one leads to from what those ahead of it lead to.
func (tr *tree) from(dir int, names []string) (int, api.Errno) {
	if len(names) == 0 {
		return dir, api.OK
	}
	last := len(names) - 1
	inum, err := tr.from(dir, names[:last])
	if err != api.OK {
		return 0, err
	}
	return tr.search(inum, names[last])
}

// find is P21.2.
func (tr *tree) find(names []string) (int, api.Errno) {
	if err := bad(names); err != api.OK {
		return 0, err
	}
	return tr.from(1, names)
}

// parent is P21.3.
func (tr *tree) parent(names []string) (int, string, api.Errno) {
	if len(names) == 0 {
		return 0, "", api.ErrInval
	}
	if err := bad(names); err != api.OK {
		return 0, "", err
	}
	inum, err := tr.from(1, names[:len(names)-1])
	if err == api.OK && !tr.isDir(inum) {
		err = api.ErrNotDir
	}
	if err != api.OK {
		return 0, "", err
	}
	return inum, names[len(names)-1], api.OK
}

// under are a directory and all that stand beneath it, on a sound disk: found on the way down, not up.
func (tr *tree) under(dir int, all map[int]bool) map[int]bool {
	all[dir] = true
	for slot, x := range tr.items[dir].slots {
		if slot > 1 && x.Inum != 0 && tr.isDir(int(x.Inum)) {
			tr.under(int(x.Inum), all)
		}
	}
	return all
}

// beneath is P21.4, of a sound disk.
func (tr *tree) beneath(dir, inum int) (bool, api.Errno) {
	both := []int{dir, inum}
	for _, i := range both {
		if i < 1 || i > tr.where.Geometry.Inodes {
			return false, api.ErrArg
		}
	}
	for _, i := range both {
		if !tr.isDir(i) || tr.items[i].links == 0 {
			return false, api.ErrNotDir
		}
	}
	return tr.under(dir, map[int]bool{})[inum], api.OK
}

// world is a disk, a log of it, and the tree that it holds.
type world struct {
	d  *disk.Disk
	l  *wal.Log
	tr *tree
}

// grown is a disk that holds a tree, and a log of it.
func grown(t testing.TB, tr *tree) *world {
	t.Helper()
	im := api.Image{Blocks: tr.where.Geometry.Blocks}
	now := tr.blocks(t)
	for _, at := range slices.Sorted(maps.Keys(now)) {
		if now[at] != (api.Block{}) {
			im.Data = append(im.Data, api.Held{Index: at, Data: now[at]})
		}
	}
	d, err := disk.Load(im)
	if err != api.OK {
		t.Fatalf("the disk: %d", err)
	}
	l, err := wal.New(d, tr.where)
	if err != api.OK {
		t.Fatalf("the log: %d", err)
	}
	return &world{d, l, tr}
}

// change changes the tree, and in the open step the blocks that are other ones thereby.
func (w *world) change(t testing.TB, do func(tr *tree)) {
	t.Helper()
	do(w.tr)
	now := w.tr.blocks(t)
	for at := range w.tr.where.Geometry.Blocks {
		if at > 0 && at < w.tr.where.NodeAt {
			continue
		}
		if b, err := w.l.Read(at); err != api.OK || b != now[at] {
			ok(t, w.l.Write(at, now[at]))
		}
	}
}

func ok(t testing.TB, errs ...api.Errno) {
	t.Helper()
	for i, err := range errs {
		if err != api.OK {
			t.Fatalf("call %d: %d", i, err)
		}
	}
}

// still is all that may be seen of a disk and a log.
type still struct {
	image   api.Image
	history []api.Op
	pending []int
	stopped bool
	used    int
	open    bool
	commits int
	steps   int
	blocks  map[int]api.Block
}

func (w *world) still() still {
	s := still{w.d.Image(), w.d.History(), w.d.Pending(), w.d.Stopped(), w.l.Used(), w.l.Open(), w.l.Commits(), w.l.Steps(), map[int]api.Block{}}
	for at := range w.l.Layout().Geometry.Blocks {
		if b, err := w.l.Read(at); b != (api.Block{}) && err == api.OK {
			s.blocks[at] = b
		}
	}
	return s
}

// stays asks whether nothing has changed since.
func (w *world) stays(t testing.TB, was still) {
	t.Helper()
	if !reflect.DeepEqual(w.still(), was) {
		t.Fatalf("the disk or the log has changed")
	}
}

// shown is a list of names as a fault tells it.
func shown(names []string) string {
	if len(names) > 12 {
		return fmt.Sprintf("%q and %d more", names[:12], len(names)-12)
	}
	return fmt.Sprintf("%q", names)
}
