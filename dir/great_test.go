package dir_test

import (
	"strconv"
	"testing"

	"undercroft/api"
	"undercroft/dir"
	"undercroft/disk"
	"undercroft/rack"
	"undercroft/room"
	"undercroft/shape"
	"undercroft/wal"
)

// most is how many slots the greatest directory has.
const most = 67381248 / 16

// name is that of a slot of a great directory.
func name(slot int) string {
	switch slot {
	case 0:
		return "."
	case 1:
		return ".."
	}
	return "s" + strconv.Itoa(slot)
}

// great is a log of a disk with a root and a directory, inode 2, of so many slots, none of them free, and so many free blocks.
func great(t testing.TB, slots, left int) (*disk.Disk, *wal.Log) {
	t.Helper()
	const used = 33 + 1 + 9 + 1 // the regions ahead of the data, and the root's block
	indices := (slots + 63) / 64
	below := (indices - 266 + 255) / 256
	blocks := used + indices + 2 + below + left
	where := layout(t, blocks, 32, 5)
	super, err := shape.Encode(where)
	ok(t, err)
	if where.DataAt != used-1 {
		t.Fatalf("the data begin at %d", where.DataAt)
	}
	im := api.Image{Blocks: blocks}
	add := func(at int, b api.Block) { im.Data = append(im.Data, api.Held{Index: at, Data: b}) }
	add(0, super)
	var nodes api.Block
	n := api.Node{Kind: api.KindDir, Links: 2, Size: uint32(16 * slots), Blocks: uint32(indices + 2 + below), Single: uint32(used + indices), Double: uint32(used + indices + 1)}
	for i := range n.Direct {
		n.Direct[i] = uint32(used + i)
	}
	copy(nodes[64:], laid(api.Node{Kind: api.KindDir, Links: 3, Size: 32, Blocks: 1, Direct: [10]uint32{used - 1}}))
	copy(nodes[128:], laid(n))
	add(where.NodeAt, nodes)
	for i := range where.BitsBlocks {
		var b api.Block
		for bit := range 8192 {
			if 8192*i+bit < blocks-left {
				b[bit/8] |= 1 << (bit % 8)
			}
		}
		add(where.BitsAt+i, b)
	}
	var root api.Block
	copy(root[:], sixteen(e(1, ".")))
	copy(root[16:], sixteen(e(1, "..")))
	add(used-1, root)
	for index := range indices {
		var b api.Block
		for i := range min(64, slots-64*index) {
			copy(b[16*i:], sixteen(e(2+(64*index+i)%60000, name(64*index+i))))
		}
		add(used+index, b)
	}
	// Index blocks: the single one, the double one, those below it.
	numbers := func(first, count int) api.Block {
		var b api.Block
		for i := range min(256, count) {
			put(b[4*i:], uint32(first+i))
		}
		return b
	}
	add(used+indices, numbers(used+10, 256))
	add(used+indices+1, numbers(used+indices+2, below))
	for k := range below {
		add(used+indices+2+k, numbers(used+266+256*k, indices-266-256*k))
	}
	d := load(t, im)
	return d, newLog(t, d, where)
}

// P19.2 to P19.5: a directory of the greatest size: no slot can be added, whatever is free, and those that are there are found, set, freed and taken again.
func TestGreatest(t *testing.T) {
	d, l := great(t, most, 0)
	spots := func(slot, need int, want api.Errno) {
		t.Helper()
		if s, n, err := dir.Spot(l, 2); s != slot || n != need || err != want {
			t.Errorf("Spot: %d, %d, %d, not %d, %d, %d", s, n, err, slot, need, want)
		}
	}
	finds := func(name string, slot, inum int, want api.Errno) {
		t.Helper()
		if s, n, err := dir.Find(l, 2, name); s != slot || n != inum || err != want {
			t.Errorf("Find(%q): %d, %d, %d, not %d, %d, %d", name, s, n, err, slot, inum, want)
		}
	}
	sets := func(slot int, x api.Entry, want api.Errno) {
		t.Helper()
		if err := dir.Set(l, 2, slot, x); err != want {
			t.Errorf("Set(%d, %s): %d, not %d", slot, shown(x), err, want)
		}
	}
	spots(0, 0, api.ErrBig)
	all, err := dir.Slots(l, 2)
	if len(all) != most || err != api.OK {
		t.Fatalf("%d slots, %d", len(all), err)
	}
	for slot, x := range all {
		if x != e(2+slot%60000, name(slot)) {
			t.Fatalf("slot %d is %s", slot, shown(x))
		}
	}
	all = nil
	ok(t, l.Begin(1))
	sets(most, e(2, "a"), api.ErrBig)
	sets(most, free, api.ErrBig)
	sets(most, e(2, ""), api.ErrInval)
	sets(most, e(2, "fifteen letters"), api.ErrName)
	sets(most+1, e(2, "a"), api.ErrArg)
	if l.Used() != 0 {
		t.Errorf("%d blocks have changed", l.Used())
	}
	sets(most-1, e(5, "last"), api.OK)
	finds("last", most-1, 5, api.OK)
	sets(most-1, free, api.OK)
	finds("last", 0, 0, api.ErrNoEnt)
	spots(most-1, 0, api.OK)
	sets(most-1, e(6, "anew"), api.OK)
	ok(t, l.End())
	if is, err := dir.Empty(l, 2); is || err != api.OK {
		t.Errorf("Empty: %t, %d", is, err)
	}
	if l.Used() != 1 || d.Made() != 0 {
		t.Errorf("%d blocks have changed, %d things were done", l.Used(), d.Made())
	}
}

// P19.4, P19.5: the last block of all, which is not mapped yet, and the last slot in it; ErrBig behind that is ahead of ErrNoSpace.
func TestNearlyGreatest(t *testing.T) {
	_, l := great(t, most-64, 1)
	spots := func(slot, need int) {
		t.Helper()
		if s, n, err := dir.Spot(l, 2); s != slot || n != need || err != api.OK {
			t.Fatalf("Spot: %d, %d, %d, not %d, %d", s, n, err, slot, need)
		}
	}
	spots(most-64, 1)
	for slot := most - 64; slot < most; slot++ {
		if slot == most-1 {
			spots(slot, 0)
		}
		ok(t, l.Begin(8), dir.Set(l, 2, slot, e(9, name(slot))), l.End())
	}
	if n, err := rack.Read(l, 2); n.Size != api.MaxFile || err != api.OK {
		t.Fatalf("the size is %d, %d", n.Size, err)
	}
	if n, err := room.Free(l); n != 0 || err != api.OK {
		t.Fatalf("%d are left, %d", n, err)
	}
	ok(t, l.Begin(8))
	if err := dir.Set(l, 2, most, e(9, "more")); err != api.ErrBig {
		t.Fatalf("behind the last slot: %d", err)
	}
}
