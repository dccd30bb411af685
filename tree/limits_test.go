package tree_test

import (
	"strconv"
	"testing"

	"undercroft/api"
	"undercroft/tree"
)

// crowded is an account with /p, a directory of 1,000 links, 998 directories in it, and /f, a file of 1,000 names, most of them in /q; /p has no slot that is free, but a last block with room. /d is a directory with a directory e and a file f in it, /g a file.
func crowded(t testing.TB, inodes int) *account {
	t.Helper()
	calls := []api.Call{making("/p"), making("/q"), opening("/f", nu), closing(0), opening("/g", nu), closing(0), making("/d"), making("/d/e"), opening("/d/f", nu), closing(0)}
	for i := range 998 {
		calls = append(calls, making("/p/"+strconv.Itoa(i)))
	}
	for i := range 999 {
		calls = append(calls, linking("/f", "/q/"+strconv.Itoa(i)))
	}
	return built(t, empty(api.Geometry{Blocks: 1200, Log: 32, Inodes: inodes}), calls...)
}

// CallMkdir: a directory has 1,000 links at most; that is asked behind ErrExist and ahead of ErrNoSpace.
func TestMkdirLinks(t *testing.T) {
	x := newWorld(t, crowded(t, 1010))
	x.refused(t, api.ErrLinks, making("/p/new"), making("/p/5/../new"))
	x.refused(t, api.ErrExist, making("/p/5"), making("/p/."), making("/p/997/."))
	x.fine(t, making("/p/5/new"), opening("/p/file", nu), linking("/g", "/p/g"), stating("/p"))
	x.fine(t, unlinking("/p/7"), making("/p/new"))
	x.refused(t, api.ErrLinks, making("/p/7"))
	if got := x.do(t, stating("/p")).Stat; got.Links != 1000 || got.Size != 16*1002 {
		t.Errorf("%+v", got)
	}
	x.whole(t)
	y := newWorld(t, leavesNodes(t, crowded(t, 1010)))
	y.refused(t, api.ErrLinks, making("/p/new"))
	y.refused(t, api.ErrNoSpace, making("/q/new"), making("/p/5/new"))
}

// CallLink: a file has 1,000 links at most; that is asked behind ErrExist and ahead of ErrNoSpace.
func TestLinkLinks(t *testing.T) {
	x := newWorld(t, crowded(t, 1010))
	x.refused(t, api.ErrLinks, linking("/f", "/new"), linking("/q/5", "/q/new"), linking("/q/998", "/p/5/new"))
	x.refused(t, api.ErrExist, linking("/f", "/g"), linking("/f", "/f"), linking("/q/5", "/q/6"), linking("/f", "/p/5/."))
	x.refused(t, api.ErrNotDir, linking("/f", "/g/new"))
	x.fine(t, renaming("/q/5", "/new"), renaming("/q/6", "/q/7"), stating("/q/7"))
	x.refused(t, api.ErrLinks, linking("/f", "/x"))
	x.fine(t, renaming("/g", "/q/8"), stating("/f"), linking("/f", "/x"))
	x.refused(t, api.ErrLinks, linking("/x", "/y"))
	x.fine(t, unlinking("/f"), linking("/x", "/y"))
	x.refused(t, api.ErrLinks, linking("/x", "/f"))
	x.whole(t)
}

// CallRename: a directory comes to a parent of 1,000 links only over another one; files do, and what moves within that parent or out of it.
func TestRenameLinks(t *testing.T) {
	x := newWorld(t, crowded(t, 1010))
	x.refused(t, api.ErrLinks, renaming("/d", "/p/new"), renaming("/d/e", "/p/new"), renaming("/p/5/../../d/e", "/p/5/../new"))
	x.refused(t, api.ErrNotEmpty, renaming("/d/e", "/q"), renaming("/d/e", "/p"))
	x.refused(t, api.ErrInval, renaming("/p", "/p/new"))
	x.fine(t, renaming("/d/e", "/p/5"), stating("/p"), stating("/p/5/.."), stating("/d"), renaming("/d", "/p/6"), stating("/"), stating("/p"))
	x.refused(t, api.ErrLinks, renaming("/q", "/p/new"))
	x.fine(t, renaming("/p/8", "/p/new"), renaming("/p/9", "/p/10"), stating("/p"), renaming("/q", "/p/8"), stating("/p"))
	x.refused(t, api.ErrLinks, making("/p/x"))
	x.fine(t, renaming("/p/6/f", "/p/f"), renaming("/g", "/p/g"), renaming("/p/11", "/out"), stating("/p"), renaming("/out", "/p/in"), stating("/p"))
	x.refused(t, api.ErrLinks, making("/p/x"))
	x.whole(t)
	// Its slots are all taken too, and there is no block: ErrLinks is ahead of ErrNoSpace.
	a := crowded(t, 1010)
	for i := range 24 {
		built(t, a, linking("/g", "/p/g"+strconv.Itoa(i)))
	}
	for i := 0; a.free() > 0; i++ {
		if got := a.do(opening("/filler", nu)); got.Err != api.OK {
			t.Fatalf("%+v", got)
		}
		a.do(seeking(0, 0, 2))
		a.do(writing(0, sown(i, 1024)))
		a.do(closing(0))
	}
	if x := a.items[2]; x.size() != 16*1024 {
		t.Fatalf("/p has %d bytes", x.size())
	}
	y := newWorld(t, a)
	y.refused(t, api.ErrLinks, renaming("/d", "/p/new"), making("/p/new"))
	y.refused(t, api.ErrNoSpace, renaming("/g", "/p/new"), renaming("/p/5", "/p/new"), opening("/p/new", nu), linking("/g", "/p/new"), making("/new"))
	y.fine(t, renaming("/d/e", "/p/5"), renaming("/g", "/p/g3"), renaming("/p/7", "/new"), renaming("/new", "/p/new"))
	y.refused(t, api.ErrLinks, renaming("/d", "/p/newer"))
	y.whole(t)
}

// slotsMost is how many slots the greatest directory has.
const slotsMost = biggest / 16

// greatest is the image of a disk, no block or inode of which is free, with /great (2), a directory of the greatest size, no slot of which is free, 998 directories in it (from 3 on, named d3 and so on), and files with up to 1,000 names in it (from 1001 on, named s1000 and so on); /f is the last inode.
func greatest(t testing.TB) (api.Image, api.Geometry) {
	t.Helper()
	files := (slotsMost-1000+999)/1000 + 1 // and /f
	g := api.Geometry{Log: 32, Inodes: 1000 + files}
	indices := slotsMost / 64
	tables := 2 + (indices-266)/256
	ahead := 1 + 32 + (g.Inodes+16)/16
	g.Blocks = ahead + 9 + 1 + 998 + indices + tables
	r := where(g)
	if r.data != ahead+9 {
		t.Fatalf("the data begin at %d", r.data)
	}
	a := empty(g)
	a.items[1].slots = append(a.items[1].slots, api.Entry{Inum: 2, Name: "great"}, api.Entry{Inum: uint16(g.Inodes), Name: "f"})
	a.items[1].links = 3
	next := r.data + 1
	for inum := 3; inum < 1001; inum++ {
		x := newItem(api.KindDir, 2)
		x.slots = []api.Entry{{Inum: uint16(inum), Name: "."}, {Inum: 2, Name: ".."}}
		x.at[0] = next
		a.items[inum], next = x, next+1
	}
	for inum := 1001; inum <= g.Inodes; inum++ {
		a.items[inum] = newItem(api.KindFile, 0)
	}
	a.items[g.Inodes].links = 1
	great := newItem(api.KindDir, 1000)
	for i := range indices {
		great.at[i] = next + i
	}
	for i := range tables {
		great.tables[i-2] = next + indices + i
	}
	for at := range a.used {
		a.used[at] = true
	}
	a.items[2] = great
	blocks := a.blocks()
	node := great.node()
	put(node[4:], 4, biggest)
	b := blocks[r.nodes]
	copy(b[128:], node)
	blocks[r.nodes] = b
	for i := range indices {
		var b api.Block
		for k := range 64 {
			e := entryOf(64*i + k)
			put(b[16*k:], 2, int(e.Inum))
			copy(b[16*k+2:16*k+16], e.Name)
			if int(e.Inum) > 1000 {
				a.items[int(e.Inum)].links++
			}
		}
		blocks[great.at[i]] = b
	}
	for inum := 1001; inum <= g.Inodes; inum++ {
		b := blocks[r.nodes+inum/16]
		copy(b[64*(inum%16):], a.items[inum].node())
		blocks[r.nodes+inum/16] = b
	}
	im := api.Image{Blocks: g.Blocks}
	im.Data = append(im.Data, api.Held{Index: 0, Data: superblock(t, g)})
	for at := r.nodes; at < g.Blocks; at++ {
		im.Data = append(im.Data, api.Held{Index: at, Data: blocks[at]})
	}
	return im, g
}

// entryOf is the entry of a slot of /great.
func entryOf(slot int) api.Entry {
	switch {
	case slot == 0:
		return api.Entry{Inum: 2, Name: "."}
	case slot == 1:
		return api.Entry{Inum: 1, Name: ".."}
	case slot < 1000:
		return api.Entry{Inum: uint16(slot + 1), Name: "d" + strconv.Itoa(slot+1)}
	}
	return api.Entry{Inum: uint16(1001 + (slot-1000)/1000), Name: "s" + strconv.Itoa(slot)}
}

// ErrBig: a directory of the greatest size without a free slot; behind ErrNfile, ErrExist and ErrLinks, ahead of ErrNoSpace.
func TestGreatest(t *testing.T) {
	t.Parallel()
	im, g := greatest(t)
	d := load(t, im)
	im = api.Image{}
	s, err := tree.Open(d)
	ok(t, err)
	frees(t, s, 0, 0)
	blocks := slotsMost/64 + 2 + (slotsMost/64-266)/256
	for i := 1; i < 9; i++ {
		answers(t, s, answer{opening("/great/s"+strconv.Itoa(1000*i), rw), value(i - 1)})
	}
	answers(t, s,
		answer{stating("/great"), stat(2, api.KindDir, 1000, biggest, blocks)},
		answer{opening("/great/new", nu), wrong(api.ErrNfile)}, answer{closing(7), done}, answer{opening("/great/new", nu), wrong(api.ErrBig)},
		answer{opening("/new", nu), wrong(api.ErrNoSpace)}, answer{opening("/great/s1000", nu|ex), wrong(api.ErrExist)},
		answer{making("/great/new"), wrong(api.ErrLinks)}, answer{making("/great/s1000"), wrong(api.ErrExist)},
		answer{linking("/f", "/great/new"), wrong(api.ErrBig)}, answer{linking("/great/s1000", "/great/new"), wrong(api.ErrLinks)}, answer{linking("/f", "/great/s1000"), wrong(api.ErrExist)},
		answer{renaming("/great/d3", "/great/new"), wrong(api.ErrBig)}, answer{renaming("/great/s1000", "/great/s1001"), done},
		answer{unlinking("/great"), wrong(api.ErrNotEmpty)},
	)
	if d.Made() != 0 || s.Volume().Log().Used() != 0 || s.Volume().Log().Steps() != 0 {
		t.Error("what was refused has done something")
	}
	answers(t, s,
		answer{renaming("/great/d3", "/d3"), done}, answer{linking("/f", "/great/full"), done}, answer{stating("/great"), stat(2, api.KindDir, 999, biggest, blocks)},
		answer{making("/great/new"), wrong(api.ErrBig)}, answer{renaming("/d3", "/great/d3"), wrong(api.ErrBig)}, answer{renaming("/f", "/great/full"), done}, answer{renaming("/f", "/great/s4000"), done},
		answer{stating("/great/s4000"), stat(g.Inodes, api.KindFile, 2, 0, 0)}, answer{renaming("/d3", "/great/d4"), done}, answer{stating("/great"), stat(2, api.KindDir, 999, biggest, blocks)},
		answer{unlinking("/great/s4000"), done}, answer{making("/great/new"), done},
	)
	frees(t, s, 0, 0)
}
