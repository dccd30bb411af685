package tree_test

import (
	"slices"
	"strconv"
	"testing"

	"undercroft/api"
)

// P27.2: names go, change and are taken by others while their inodes are held: descriptors stay at what they were opened for.
func TestHeld(t *testing.T) {
	x := newWorld(t, town(t, small()))
	x.fine(t,
		opening("/b", rw), opening("/b", rd), opening("/c", rw), opening("/h", rd), opening("/d/f", rw),
		renaming("/b", "/d/e/b"), reading(0, 100), writing(0, sown(9, 5000)), reading(1, 65536), stating("/d/e/b"),
		opening("/b", nu), writing(5, sown(8, 10)), statingDesc(5), reading(1, 10),
		unlinking("/d/e/b"), statingDesc(0), reading(1, 9), seeking(0, 0, 0), reading(0, 65536), truncating(0, 100), writing(0, sown(7, 20000)), closing(0), reading(1, 10),
		renaming("/a", "/c"), statingDesc(2), stating("/c"), seeking(2, 100000, 0), reading(2, 10), writing(2, sown(1, 100)),
		unlinking("/h"), statingDesc(3), unlinking("/g"), unlinking("/d/f"), statingDesc(4), reading(4, 200), linking("/b", "/g"),
	)
	x.refused(t, api.ErrIsDir, reading(3, 5))
	x.refused(t, api.ErrNoEnt, stating("/h"), stating("/h/."), opening("/h/x", nu), stating("/d/f"))
	x.whole(t)
	free, spare := x.a.free(), x.a.spare()
	x.fine(t, closing(1), closing(2), closing(3), closing(4))
	if x.a.free() < free+25 || x.a.spare() != spare+4 {
		t.Errorf("%d blocks and %d inodes are free, %d and %d ahead of it", x.a.free(), x.a.spare(), free, spare)
	}
	x.whole(t)
	x.again(t)
	x.whole(t)
}

// P27.2: an inode of each sort loses its last name by CallUnlink or by CallRename, while it is held by as many descriptors; behind the last CallClose it is free, its blocks too, and not ahead of that.
func TestLastClose(t *testing.T) {
	for _, path := range []string{"/a", "/b", "/c", "/h", "/d/e/i"} {
		over := "/j/k"
		if path == "/h" {
			over = "/d/e"
		}
		for _, lose := range []api.Call{unlinking(path), renaming(over, path)} {
			for holds := range 4 {
				x := newWorld(t, town(t, small()))
				if over == "/d/e" {
					x.fine(t, unlinking("/d/e/i"))
				}
				free, spare := x.a.free(), x.a.spare()
				for range holds {
					x.fine(t, opening(path, rd))
				}
				x.fine(t, lose)
				for i := range holds {
					if x.a.free() != free || x.a.spare() != spare {
						t.Fatalf("%s: given back ahead of close %d", path, i)
					}
					x.fine(t, statingDesc(holds-1-i), closing(holds-1-i))
				}
				if x.a.spare() != spare+1 || x.a.free() == free && path != "/a" {
					t.Fatalf("%s: not given back", path)
				}
				x.whole(t)
			}
		}
	}
}

// CallOpen: eight inodes are held at most, each by as many descriptors as there are; a file that could not be opened is not made, and orphans count as long as they are held.
func TestMostHeld(t *testing.T) {
	x := newWorld(t, town(t, small()))
	for i := range 8 {
		x.fine(t, opening("/m"+strconv.Itoa(i), nu))
	}
	x.refused(t, api.ErrNfile, opening("/a", rd), opening("/new", nu), opening("/", rd), opening("/d/new", wr|cr|ex))
	x.refused(t, api.ErrNoEnt, opening("/new", rd), stating("/new"))
	x.refused(t, api.ErrIsDir, opening("/d", rw))
	x.refused(t, api.ErrExist, opening("/a", nu|ex), opening("/m0", nu|ex))
	x.fine(t, opening("/m3", rw), unlinking("/m3"), making("/m3"), unlinking("/m5"))
	x.refused(t, api.ErrNfile, opening("/m3", rd), opening("/m5", nu))
	x.fine(t, closing(3))
	x.refused(t, api.ErrNfile, opening("/m3", rd))
	x.fine(t, closing(8), opening("/m3", rd), closing(5), opening("/m5", nu))
	x.refused(t, api.ErrNfile, opening("/a", rd))
	for range 8 {
		x.fine(t, opening("/m0", rd))
	}
	x.refused(t, api.ErrMfile, opening("/m0", rd), opening("/a", rd), opening("/new", nu), opening("/new", rd), opening("/a/x", rd))
	x.refused(t, api.ErrName, opening("/fifteen letters", rd))
	x.refused(t, api.ErrInval, opening("/a", 0), opening("a", rd))
	x.whole(t)
	x.again(t)
	x.whole(t)
}

// CallOpen: every set of flags, of what is there and of what is not: a file with bytes, an empty one, a directory, the root, special paths, a new name, a missing directory.
func TestFlags(t *testing.T) {
	s := newStage(t, town(t, small()))
	for flags := -1; flags < 70; flags++ {
		for _, path := range []string{"/b", "/a", "/d", "/", "/d/.", "/d/..", "/b/.", "/x/..", "/new", "/d/new", "/x/new", "/b/new"} {
			s.try(t, opening(path, flags))
		}
	}
	// One behind the other, without its being undone.
	for round := range 2 {
		x := newWorld(t, town(t, small()))
		for flags := range 32 {
			for _, path := range []string{"/b", "/c", "/new", "/d/new"} {
				if got := x.do(t, opening(path, flags)); got.Err == api.OK {
					x.do(t, writing(got.Value, sown(flags, 3000)))
					if flags%3 == round {
						x.fine(t, unlinking(path))
					}
					x.fine(t, closing(got.Value))
				}
			}
		}
		x.whole(t)
	}
}

// P27.4: Unmount with descriptors open: each is closed, the least one first, so that the orphans among them are given back in that order; behind it the disk is opened without a write, with what had names.
func TestUnmount(t *testing.T) {
	for _, order := range [][]string{{"/b", "/c", "/d/e/i", "/h"}, {"/h", "/c", "/b", "/d/e/i"}, {"/d/e/i", "/h", "/c", "/b"}} {
		for bits := range 16 {
			x := newWorld(t, town(t, small()))
			for range 2 {
				for _, path := range order {
					x.fine(t, opening(path, rd))
				}
			}
			x.fine(t, opening("/a", rw), writing(8, sown(bits, 30000)))
			for i, path := range order {
				if bits>>i&1 == 1 {
					x.fine(t, unlinking(path))
				}
			}
			if bits%4 == 3 {
				x.fine(t, syncing())
			}
			x.fine(t, closing(2))
			x.unmounts(t)
			x.committed(t)
			if len(x.d.Pending()) > 0 {
				t.Fatal("something is pending")
			}
			want := x.a.again()
			if got := look(t, x.d.Image(), small()); !likeItems(got.items, want.items) {
				t.Fatal("the disk holds something else")
			}
			x.open(t, want)
			if x.base.made != x.d.Made() || x.base.steps+x.base.commits > 0 {
				t.Fatal("opening it did something")
			}
			x.all(t, statingDesc(0), stating("/b"), stating("/h"), listing("/"))
			x.whole(t)
		}
	}
}

// P27.4: each of the sixteen descriptors is closed: what one of them alone holds is given back too.
func TestUnmountEach(t *testing.T) {
	for alone := range 16 {
		x := newWorld(t, town(t, small()))
		for desc := range 16 {
			path := "/b"
			if desc == alone {
				path = "/c"
			}
			x.fine(t, opening(path, rd))
		}
		x.fine(t, unlinking("/c"))
		x.unmounts(t)
		x.committed(t)
		want := x.a.again()
		if got := look(t, x.d.Image(), small()); !likeItems(got.items, want.items) {
			t.Fatalf("%d: the disk holds something else", alone)
		}
		x.open(t, want)
		if x.base.made != x.d.Made() {
			t.Fatalf("%d: opening it did something", alone)
		}
	}
}

// P27.4: the least descriptor is closed first: as the orphans have so many blocks that their giving back fills several groups, each commit tells whose were given back ahead of it.
func TestUnmountOrder(t *testing.T) {
	for _, order := range [][]string{{"/m", "/n", "/o"}, {"/o", "/n", "/m"}, {"/n", "/m", "/o"}} {
		x := newWorld(t, empty(small()))
		for _, path := range []string{"/m", "/n", "/o"} {
			x.fine(t, opening(path, nu))
			for table := range 10 {
				for _, index := range []int{266 + 256*table, 280 + 256*table} { // two groups
					x.fine(t, seeking(0, 1024*index, 0), writing(0, []byte{1}))
				}
			}
			x.fine(t, closing(0))
		}
		for _, path := range order {
			x.fine(t, opening(path, rd), unlinking(path))
		}
		x.fine(t, syncing())
		groups := len(x.a.groups)
		x.unmounts(t)
		x.committed(t)
		if len(x.a.groups) < groups+3 {
			t.Fatalf("%d commits", len(x.a.groups)-groups)
		}
	}
}

// P27.4, P7: what is unmounted without a change is opened without a write, again and again, with nothing changed.
func TestUnmountUnchanged(t *testing.T) {
	x := newWorld(t, town(t, snug()))
	im := x.d.Image()
	for i := range 5 {
		x.all(t, opening("/b", rw), opening("/d", rd), reading(0, 3000), seeking(0, 10, 0), writing(0, nil), truncating(0, 3000), stating("/x"), listing("/d"), renaming("/g", "/d/f"), linking("/d", "/x"), syncing())
		if i%2 == 0 {
			x.fine(t, closing(0))
		}
		x.again(t)
	}
	if x.d.Made() != 0 || !slices.Equal(x.d.Image().Data, im.Data) {
		t.Errorf("%d things were done", x.d.Made())
	}
}

// Slots: the least free one is taken, whatever call takes it, and a new one at the end only where none is free; Size says how many there are, and no slot goes.
func TestSlots(t *testing.T) {
	x := newWorld(t, empty(wide()))
	for i := range 70 { // two blocks
		if i%10 == 0 {
			x.fine(t, making("/s"+strconv.Itoa(i)))
			continue
		}
		x.fine(t, opening("/s"+strconv.Itoa(i), nu), closing(0))
	}
	for _, i := range []int{69, 3, 33, 62, 12, 1} {
		x.fine(t, unlinking("/s"+strconv.Itoa(i)))
	}
	size := x.a.items[1].size()
	x.fine(t, making("/n1"), linking("/s2", "/n2"), opening("/n3", nu), renaming("/s4", "/n4"), renaming("/n1", "/s4"), making("/n1"))
	if x.a.items[1].size() != size {
		t.Error("it has another size")
	}
	for i := range 9 {
		x.fine(t, linking("/n2", "/o"+strconv.Itoa(i)), renaming("/o"+strconv.Itoa(i), "/p"+strconv.Itoa(i)))
		x.stands(t)
	}
	x.fine(t, listing("/"), stating("/"))
	x.whole(t)
	x.again(t)
	x.whole(t)
}

// CallRename of directories in a tree of several depths, from each to each: what moves keeps what stands in it, its .. leads to where it is, and nothing comes to stand in itself.
func TestRenameTrees(t *testing.T) {
	var paths, names []string
	for _, path := range []string{"/p", "/p/q", "/p/q/r", "/p/q/r/s", "/p/v", "/w", "/w/y", "/w/y/z", "/u"} {
		paths = append(paths, path)
		names = append(names, path, path+"/new")
	}
	var calls []api.Call
	for i, path := range paths {
		calls = append(calls, making(path))
		if i%2 == 0 {
			calls = append(calls, opening(path+"/file", nu), writing(0, sown(i, 2000)), closing(0))
		}
	}
	s := newStage(t, built(t, empty(small()), calls...))
	for _, path := range paths {
		for _, other := range names {
			if got := s.try(t, renaming(path, other)); got.Err == api.OK {
				continue
			}
			s.try(t, renaming(path+"/../../"+path, "/w/../"+other))
		}
	}
	s.found(t, api.CallRename, api.OK, api.ErrInval, api.ErrNotEmpty)
	// One behind the other: the tree goes round.
	x := s.x
	x.fine(t, renaming("/p", "/w/y/z/p"), stating("/w/y/z/p/q/.."), stating("/w/y/z/p/.."), renaming("/w/y/z/p/q", "/q"), renaming("/w", "/q/r/s/w"), stating("/q/r/s/w/y/z/p/v/../../../../../../../.."), listing("/q/r/s/w"))
	x.refused(t, api.ErrInval, renaming("/q", "/q/r/s/w/y/z/p/v/q"), renaming("/q/r", "/q/r/s/w/new"))
	x.refused(t, api.ErrNotEmpty, renaming("/u", "/q/r"))
	x.fine(t, renaming("/q/r/s/w/y/z/p/v", "/v"), unlinking("/q/r/s/w/y/z/p/file"), unlinking("/q/r/s/w/y/z/p"))
	x.whole(t)
}
