package files_test

import (
	"math/rand"
	"testing"

	"undercroft/api"
	"undercroft/rack"
	"undercroft/room"
)

// free asks how many data blocks and inodes are free.
func (x *world) free(t testing.TB) (int, int) {
	t.Helper()
	n, err := room.Free(x.v.Log())
	k, err2 := rack.Spare(x.v.Log())
	ok(t, err, err2)
	return n, k
}

// P26.3: an inode that is opened so often and closed as often, in each order, is held as often as ahead of it.
func TestHolds(t *testing.T) {
	x := newWorld(t, village(t, small()), small())
	for _, ahead := range []int{0, 1, 3} { // holds of the other files
		for _, order := range permuted(4) {
			for range ahead {
				x.answers(t, 1, opening(3, rd))
			}
			for i := range order {
				x.answers(t, 0, opening(3, ways[i]))
				if n := x.v.Desk().Holds(3); n != ahead+i+1 {
					t.Fatalf("%d holds, not %d", n, ahead+i+1)
				}
			}
			before := x.spent()
			for i, desc := range order {
				x.do(t, 0, closing(desc))
				if n := x.v.Desk().Holds(3); n != ahead+3-i {
					t.Fatalf("%d holds, not %d", n, ahead+3-i)
				}
			}
			for i := range ahead {
				x.answers(t, 1, closing(i))
			}
			if x.spent() != before || x.v.Desk().Len() != 0 {
				t.Fatal("closing a file that has a name did something")
			}
		}
	}
}

// Close: a descriptor that is closed is free, and no other one; what is closed twice is ErrBad.
func TestCloseTwice(t *testing.T) {
	x := newWorld(t, village(t, small()), small())
	for range 3 {
		x.all(t, opening(2, rw), opening(2, rd), opening(5, rd), opening(7, wr))
		x.all(t, closing(1), closing(1), reading(1, 1), closing(3), closing(3), closing(0), stating(0), closing(2), closing(2), closing(4), closing(-1), closing(16))
	}
}

// lostBlocks are how a file may lie: indices that are mapped, and how many blocks that costs.
var lostBlocks = [][]int{nil, {0}, {3, 4, 5}, {0, 8, 16}, {9, 10}, {10}, {0, 97}, {265, 266}, {266}, {521, 522}, {0, 9, 10, 265, 266, 777, 65801}, {0, 1, 2, 3, 4, 5, 6, 7, 8, 9, 10, 11, 12, 13, 14, 15, 16, 17, 18, 19, 20}}

// P26.3: behind its last Close an orphan is free, its blocks too; ahead of that it stays, whoever closes: one Files, or two of one volume. One that has another name stays for good.
func TestOrphans(t *testing.T) {
	im := village(t, small())
	for i, indices := range lostBlocks {
		for _, whose := range [][]int{{0}, {0, 0}, {0, 1}, {1, 0}, {0, 0, 1, 1, 0}, {1, 1, 1, 0, 0, 0, 1}} {
			x := newWorld(t, im, small())
			x.do(t, 0, opening(2, rw))
			for _, index := range indices {
				x.all(t, seeking(0, 1024*index+500, 0), writing(0, []byte{byte(1 + index%255)}))
			}
			x.do(t, 0, closing(0))
			for _, who := range whose {
				x.do(t, who, opening(2, rw))
			}
			blocks, inodes := x.free(t)
			x.do(t, 0, unlinking(nameOf(2)))
			if i%2 == 0 {
				x.whole(t)
			}
			next := [2]int{}
			for k, who := range whose {
				if n, e := x.free(t); n != blocks || e != inodes {
					t.Fatalf("ahead of closing %d: %d blocks and %d inodes are free, not %d and %d", k, n, e, blocks, inodes)
				}
				x.do(t, who, stating(next[who]))
				x.do(t, who, closing(next[who]))
				next[who]++
			}
			mapped := map[int]bool{}
			for _, index := range indices {
				mapped[index] = true
			}
			if n, e := x.free(t); n != blocks+cost(mapped) || e != inodes+1 {
				t.Fatalf("%v: %d blocks and %d inodes are free, not %d and %d", indices, n, e, blocks+cost(mapped), inodes+1)
			}
			if n, err := rack.Read(x.v.Log(), 2); n != (api.Node{}) || err != api.OK {
				t.Fatalf("the inode is %v", n)
			}
			x.all(t, opening(2, rd), opening(2, wr|tr))
			x.whole(t)
		}
	}
}

// Close: an orphan goes on as any other file as long as it is held; of two names one is left; a directory that is an orphan is free with all its blocks.
func TestOrphanInUse(t *testing.T) {
	x := newWorld(t, village(t, small()), small())
	x.all(t, opening(6, rw), unlinking("second"), stating(0), closing(0), opening(6, rw), unlinking(nameOf(6)), stating(0))
	x.all(t, writing(0, sown(1, 30000)), truncating(0, 20000), seeking(0, 100, 0), reading(0, 30000), opening(6, rw|tr), stating(0), writing(1, sown(2, 9000)), closing(0), reading(1, 5), closing(1), opening(6, rd))
	x.whole(t)
	x.all(t, opening(5, rd), opening(5, rd), unlinking(nameOf(5)), closing(0), stating(1), reading(1, 5), seeking(1, 0, 2), closing(1), stating(1), opening(5, rd))
	x.whole(t)
	// An inode that was reclaimed may be another's: what is held is the number.
	if inum := file(t, x.v.Log(), "new"); inum != 5 {
		t.Fatalf("inode %d", inum)
	}
	ok(t, x.v.Sync())
	x.a, x.made = newAccount(small(), look(t, x.d.Image(), small())), x.d.Made()
	x.all(t, opening(5, rw), writing(0, sown(5, 3000)), seeking(0, 0, 0), reading(0, 5000), closing(0))
	x.whole(t)
}

// Two Files of one volume in turns: each has its own descriptors and places, the desk and the bytes are of both.
func TestTwoFiles(t *testing.T) {
	x := newWorld(t, village(t, small()), small())
	for i := range 16 {
		x.do(t, 0, opening(2+i%3, rw))
		x.do(t, 1, opening(4-i%3, rw))
	}
	x.do(t, 0, opening(2, rd))
	x.do(t, 1, opening(2, rd))
	c := rand.New(rand.NewSource(3))
	for i := range 200 {
		who, desc := i%2, c.Intn(16)
		x.answers(t, who, seeking(desc, c.Intn(20000), 0))
		x.answers(t, who, writing(desc, sown(i, c.Intn(5000))))
		x.answers(t, 1-who, seeking(desc, c.Intn(20000), 0))
		x.answers(t, 1-who, reading(desc, 9000))
		if i%20 == 0 {
			x.do(t, who, truncating(desc, c.Intn(20000)))
		}
	}
	for i := range 16 {
		x.do(t, 0, closing(i))
		x.do(t, 0, stating(i))
		x.do(t, 1, stating(i))
	}
	// The desk is full by both together.
	for i := range 5 {
		x.do(t, 0, opening(6+i, rd))
	}
	x.do(t, 0, opening(11, rd))
	x.do(t, 1, closing(0))
	x.do(t, 1, opening(11, rd))
	x.do(t, 1, opening(10, rd))
	x.whole(t)
}

// Full: whether all sixteen are open, whatever is closed between.
func TestFull(t *testing.T) {
	x := newWorld(t, village(t, small()), small())
	for n := range 40 {
		x.do(t, 0, opening(2+n%2, rd))
		if x.f[0].Full() != (n >= 15) || x.f[1].Full() {
			t.Fatalf("%d were opened: %t, %t", n+1, x.f[0].Full(), x.f[1].Full())
		}
	}
	for _, desc := range []int{7, 0, 15} {
		x.do(t, 0, closing(desc))
		if x.f[0].Full() {
			t.Fatal("one is free")
		}
		x.do(t, 0, opening(2, 0))
		x.do(t, 0, opening(1, wr))
		if x.f[0].Full() {
			t.Fatal("one is free still")
		}
		x.do(t, 0, opening(5, rd))
		if !x.f[0].Full() {
			t.Fatal("none is free")
		}
	}
}
