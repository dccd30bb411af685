package desk_test

import (
	"math"
	"math/rand"
	"testing"

	"undercroft/api"
	"undercroft/desk"
)

// Every list of up to five Holds and Drops of 0 to 3, on desks of no inode and of up to three: each list's beginnings are lists too, so that all is asked behind the last call alone.
func TestShortScripts(t *testing.T) {
	var acts []act
	for inum := range 4 {
		acts = append(acts, act{drop: false, inum: inum}, act{drop: true, inum: inum})
	}
	asked := []int{-1, 0, 1, 2, 3, 4}
	lists := 1
	for long := range 6 {
		for n := range lists {
			for most := -1; most <= 3; most++ {
				w := watch(most)
				for rest, i := n, 0; i < long; i++ {
					w.do(t, acts[rest%len(acts)])
					rest /= len(acts)
				}
				w.check(t, asked...)
			}
		}
		lists *= len(acts)
	}
}

// Long lists of calls in any order, held against the account behind each call: many inodes and few, much room and little, growing and shrinking.
func TestLongScripts(t *testing.T) {
	for seed := range 60 {
		draw := rand.New(rand.NewSource(int64(seed)))
		most := []int{-5, 0, 1, 2, 5, api.MaxHeld, 30, math.MaxInt}[seed%8]
		inodes := []int{1, 3, 9, 20, 50}[seed%5]
		w := watch(most)
		for i := range 3000 {
			x := act{inum: 1 + draw.Intn(inodes)}
			if draw.Intn(20) == 0 {
				x.inum = numbers[draw.Intn(len(numbers))]
			}
			// Holds outweigh Drops for a while, then the other way round.
			x.drop = draw.Intn(10) < 3+4*(i/100%2)
			w.do(t, x)
			w.check(t, x.inum, draw.Intn(inodes)+1, numbers[draw.Intn(len(numbers))])
		}
	}
}

// P17.2, by its words: how many Holds were OK less how many Drops, and true just where that comes to 0.
func TestCounts(t *testing.T) {
	for seed := range 20 {
		draw := rand.New(rand.NewSource(int64(1000 + seed)))
		most := draw.Intn(6)
		d := desk.New(most)
		var holds, drops [10]int
		for i := range 20000 {
			inum := draw.Intn(len(holds))
			if draw.Intn(2) == 0 {
				if d.Hold(inum) == api.OK {
					holds[inum]++
				}
			} else if last, err := d.Drop(inum); err == api.OK {
				drops[inum]++
				if last != (holds[inum] == drops[inum]) {
					t.Fatalf("call %d: Drop(%d): %v, behind %d Holds and %d Drops", i, inum, last, holds[inum], drops[inum])
				}
			} else if last {
				t.Fatalf("call %d: Drop(%d): true, %d", i, inum, err)
			}
			held := 0
			for inum := range holds {
				if d.Holds(inum) != holds[inum]-drops[inum] {
					t.Fatalf("call %d: Holds(%d): %d, behind %d Holds and %d Drops", i, inum, d.Holds(inum), holds[inum], drops[inum])
				}
				if holds[inum] > drops[inum] {
					held++
				}
			}
			if held > most || d.Len() != held || d.Full() != (held == most) {
				t.Fatalf("call %d: of %d, %d are held: Len: %d, Full: %v", i, most, held, d.Len(), d.Full())
			}
		}
		if holds[0] != 0 || drops[0] != 0 {
			t.Errorf("of 0: %d Holds, %d Drops", holds[0], drops[0])
		}
	}
}

// Rule 6: what one desk does leaves another as it was, though their calls are made in turn and of the same inodes.
func TestTwoDesks(t *testing.T) {
	for seed := range 10 {
		draw := rand.New(rand.NewSource(int64(2000 + seed)))
		desks := []watched{watch(2), watch(2), watch(5), watch(0), watch(math.MaxInt)}
		for range 2000 {
			w := desks[draw.Intn(len(desks))]
			w.do(t, act{drop: draw.Intn(2) == 0, inum: draw.Intn(8)})
			for _, w := range desks {
				w.check(t, 1, 2, 7)
			}
		}
	}
}

// A desk that was emptied is as a new one.
func TestEmptied(t *testing.T) {
	for most := range 6 {
		w := watch(most)
		for round := range 50 {
			for i := range most {
				w.hold(t, 1+i+round)
				w.hold(t, 1+i+round)
			}
			if !w.d.Full() {
				t.Fatalf("of %d, round %d: not full", most, round)
			}
			for i := range most {
				w.drop(t, 1+i+round)
				w.drop(t, 1+i+round)
			}
			w.check(t, 1+round)
			if w.d.Len() != 0 || w.d.Full() != (most == 0) {
				t.Fatalf("of %d, round %d: Len: %d, Full: %v", most, round, w.d.Len(), w.d.Full())
			}
		}
	}
}
