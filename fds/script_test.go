package fds_test

import (
	"math"
	"math/rand"
	"testing"

	"undercroft/api"
	"undercroft/fds"
)

// act is a call that may change a table.
type act struct {
	kind int // of the kinds below
	fd   int
}

const (
	opens = iota
	sets
	closes
)

// do has both make a call; each thing is a new one, so that it is told from those that were there earlier.
func do(t testing.TB, w watched[int], x act, thing int) {
	t.Helper()
	switch x.kind {
	case opens:
		w.open(t, thing)
	case sets:
		w.set(t, x.fd, thing)
	default:
		w.close(t, x.fd)
	}
}

// Every list of up to six calls of which the numbers are 0 to 2, on tables of no number and of up to four: each list's beginnings are lists too, so that all is asked behind the last call alone.
func TestShortScripts(t *testing.T) {
	acts := []act{{kind: opens}}
	for fd := range 3 {
		acts = append(acts, act{sets, fd}, act{closes, fd})
	}
	lists := 1
	for long := range 7 {
		for n := range lists {
			for most := -1; most <= 4; most++ {
				w := watch[int](most)
				for rest, i := n, 0; i < long; i++ {
					do(t, w, acts[rest%len(acts)], 1+i)
					rest /= len(acts)
				}
				w.check(t, -1, 0, 1, 2, 3, 4, 5)
			}
		}
		lists *= len(acts)
	}
}

// Long rows of calls of all kinds, held against the account behind each call: much room and little, growing and shrinking.
func TestLongScripts(t *testing.T) {
	for seed := range 60 {
		draw := rand.New(rand.NewSource(int64(seed)))
		most := []int{-5, 0, 1, 2, 5, api.MaxDescs, 60, math.MaxInt}[seed%8]
		w := watch[int](most)
		for i := range 3000 {
			x := act{kind: opens, fd: draw.Intn(2 + len(w.a.row)*3/2)}
			if draw.Intn(20) == 0 {
				x.fd = numbers[draw.Intn(len(numbers))]
			}
			// Openings outweigh closings for a while, then the other way round.
			if at := draw.Intn(10); at < 2 {
				x.kind = sets
			} else if at < 5+3*(i/100%2) {
				x.kind = closes
			}
			do(t, w, x, 1+i)
			w.check(t, x.fd, numbers[draw.Intn(len(numbers))])
		}
	}
}

// P25.5, by its words: no number is given out twice that was not closed between, all are below the most, and each stands for what was opened or set last.
func TestWhatFollows(t *testing.T) {
	for seed := range 20 {
		draw := rand.New(rand.NewSource(int64(1000 + seed)))
		const most = 12
		f := fds.New[int](most)
		var out [most]bool
		var last [most]int
		given := 0
		for i := range 20000 {
			switch fd := draw.Intn(most); draw.Intn(3) {
			case 0:
				fd, err := f.Open(i)
				if (err == api.OK) != (given < most) {
					t.Fatalf("call %d: Open with %d given out: %d", i, given, err)
				}
				if err != api.OK {
					continue
				}
				if fd < 0 || fd >= most || out[fd] {
					t.Fatalf("call %d: %d is given out", i, fd)
				}
				out[fd], last[fd] = true, i
				given++
			case 1:
				if err := f.Set(fd, i); (err == api.OK) != out[fd] {
					t.Fatalf("call %d: Set(%d): %d", i, fd, err)
				}
				if out[fd] {
					last[fd] = i
				}
			default:
				v, err := f.Close(fd)
				if (err == api.OK) != out[fd] || out[fd] && v != last[fd] {
					t.Fatalf("call %d: Close(%d): %d, %d", i, fd, v, err)
				}
				if out[fd] {
					out[fd] = false
					given--
				}
			}
			if f.Len() != given || f.Full() != (given == most) {
				t.Fatalf("call %d: with %d given out: Len: %d, Full: %v", i, given, f.Len(), f.Full())
			}
			for fd, is := range out {
				if v, err := f.Get(fd); (err == api.OK) != is || is && v != last[fd] {
					t.Fatalf("call %d: Get(%d): %d, %d", i, fd, v, err)
				}
			}
		}
	}
}

// Rule 6: what one table does leaves another as it was, though their calls are made in turn and of the same numbers.
func TestTwoTables(t *testing.T) {
	for seed := range 10 {
		draw := rand.New(rand.NewSource(int64(2000 + seed)))
		tables := []watched[int]{watch[int](2), watch[int](2), watch[int](5), watch[int](0), watch[int](math.MaxInt)}
		texts := watch[string](3)
		for i := range 2000 {
			w := tables[draw.Intn(len(tables))]
			do(t, w, act{kind: draw.Intn(3), fd: draw.Intn(8)}, 1+i)
			if i%5 == 0 {
				texts.close(t, draw.Intn(4))
				texts.open(t, "a")
			}
			for _, w := range tables {
				w.check(t, 0, 1, 7)
			}
			texts.check(t)
		}
	}
}

// A table that was emptied is as a new one.
func TestEmptied(t *testing.T) {
	for most := range 6 {
		w := watch[int](most)
		for round := range 50 {
			for i := range most {
				w.open(t, 100*round+i)
			}
			if !w.t.Full() {
				t.Fatalf("of %d, round %d: not full", most, round)
			}
			for i := range most {
				w.close(t, (i+round)%most)
			}
			w.check(t, numbers...)
			if w.t.Len() != 0 || w.t.Full() != (most == 0) {
				t.Fatalf("of %d, round %d: Len: %d, Full: %v", most, round, w.t.Len(), w.t.Full())
			}
		}
	}
}
