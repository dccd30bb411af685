package fetch_test

import (
	"bytes"
	"maps"
	"slices"
	"testing"

	"undercroft/api"
	"undercroft/chart"
	"undercroft/fetch"
	"undercroft/rack"
	"undercroft/wal"
)

// grow has, in a step, an index of a file be mapped and hold what stands there of another file, and gives the file as it is then.
func (w *world) grow(t testing.TB, inum, index int, from file) {
	t.Helper()
	at, err := chart.Map(w.l, inum, index)
	ok(t, err, w.l.Write(at, api.Block(from.data[index])))
	f := w.files[inum]
	f.data = maps.Clone(f.data)
	f.data[index] = from.data[index]
	w.files[inum] = f
}

// drop has, in a step, some indices of a file be holes.
func (w *world) drop(t testing.TB, inum, first, count int) {
	t.Helper()
	_, err := chart.Drop(w.l, inum, first, count)
	ok(t, err)
	f := w.files[inum]
	f.data = maps.Clone(f.data)
	maps.DeleteFunc(f.data, func(i int, _ []byte) bool { return i >= first && i < first+count })
	w.files[inum] = f
}

// sized has, in a step, a file be of a size.
func (w *world) sized(t testing.TB, inum, size int) {
	t.Helper()
	n, err := rack.Read(w.l, inum)
	n.Size = uint32(size)
	ok(t, err, rack.Write(w.l, inum, n))
	f := w.files[inum]
	f.size = size
	w.files[inum] = f
}

// P14.1: Read tells what the open step has made so far, and what steps that are over made, committed or not.
func TestInSteps(t *testing.T) {
	w := newWorld(t, ten(t), map[int]file{2: sown(1, 3000, 0, 2), 3: sown(2, 2000, 0, 1)})
	sees := func() {
		t.Helper()
		for _, inum := range []int{1, 2, 3, 4} {
			for _, at := range []int{0, 1000, 1023, 1024, 2048, 2999, 10 * 1024, 300*1024 - 5, 300 * 1024, 301*1024 - 5} {
				w.reads(t, inum, at, 2500)
			}
		}
	}
	full := sown(77, 400*1024, through(0, 399)...)
	for round := range 3 {
		ok(t, w.l.Begin(31))
		w.grow(t, 2, 1, full)
		sees()
		w.sized(t, 2, 301*1024)
		sees()
		w.grow(t, 2, 10, full)
		sees()
		w.grow(t, 2, 300, full)
		sees()
		ok(t, w.l.End())
		sees()
		if round > 0 {
			ok(t, w.l.Sync())
			sees()
		}
		ok(t, w.l.Begin(31))
		w.drop(t, 2, 5, 290)
		sees()
		w.drop(t, 2, 0, 2)
		sees()
		w.drop(t, 2, 0, 65802)
		sees()
		w.sized(t, 2, 1025)
		sees()
		ok(t, w.l.End())
		sees()
	}
}

// P14.1: an inode that is taken in a step is read, one that is given back is free.
func TestTakenAndGiven(t *testing.T) {
	w := sample(t)
	ok(t, w.l.Begin(9))
	inum, err := rack.Take(w.l, api.Node{Kind: api.KindFile, Links: 1, Size: 1030})
	if inum != 3 || err != api.OK {
		t.Fatalf("Take: %d, %d", inum, err)
	}
	w.files[3] = file{kind: api.KindFile, links: 1, size: 1030}
	w.reads(t, 3, 0, 2000)
	w.reads(t, 3, 1029, 2000)
	ok(t, rack.Write(w.l, 3, api.Node{}))
	delete(w.files, 3)
	w.reads(t, 3, 0, 2000)
	w.reads(t, 3, 0, 0)
	w.reads(t, 3, 5000, 1)
	ok(t, w.l.End())
	w.reads(t, 3, 0, 1)
}

// What is read behind recovery, wherever in a commit the disk stops and whether all or none of what is pending is kept: the file as it was or as it became, and no mixture.
func TestPower(t *testing.T) {
	begin := map[int]file{2: sown(1, 20*1024, 0, 1, 12), 3: sown(3, 900, 0)}
	grown := sown(2, 30*1024, 0, 1, 12, 20, 29)
	for fuse := range 40 {
		for _, kept := range []bool{false, true} {
			w := newWorld(t, ten(t), begin)
			was := w.files[2]
			ok(t, w.l.Begin(23))
			for _, index := range []int{0, 1, 12, 20, 29} {
				w.grow(t, 2, index, grown)
			}
			w.sized(t, 2, 30*1024)
			w.whole(t, 2, 5000)
			ok(t, w.l.End())
			w.d.Fuse(fuse)
			synced := w.l.Sync()
			ok(t, w.d.Crash(slices.Repeat([]bool{kept}, 40)))
			reads(t, w.l, 2, 0, 1, nil, api.ErrDead)
			_, err := wal.Recover(w.d, w.where)
			ok(t, err)
			w.l = newLog(t, w.d, w.where)
			p, err := fetch.Read(w.l, 2, 0, 65536)
			ok(t, err)
			if synced != api.OK && bytes.Equal(p, was.read(0, 65536)) {
				w.files[2] = was
			}
			for _, inum := range []int{1, 2, 3} {
				w.whole(t, inum, 1024)
				w.whole(t, inum, 65536)
			}
		}
	}
}
