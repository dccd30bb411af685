package room_test

import (
	"math/rand"
	"slices"
	"testing"

	"undercroft/api"
	"undercroft/disk"
	"undercroft/room"
	"undercroft/wal"
)

// choices are all lists of what is kept of n pending writes.
func choices(n int) [][]bool {
	var out [][]bool
	for bits := range 1 << n {
		keep := make([]bool, n)
		for i := range keep {
			keep[i] = bits>>i&1 == 1
		}
		out = append(out, keep)
	}
	return out
}

// recovered is a new log of a disk whose power has gone.
func recovered(t testing.TB, d *disk.Disk, where api.Layout) *wal.Log {
	t.Helper()
	if _, err := wal.Recover(d, where); err != api.OK {
		t.Fatalf("Recover: %d", err)
	}
	return newLog(t, d, where)
}

// areUsed asks whether these data blocks and no others are used.
func areUsed(t testing.TB, l *wal.Log, where api.Layout, want []int) {
	t.Helper()
	for at := where.DataAt; at < where.Geometry.Blocks; at++ {
		used(t, l, at, slices.Contains(want, at), api.OK)
	}
	free(t, l, where.Geometry.Blocks-where.DataAt-len(want), api.OK)
}

// group is a group of two steps of a disk on which 35 and 36 are used: behind it 35, 37 and 38 are, and the next one that is taken is 36. It has changed the blocks 34, 37, 38 and 35.
func group(t testing.TB, l *wal.Log) {
	t.Helper()
	ok(t, l.Begin(4))
	take(t, l, 37, api.OK)
	take(t, l, 38, api.OK)
	give(t, l, 35, api.OK)
	ok(t, l.End(), l.Begin(3))
	take(t, l, 35, api.OK)
	give(t, l, 36, api.OK)
	ok(t, l.End())
	if l.Used() != 4 {
		t.Fatalf("the group has %d blocks", l.Used())
	}
}

// A group that is committed, in whichever way, stands when the power goes; the blocks that were taken hold noughts.
func TestCommitted(t *testing.T) {
	where := small(t)
	ways := map[string]func(l *wal.Log) api.Errno{
		"Sync":  (*wal.Log).Sync,
		"Close": (*wal.Log).Close,
		"Begin": func(l *wal.Log) api.Errno { return l.Begin(31) },
	}
	for name, commit := range ways {
		t.Run(name, func(t *testing.T) {
			d := load(t, newImage(where, below(37)))
			l := newLog(t, d, where)
			group(t, l)
			ok(t, commit(l))
			if name != "Close" {
				areUsed(t, l, where, []int{35, 37, 38})
			}
			d.Crash(nil)
			l = recovered(t, d, where)
			areUsed(t, l, where, []int{35, 37, 38})
			for at := 33; at < 40; at++ {
				var want api.Block // of those that were taken
				if at == 33 || at == 36 || at == 39 {
					want = numbered(at)
				}
				if b, err := l.Read(at); at != 34 && (b != want || err != api.OK) {
					t.Errorf("block %d is %v.., %d", at, b[:4], err)
				}
			}
			ok(t, l.Begin(2))
			take(t, l, 36, api.OK)
		})
	}
}

// A group that is not committed is lost with the power, in the middle of a step or behind it: what it took is free, what it gave back is used, and the bytes are as they were.
func TestNotCommitted(t *testing.T) {
	where := small(t)
	for _, open := range []bool{false, true} {
		d := load(t, newImage(where, below(37)))
		l := newLog(t, d, where)
		group(t, l)
		if open {
			ok(t, l.Begin(3))
			take(t, l, 36, api.OK)
		}
		if d.Made() != 0 {
			t.Fatalf("%d things were done", d.Made())
		}
		d.Crash(nil)
		refusesAll(t, l, api.ErrDead)
		l = recovered(t, d, where)
		areUsed(t, l, where, []int{35, 36})
		for _, at := range []int{33, 35, 36, 37, 38, 39} {
			if b, err := l.Read(at); b != numbered(at) || err != api.OK {
				t.Errorf("block %d is %v.., %d", at, b[:4], err)
			}
		}
		ok(t, l.Begin(2))
		take(t, l, 37, api.OK)
	}
}

// A group whose commit is stopped, at every place and with each choice of what is kept: all of it is found, or nothing.
func TestStoppedCommit(t *testing.T) {
	const n = 4
	where := small(t)
	im := newImage(where, below(37))
	for fuse := range 2*n + 6 {
		stopped := func() *disk.Disk {
			d := load(t, im)
			l := newLog(t, d, where)
			group(t, l)
			d.Fuse(fuse)
			if err := l.Sync(); err != api.ErrDead || d.Made() != fuse {
				t.Fatalf("a fuse of %d: %d, %d things", fuse, err, d.Made())
			}
			refusesAll(t, l, api.ErrDead)
			return d
		}
		for _, keep := range choices(len(stopped().Pending())) {
			d := stopped()
			d.Crash(keep)
			l := recovered(t, d, where)
			want, next := []int{35, 36}, 37
			if fuse > n+2 || (fuse == n+2 && keep[0]) { // the header is held
				want, next = []int{35, 37, 38}, 36
			}
			areUsed(t, l, where, want)
			ok(t, l.Begin(2))
			take(t, l, next, api.OK)
			ok(t, l.End())
			areUsed(t, l, where, append(want, next))
		}
	}
}

// Many lives of one disk, drawn anew the same way each time: what is found is the list as it was behind the last commit.
func TestManyLives(t *testing.T) {
	where := layout(t, 8230, 32, 60)
	d := load(t, newImage(where, below(8180)))
	last := from(where.DataAt, 8180-where.DataAt) // behind the last commit
	draw := rand.New(rand.NewSource(7))
	for range 40 {
		l := recovered(t, d, where)
		areUsed(t, l, where, last)
		now := slices.Clone(last)
		for range 1 + draw.Intn(12) {
			now = liveStep(t, l, draw, now)
			if draw.Intn(3) == 0 {
				ok(t, l.Sync())
				last = slices.Clone(now)
			}
		}
		d.Crash(nil)
	}
}

// liveStep takes some blocks and gives some back, in a step of which nothing is committed unless it is asked for: the group is small enough. It tells the list of those that are used.
func liveStep(t testing.TB, l *wal.Log, draw *rand.Rand, now []int) []int {
	t.Helper()
	commits := l.Commits()
	if l.Used() > 25 {
		return now
	}
	ok(t, l.Begin(5))
	for range 3 {
		if at, err := room.Take(l); err == api.OK {
			now = append(now, at)
		} else if err != api.ErrNoSpace && err != api.ErrTight {
			t.Fatalf("Take: %d", err)
		}
		if draw.Intn(2) == 0 {
			i := len(now) - 1 - draw.Intn(20)
			if err := room.Give(l, now[i]); err == api.OK {
				now = slices.Delete(now, i, i+1)
			} else if err != api.ErrTight {
				t.Fatalf("Give(%d): %d", now[i], err)
			}
		}
	}
	ok(t, l.End())
	if l.Commits() != commits {
		t.Fatal("a commit that nobody asked for")
	}
	return now
}
