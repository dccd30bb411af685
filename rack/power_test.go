package rack_test

import (
	"math/rand"
	"slices"
	"testing"

	"undercroft/api"
	"undercroft/disk"
	"undercroft/rack"
	"undercroft/wal"
)

// choices are all lists of what is kept of n pending writes.
func choices(n int) [][]bool {
	var out [][]bool
	for bits := range 1 << n {
		keep := make([]bool, n)
		for i := range keep {
			keep[i] = bits>>i&1 == 1
		}
		out = append(out, keep)
	}
	return out
}

// recovered is a new log of a disk whose power has gone.
func recovered(t testing.TB, d *disk.Disk, where api.Layout) *wal.Log {
	t.Helper()
	if _, err := wal.Recover(d, where); err != api.OK {
		t.Fatalf("Recover: %d", err)
	}
	return newLog(t, d, where)
}

// holds asks whether a log's table is as told, byte by byte, inode by inode, and as a whole.
func holds(t testing.TB, l *wal.Log, where api.Layout, want table) {
	t.Helper()
	free, without := 0, []int{}
	for inum := 1; inum <= where.Geometry.Inodes; inum++ {
		n := told(want[64*inum:])
		read(t, l, inum, n, api.OK)
		if n.Kind == api.KindFree {
			free++
		} else if n.Links == 0 {
			without = append(without, inum)
		}
	}
	spare(t, l, free, api.OK)
	orphans(t, l, api.OK, without...)
	for i := range where.NodeBlocks {
		if b, err := l.Read(where.NodeAt + i); b != api.Block(want[1024*i:]) || err != api.OK {
			t.Errorf("block %d of the table is not what it should be: %d", i, err)
		}
	}
}

// before is the table of small that a group finds: 4 and 15 are free, and the places that are no inode's hold bytes.
func before(t testing.TB) table {
	return filled(small(t), file, true).with(0, distinct(7)).with(20, distinct(8)).with(4, none).with(15, leftover)
}

// behind is what the group makes of it.
func behind(t testing.TB) table {
	return before(t).with(4, orphan).with(15, strange).with(16, orphan).with(2, none)
}

// group is a group of two steps. It changes the blocks 34 and 33.
func group(t testing.TB, l *wal.Log) {
	t.Helper()
	ok(t, l.Begin(2))
	write(t, l, 16, none, api.OK)
	take(t, l, orphan, 4, api.OK)
	take(t, l, strange, 15, api.OK)
	ok(t, l.End(), l.Begin(2))
	take(t, l, orphan, 16, api.OK)
	write(t, l, 2, none, api.OK)
	ok(t, l.End())
	if l.Used() != 2 {
		t.Fatalf("the group has %d blocks", l.Used())
	}
}

// A group that is committed, in whichever way, stands when the power goes.
func TestCommitted(t *testing.T) {
	where := small(t)
	ways := map[string]func(l *wal.Log) api.Errno{
		"Sync":  (*wal.Log).Sync,
		"Close": (*wal.Log).Close,
		"Begin": func(l *wal.Log) api.Errno { return l.Begin(31) },
	}
	for name, commit := range ways {
		t.Run(name, func(t *testing.T) {
			d := load(t, newImage(where, before(t)))
			l := newLog(t, d, where)
			group(t, l)
			holds(t, l, where, behind(t))
			ok(t, commit(l))
			if name != "Close" {
				holds(t, l, where, behind(t))
			}
			d.Crash(nil)
			l = recovered(t, d, where)
			holds(t, l, where, behind(t))
			ok(t, l.Begin(1))
			take(t, l, folder, 2, api.OK)
			take(t, l, folder, 0, api.ErrNoSpace)
			holds(t, l, where, behind(t).with(2, folder))
		})
	}
}

// A group that is not committed is lost with the power, in the middle of a step or behind it: the inodes are as they were.
func TestNotCommitted(t *testing.T) {
	where := small(t)
	for _, open := range []bool{false, true} {
		d := load(t, newImage(where, before(t)))
		l := newLog(t, d, where)
		group(t, l)
		if open {
			ok(t, l.Begin(1))
			take(t, l, file, 2, api.OK)
		}
		if d.Made() != 0 {
			t.Fatalf("%d things were done", d.Made())
		}
		d.Crash(nil)
		refusesAll(t, l, api.ErrDead)
		l = recovered(t, d, where)
		holds(t, l, where, before(t))
		ok(t, l.Begin(1))
		take(t, l, file, 4, api.OK)
	}
}

// P11.3: the calls carry out no write and no barrier, so that no fuse stops the disk in one of them: they are answered as on any disk, and the next thing that somebody does stops it; from then on all are ErrDead, and nothing of the step is found.
func TestFuse(t *testing.T) {
	where := small(t)
	calls := map[string]struct {
		call func(t *testing.T, l *wal.Log)
		want table
	}{
		"Read":    {func(t *testing.T, l *wal.Log) { read(t, l, 15, leftover, api.OK) }, before(t)},
		"Spare":   {func(t *testing.T, l *wal.Log) { spare(t, l, 2, api.OK) }, before(t)},
		"Orphans": {func(t *testing.T, l *wal.Log) { orphans(t, l, api.OK) }, before(t)},
		"Write":   {func(t *testing.T, l *wal.Log) { write(t, l, 16, orphan, api.OK) }, before(t).with(16, orphan)},
		"Take":    {func(t *testing.T, l *wal.Log) { take(t, l, strange, 4, api.OK) }, before(t).with(4, strange)},
	}
	for name, c := range calls {
		for fuse := range 9 {
			d := load(t, newImage(where, before(t)))
			l := newLog(t, d, where)
			ok(t, l.Begin(1))
			d.Fuse(fuse)
			c.call(t, l)
			if d.Made() != 0 || d.Stopped() {
				t.Fatalf("%s, a fuse of %d: %d things done", name, fuse, d.Made())
			}
			holds(t, l, where, c.want)
			for range fuse {
				ok(t, d.Barrier())
			}
			holds(t, l, where, c.want)
			if d.Barrier() != api.ErrDead {
				t.Fatalf("%s, a fuse of %d: the call has put it off", name, fuse)
			}
			refusesAll(t, l, api.ErrDead)
			d.Crash(nil)
			refusesAll(t, l, api.ErrDead)
			holds(t, recovered(t, d, where), where, before(t))
		}
	}
}

// A group whose commit is stopped, at every write and barrier and with each choice of what is kept: all calls are ErrDead, and all of the group is found, or nothing.
func TestStoppedCommit(t *testing.T) {
	const n = 2
	where := small(t)
	im := newImage(where, before(t))
	ways := map[string]func(l *wal.Log) api.Errno{
		"Sync":  (*wal.Log).Sync,
		"Begin": func(l *wal.Log) api.Errno { return l.Begin(31) },
	}
	for name, commit := range ways {
		for fuse := range 2*n + 6 {
			stopped := func() *disk.Disk {
				d := load(t, im)
				l := newLog(t, d, where)
				group(t, l)
				d.Fuse(fuse)
				if err := commit(l); err != api.ErrDead || d.Made() != fuse {
					t.Fatalf("%s, a fuse of %d: %d, %d things", name, fuse, err, d.Made())
				}
				refusesAll(t, l, api.ErrDead)
				return d
			}
			for _, keep := range choices(len(stopped().Pending())) {
				d := stopped()
				d.Crash(keep)
				l := recovered(t, d, where)
				want, next := before(t), 4
				if fuse > n+2 || (fuse == n+2 && keep[0]) { // the header is held
					want, next = behind(t), 2
				}
				holds(t, l, where, want)
				ok(t, l.Begin(1))
				take(t, l, folder, next, api.OK)
				ok(t, l.End())
				holds(t, l, where, want.with(next, folder))
			}
		}
	}
}

// Many lives of one disk, drawn anew the same way each time: what is found is the table as it was behind the last commit.
func TestManyLives(t *testing.T) {
	where := layout(t, 60, 32, 50)
	draw := rand.New(rand.NewSource(11))
	last := drawn(where, draw) // behind the last commit
	d := load(t, newImage(where, last))
	for life := range 40 {
		l := recovered(t, d, where)
		holds(t, l, where, last)
		now := last
		for k := range 1 + draw.Intn(10) {
			now = liveStep(t, l, where, draw, now, distinct(100*life+k))
			if draw.Intn(3) == 0 {
				ok(t, l.Sync())
				last = now
			}
		}
		holds(t, l, where, now)
		d.Crash(nil)
	}
}

// liveStep takes an inode, makes another one free and changes a third. (The group is never too large for the next step: the table has fewer blocks than the log.) It tells the table behind it.
func liveStep(t testing.TB, l *wal.Log, where api.Layout, draw *rand.Rand, now table, n api.Node) table {
	t.Helper()
	inums := slices.DeleteFunc(draw.Perm(where.Geometry.Inodes+1), func(inum int) bool { return inum == 0 })
	ok(t, l.Begin(3))
	write(t, l, inums[0], none, api.OK)
	now = now.with(inums[0], none)
	inum, err := rack.Take(l, n)
	ok(t, err)
	for least := 1; least < inum; least++ {
		if told(now[64*least:]).Kind == api.KindFree {
			t.Errorf("%d is taken, and %d is free", inum, least)
		}
	}
	now = now.with(inum, n)
	write(t, l, inums[1], orphan, api.OK)
	ok(t, l.End())
	return now.with(inums[1], orphan)
}
