package lay_test

import (
	"maps"
	"math/rand"
	"testing"

	"undercroft/api"
	"undercroft/disk"
	"undercroft/lay"
	"undercroft/wal"
)

// recovered is a new log of a disk whose power has gone.
func recovered(t testing.TB, d *disk.Disk, where api.Layout) *wal.Log {
	t.Helper()
	if _, err := wal.Recover(d, where); err != api.OK {
		t.Fatalf("Recover: %d", err)
	}
	return newLog(t, d, where)
}

// choices are some lists of what is kept of n pending writes: none, all, each alone, every second one.
func choices(n int) [][]bool {
	list := func(is func(i int) bool) []bool {
		keep := make([]bool, n)
		for i := range keep {
			keep[i] = is(i)
		}
		return keep
	}
	out := [][]bool{list(func(int) bool { return false })}
	if n == 0 {
		return out
	}
	out = append(out, list(func(int) bool { return true }), list(func(i int) bool { return i%2 == 0 }), list(func(i int) bool { return i%2 == 1 }))
	for one := range n {
		out = append(out, list(func(i int) bool { return i == one }))
	}
	return out
}

// written are the accounts of a disk behind none, one and more of the pieces of a write.
func written(begin *account, inum, at int, p []byte) []*account {
	a := begin.copied()
	out := []*account{a.copied()}
	for done := 0; done < len(p); {
		end := min(len(p), ((at+done)/8192+1)*8192-at)
		a.piece(inum, at+done, p[done:end])
		out = append(out, a.copied())
		done = end
	}
	return out
}

// like is which of some accounts a log's disk is like; -1: none.
func like(l *wal.Log, some []*account) int {
next:
	for i, a := range some {
		for at, want := range a.now {
			if at >= a.where.Geometry.Blocks {
				continue
			}
			if b, err := l.Read(at); b != want || err != api.OK {
				continue next
			}
		}
		return i
	}
	return -1
}

// The power going at each write and barrier of a Write: it is ErrDead, as is all that is asked of the log then; the disk is as it was behind some of the pieces, none of them in part, and one goes on from there.
func TestStoppedWrite(t *testing.T) {
	const at = 5000
	p := sown(1, 38000) // six pieces, about the single index block
	for _, log := range []int{32, 48} {
		begin := made(t, layout(t, 160, log, 16)).own(2, 0, 5, 20)
		some := written(begin, 2, at, p)
		whole := begin.copied()
		whole.write(2, at, p)
		if commits := map[int]int{32: 4, 48: 1}[log]; whole.commits != commits || len(some) != 7 {
			t.Fatalf("a log of %d: %d commits, %d pieces", log, whole.commits, len(some)-1)
		}
		found := map[int]bool{}
		for fuse := range whole.made {
			stopped := func() *world {
				w := newWorld(t, begin)
				w.d.Fuse(fuse)
				if n, err := lay.Write(w.l, 2, at, p); n != 0 || err != api.ErrDead || w.d.Made() != fuse {
					t.Fatalf("a fuse of %d: %d, %d, %d things", fuse, n, err, w.d.Made())
				}
				refusesAll(t, w.l, 2, 0, p, api.ErrDead)
				refusesAll(t, w.l, 0, -1, nil, api.ErrDead)
				return w
			}
			for _, keep := range choices(len(stopped().d.Pending())) {
				w := stopped()
				ok(t, w.d.Crash(keep))
				w.l = recovered(t, w.d, begin.where)
				k := like(w.l, some)
				if k < 0 {
					t.Fatalf("a fuse of %d: the disk is as it was behind no piece", fuse)
				}
				found[k] = true
				w.a = some[k].copied()
				w.a.made = w.d.Made()
				w.do(t, writing(2, at, p))
				w.sound(t)
				w.reads(t, 2, at, p)
			}
		}
		if !found[0] || len(found) != whole.commits+1 || found[6] {
			t.Errorf("a log of %d: behind these pieces: %v", log, found)
		}
	}
}

// What a Write has answered is in the group that the next sync commits, and is not ahead of that.
func TestAnswered(t *testing.T) {
	begin := made(t, snug(t)).own(2, 0)
	p := sown(1, 20000)
	some := written(begin, 2, 500, p)
	for _, sync := range []bool{false, true} {
		w := newWorld(t, begin)
		w.do(t, writing(2, 500, p))
		if sync {
			w.do(t, syncing())
		}
		ok(t, w.d.Crash(nil))
		refusesAll(t, w.l, 2, 0, p, api.ErrDead)
		w.l = recovered(t, w.d, begin.where)
		if k := like(w.l, some); k != len(some)-1 && sync || k == len(some)-1 && !sync {
			t.Errorf("synced: %t: the disk is as it was behind piece %d", sync, k)
		}
	}
}

// Put carries out no write and no barrier, nor does a Piece that commits nothing: no fuse stops the disk in them. A step that is not over is lost with the power.
func TestFuse(t *testing.T) {
	begin := made(t, ten(t)).own(2, 0, 12)
	for fuse := range 3 {
		for name, call := range map[string]func(w *world){
			"Put":   func(w *world) { w.do(t, beginning(31), putting(2, 264*1024, sown(1, 8192))) },
			"Piece": func(w *world) { w.do(t, piecing(2, 264*1024, sown(1, 8192))) },
			"Write": func(w *world) { w.do(t, writing(2, 0, sown(1, 8192))) },
		} {
			w := newWorld(t, begin)
			w.d.Fuse(fuse)
			call(w)
			for range fuse {
				ok(t, w.d.Barrier())
			}
			if w.d.Barrier() != api.ErrDead {
				t.Fatalf("%s, a fuse of %d: the call has put it off", name, fuse)
			}
			refusesAll(t, w.l, 2, 0, nil, api.ErrDead)
			ok(t, w.d.Crash(nil))
			if like(recovered(t, w.d, begin.where), []*account{begin}) != 0 {
				t.Fatalf("%s, a fuse of %d: the disk has changed", name, fuse)
			}
		}
	}
}

// A Piece whose beginning commits what is ahead of it: the disk stops in that, and there is nothing of the piece.
func TestStoppedPiece(t *testing.T) {
	begin := made(t, snug(t))
	ahead, p := sown(1, 8192), sown(2, 3000)
	some := written(begin, 2, 0, ahead)
	for fuse := range 26 { // ten blocks: 2 n + 6
		w := newWorld(t, begin)
		w.do(t, piecing(2, 0, ahead))
		w.d.Fuse(fuse)
		if err := lay.Piece(w.l, 2, 8192, p); err != api.ErrDead {
			t.Fatalf("a fuse of %d: %d", fuse, err)
		}
		refusesAll(t, w.l, 2, 8192, p, api.ErrDead)
		ok(t, w.d.Crash(nil))
		k := like(recovered(t, w.d, begin.where), some)
		if held := fuse >= 10+3; k < 0 || held != (k == 1) { // the header's barrier
			t.Fatalf("a fuse of %d: the disk is as it was behind piece %d", fuse, k)
		}
	}
	w := newWorld(t, begin)
	w.do(t, piecing(2, 0, ahead))
	w.d.Fuse(26)
	w.do(t, piecing(2, 8192, p))
}

// Many lives of one disk, drawn anew the same way each time: what is found is the files as they were behind the last commit; what is read is what was written last, noughts where nothing was.
func TestManyLives(t *testing.T) {
	draw := rand.New(rand.NewSource(15))
	a := made(t, layout(t, 1500, 48, 20))
	a.has(4, api.Node{Kind: api.KindFile, Links: 1})
	d := load(t, a.image())
	for range 25 {
		w := &world{d: d, l: recovered(t, d, a.where), a: a}
		a.made = d.Made()
		w.agree(t)
		w.sound(t)
		safe := maps.Clone(a.now)
		for range 1 + draw.Intn(25) {
			commits := w.l.Commits()
			w.do(t, drawn(draw))
			if w.l.Commits() != commits { // ahead of the act or in the middle of it: all of it is committed, so that one knows how much is
				w.do(t, syncing())
				safe = maps.Clone(a.now)
			}
		}
		w.agree(t)
		w.sound(t)
		for inum := 2; inum <= 4; inum++ {
			w.reads(t, inum, 0, a.read(inum, 0, 60000))
			w.reads(t, inum, 255*1024, a.read(inum, 255*1024, 60000))
		}
		ok(t, d.Crash(nil))
		refusesAll(t, w.l, 2, 0, nil, api.ErrDead)
		a = &account{where: a.where, now: safe}
	}
}

// drawn is a write of one of three files, or now and then a sync.
func drawn(draw *rand.Rand) act {
	at := []int{draw.Intn(30000), draw.Intn(300 * 1024), 255*1024 + draw.Intn(20*1024), draw.Intn(api.MaxFile - 20000)}[draw.Intn(4)]
	inum, n := 2+draw.Intn(3), []int{draw.Intn(10), draw.Intn(1500), draw.Intn(20000)}[draw.Intn(3)]
	p := sown(draw.Intn(1000), n)
	switch draw.Intn(8) {
	case 0:
		return syncing()
	case 1:
		return step(31, putting(inum, at, p[:min(n, 5000)]))
	case 2:
		return piecing(inum, at, p[:min(n, 8192-at%8192)])
	}
	return writing(inum, at, p)
}
