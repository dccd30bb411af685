package files_test

import (
	"bytes"
	"maps"
	"math/big"
	"slices"
	"testing"

	"undercroft/api"
)

// thing is an inode by the document's words: its bytes, one by one, and which of its indices are mapped.
type thing struct {
	kind   api.Kind
	links  int
	bytes  []byte
	mapped map[int]bool
}

// cost is how many blocks some indices have when they are mapped, those with block numbers among them.
func cost(mapped map[int]bool) int {
	tables := map[int]bool{}
	for i := range mapped {
		if i >= 10 {
			tables[-1] = tables[-1] || i < 266
			tables[-2] = tables[-2] || i >= 266
		}
		if i >= 266 {
			tables[(i-266)/256] = true
		}
	}
	maps.DeleteFunc(tables, func(_ int, is bool) bool { return !is })
	return len(mapped) + len(tables)
}

// last is the greatest index that is mapped, from one on; -1: there is none.
func (x *thing) last(from int) int {
	last := -1
	for i := range x.mapped {
		if i >= from {
			last = max(last, i)
		}
	}
	return last
}

// size has a thing have so many bytes, noughts where there were none.
func (x *thing) size(n int) {
	if n <= len(x.bytes) {
		x.bytes = slices.Clone(x.bytes[:n])
		return
	}
	x.bytes = append(x.bytes, make([]byte, n-len(x.bytes))...)
}

func (x *thing) copied() *thing {
	return &thing{x.kind, x.links, slices.Clone(x.bytes), maps.Clone(x.mapped)}
}

// copied are things that are not changed with those that they are copies of.
func copied(things map[int]*thing) map[int]*thing {
	out := map[int]*thing{}
	for inum, x := range things {
		out[inum] = x.copied()
	}
	return out
}

// likeThings tells whether both are the same.
func likeThings(a, b map[int]*thing) bool {
	return maps.EqualFunc(a, b, func(x, y *thing) bool {
		return x.kind == y.kind && x.links == y.links && bytes.Equal(x.bytes, y.bytes) && maps.Equal(x.mapped, y.mapped)
	})
}

// alike asks whether both are the same.
func alike(t testing.TB, got, want map[int]*thing) {
	t.Helper()
	for inum := range 65536 {
		x, y := got[inum], want[inum]
		switch {
		case x == nil && y == nil:
		case x == nil || y == nil:
			t.Fatalf("inode %d is there: %t", inum, x != nil)
		case x.kind != y.kind || x.links != y.links || len(x.bytes) != len(y.bytes) || !maps.Equal(x.mapped, y.mapped):
			t.Fatalf("inode %d: kind %d, links %d, size %d, mapped %v, not %d, %d, %d, %v", inum, x.kind, x.links, len(x.bytes), x.mapped, y.kind, y.links, len(y.bytes), y.mapped)
		case !bytes.Equal(x.bytes, y.bytes):
			t.Fatalf("inode %d has other bytes", inum)
		}
	}
}

// slot is a descriptor.
type slot struct {
	open  bool
	inum  int
	flags int
	place int
}

// table are the descriptors of one Files.
type table [16]slot

func (tb *table) full() bool {
	return !slices.ContainsFunc(tb[:], func(s slot) bool { return !s.open })
}

// get is a descriptor that is open with a flag; nil, if it is not.
func (tb *table) get(desc, flag int) *slot {
	if desc < 0 || desc > 15 || !tb[desc].open || tb[desc].flags&flag != flag {
		return nil
	}
	return &tb[desc]
}

// account is what the document says of a volume, of what is held, and of two files of it.
type account struct {
	g      api.Geometry
	things map[int]*thing
	held   map[int]int
	tables [2]table
	steps  int
	bound  int              // as many writes and barriers the steps so far may cost
	states []map[int]*thing // behind each step, if they are kept
	keeps  bool
}

func newAccount(g api.Geometry, things map[int]*thing) *account {
	return &account{g: g, things: copied(things), held: map[int]int{}}
}

// step is told behind each step, with its reservation.
func (a *account) step(r int) {
	a.steps++
	a.bound += 2*r + 6
	if a.keeps {
		a.states = append(a.states, copied(a.things))
	}
}

// free is how many data blocks nobody has.
func (a *account) free() int {
	n := a.g.Blocks - where(a.g).data
	for _, x := range a.things {
		n -= cost(x.mapped)
	}
	return n
}

// left are the things that a mounting leaves: those that have names.
func (a *account) left() map[int]*thing {
	out := copied(a.things)
	maps.DeleteFunc(out, func(_ int, x *thing) bool { return x.links == 0 })
	return out
}

// do makes a call.
func (a *account) do(who int, c api.Call) api.Result {
	tb := &a.tables[who]
	var out api.Result
	switch c.Kind {
	case api.CallOpen:
		out.Value, out.Err = a.open(tb, c.Size, c.Flags)
	case api.CallRead:
		out.Bytes, out.Err = a.read(tb, c.Desc, c.Size)
		out.Value = len(out.Bytes)
	case api.CallWrite:
		out.Value, out.Err = a.write(tb, c.Desc, c.Bytes)
	case api.CallSeek:
		out.Value, out.Err = a.seek(tb, c.Desc, c.Size, c.Flags)
	case api.CallTruncate:
		out.Err = a.truncate(tb, c.Desc, c.Size)
	case api.CallClose:
		out.Err = a.close(tb, c.Desc)
	case api.CallStatDesc:
		out.Stat, out.Err = a.stat(tb, c.Desc)
	case api.CallUnlink:
		out.Err = a.unlink(c.Path)
	case api.CallMkdir:
		a.step(c.Size)
	}
	return out
}

func (a *account) open(tb *table, inum, flags int) (int, api.Errno) {
	is := func(flag int) bool { return flags&flag != 0 }
	x := a.things[inum]
	switch {
	case flags < 0 || flags > 31 || !is(1) && !is(2) || is(8) && !is(4) || is(16) && !is(2):
		return 0, api.ErrInval
	case tb.full():
		return 0, api.ErrMfile
	case inum < 1 || inum > a.g.Inodes:
		return 0, api.ErrArg
	case x == nil:
		return 0, api.ErrNoEnt
	case x.kind == api.KindDir && is(2):
		return 0, api.ErrIsDir
	case a.held[inum] == 0 && len(a.held) == 8:
		return 0, api.ErrNfile
	}
	desc := slices.IndexFunc(tb[:], func(s slot) bool { return !s.open })
	tb[desc] = slot{open: true, inum: inum, flags: flags}
	a.held[inum]++
	if is(16) {
		a.shorter(x, 0)
	}
	return desc, api.OK
}

func (a *account) read(tb *table, desc, size int) ([]byte, api.Errno) {
	s := tb.get(desc, 1)
	switch {
	case s == nil:
		return nil, api.ErrBad
	case size < 0 || size > 65536:
		return nil, api.ErrInval
	case a.things[s.inum].kind == api.KindDir:
		return nil, api.ErrIsDir
	}
	var p []byte
	if b := a.things[s.inum].bytes; s.place < len(b) {
		p = slices.Clone(b[s.place:min(len(b), s.place+size)])
	}
	s.place += len(p)
	return p, api.OK
}

func (a *account) write(tb *table, desc int, p []byte) (int, api.Errno) {
	s := tb.get(desc, 2)
	switch {
	case s == nil:
		return 0, api.ErrBad
	case len(p) > 65536:
		return 0, api.ErrInval
	case s.place+len(p) > 67381248:
		return 0, api.ErrBig
	}
	x, done := a.things[s.inum], 0
	for done < len(p) {
		at := s.place + done
		end := min(s.place+len(p), at/8192*8192+8192)
		with := maps.Clone(x.mapped)
		for i := at / 1024; i <= (end-1)/1024; i++ {
			with[i] = true
		}
		if cost(with)-cost(x.mapped) > a.free() {
			break
		}
		x.mapped = with
		if end > len(x.bytes) {
			x.size(end)
		}
		done += copy(x.bytes[at:end], p[done:])
		a.step(23)
	}
	if done == 0 && len(p) > 0 {
		return 0, api.ErrNoSpace
	}
	s.place += done
	return done, api.OK
}

func (a *account) seek(tb *table, desc, size, flags int) (int, api.Errno) {
	s := tb.get(desc, 0)
	if s == nil {
		return 0, api.ErrBad
	}
	if flags < 0 || flags > 2 {
		return 0, api.ErrInval
	}
	start := []int{0, s.place, len(a.things[s.inum].bytes)}[flags]
	sum := new(big.Int).Add(big.NewInt(int64(start)), big.NewInt(int64(size)))
	if sum.Sign() < 0 || sum.Cmp(big.NewInt(67381248)) > 0 {
		return 0, api.ErrInval
	}
	s.place = int(sum.Int64())
	return s.place, api.OK
}

func (a *account) truncate(tb *table, desc, size int) api.Errno {
	s := tb.get(desc, 2)
	switch {
	case s == nil:
		return api.ErrBad
	case size < 0:
		return api.ErrInval
	case size > 67381248:
		return api.ErrBig
	}
	x := a.things[s.inum]
	if size > len(x.bytes) {
		x.size(size)
		a.step(2)
		return api.OK
	}
	a.shorter(x, size)
	return api.OK
}

func (a *account) close(tb *table, desc int) api.Errno {
	s := tb.get(desc, 0)
	if s == nil {
		return api.ErrBad
	}
	inum := s.inum
	*s = slot{}
	a.held[inum]--
	if a.held[inum] > 0 {
		return api.OK
	}
	delete(a.held, inum)
	if a.things[inum].links == 0 {
		a.reclaim(inum)
	}
	return api.OK
}

func (a *account) stat(tb *table, desc int) (api.Stat, api.Errno) {
	s := tb.get(desc, 0)
	if s == nil {
		return api.Stat{}, api.ErrBad
	}
	x := a.things[s.inum]
	return api.Stat{Inum: s.inum, Kind: x.kind, Links: x.links, Size: len(x.bytes), Blocks: cost(x.mapped)}, api.OK
}

// trim is one StepTrim of a thing that is to have k blocks at most; false, if there is nothing to be given back.
func (a *account) trim(x *thing, k int) bool {
	last := x.last(k)
	if last < 0 {
		return false
	}
	g := last / 8
	maps.DeleteFunc(x.mapped, func(i int, _ bool) bool { return i >= k && i/8 == g })
	if n := max(1024*k, 8192*g); len(x.bytes) > n {
		x.size(n)
	}
	a.step(15)
	return true
}

// shorter has a thing be made shorter.
func (a *account) shorter(x *thing, size int) {
	if len(x.bytes) <= size {
		return
	}
	for a.trim(x, (size+1023)/1024) {
	}
	if len(x.bytes) > size {
		x.size(size)
		a.step(2)
	}
}

// reclaim has an orphan be free.
func (a *account) reclaim(inum int) {
	for a.trim(a.things[inum], 0) {
	}
	delete(a.things, inum)
	a.step(1)
}

// unlink has a name of the root go.
func (a *account) unlink(name string) api.Errno {
	root := a.things[1]
	for at := 32; at < len(root.bytes); at += 16 {
		e := root.bytes[at : at+16]
		if string(bytes.TrimRight(e[2:], "\x00")) != name {
			continue
		}
		inum := int(e[0]) + 256*int(e[1])
		x := a.things[inum]
		clear(e)
		x.links--
		if x.kind == api.KindDir {
			x.links = 0
			root.links--
		}
		a.step(3)
		if x.links == 0 && a.held[inum] == 0 {
			a.reclaim(inum)
		}
		return api.OK
	}
	return api.ErrNoEnt
}
