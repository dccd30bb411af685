package tree_test

import (
	"bytes"
	"maps"
	"slices"

	"undercroft/api"
)

// The index blocks of an item: the single one and the double one; those below that are numbered from 0 on.
const (
	single = -1
	double = -2
)

// item is an inode by the document's words, and where it lies.
type item struct {
	kind   api.Kind
	links  int
	bytes  []byte      // of a file
	slots  []api.Entry // of a directory
	at     map[int]int // of each index that is mapped, its block
	tables map[int]int // of each index block that there is, its block
}

func newItem(kind api.Kind, links int) *item {
	return &item{kind: kind, links: links, at: map[int]int{}, tables: map[int]int{}}
}

func (x *item) isDir() bool { return x.kind == api.KindDir }

func (x *item) size() int { return len(x.bytes) + 16*len(x.slots) }

// resize has a file have so many bytes, noughts where there were none, or a directory as few slots.
func (x *item) resize(n int) {
	if x.isDir() {
		x.slots = slices.Clone(x.slots[:n/16])
		return
	}
	if n <= len(x.bytes) {
		x.bytes = slices.Clone(x.bytes[:n])
		return
	}
	x.bytes = append(x.bytes, make([]byte, n-len(x.bytes))...)
}

// tablesOf are the index blocks that an index wants, from above.
func tablesOf(index int) []int {
	switch {
	case index < 10:
		return nil
	case index < 266:
		return []int{single}
	}
	return []int{double, (index - 266) / 256}
}

// needs is how many blocks must be taken so that some indices are mapped.
func (x *item) needs(indices ...int) int {
	missing := map[int]bool{}
	n := 0
	for _, i := range indices {
		if _, ok := x.at[i]; ok {
			continue
		}
		n++
		for _, k := range tablesOf(i) {
			if _, ok := x.tables[k]; !ok {
				missing[k] = true
			}
		}
	}
	return n + len(missing)
}

// last is the greatest index that is mapped, from one on; -1: there is none.
func (x *item) last(from int) int {
	last := -1
	for i := range x.at {
		if i >= from {
			last = max(last, i)
		}
	}
	return last
}

func (x *item) copied() *item {
	return &item{x.kind, x.links, slices.Clone(x.bytes), slices.Clone(x.slots), maps.Clone(x.at), maps.Clone(x.tables)}
}

func copied(items map[int]*item) map[int]*item {
	out := map[int]*item{}
	for inum, x := range items {
		out[inum] = x.copied()
	}
	return out
}

// likeItem tells whether both are the same, wherever they lie.
func likeItem(x, y *item) bool {
	return x.kind == y.kind && x.links == y.links && bytes.Equal(x.bytes, y.bytes) && slices.Equal(x.slots, y.slots) && likeKeys(x.at, y.at) && likeKeys(x.tables, y.tables)
}

func likeKeys(a, b map[int]int) bool {
	return maps.EqualFunc(a, b, func(int, int) bool { return true })
}

func likeItems(a, b map[int]*item) bool { return maps.EqualFunc(a, b, likeItem) }

// desc is a descriptor.
type desc struct {
	open  bool
	inum  int
	flags int
	place int
}

// account is what the document says of a system: what there is and where it lies, what is held, and what was written.
type account struct {
	g       api.Geometry
	r       regions
	items   map[int]*item
	used    []bool // of each block
	least   int    // no block below is free
	held    map[int]int
	descs   [16]desc
	group   map[int]bool // the blocks that were changed since the last commit
	changed map[int]bool // those that the step has changed
	groups  [][]int      // those of each commit, rising
	behind  []int        // as many steps each commit comes behind
	steps   int
	kinds   []int // the reservation of each step
	made    int   // writes and barriers
	bound   int   // as many of them as P10 allows
	keeps   bool
	states  []map[int]*item // behind each step, if they are kept
}

// empty is the account of an empty file system.
func empty(g api.Geometry) *account {
	root := newItem(api.KindDir, 2)
	root.slots = []api.Entry{{Inum: 1, Name: "."}, {Inum: 1, Name: ".."}}
	root.at[0] = where(g).data
	return newAccount(g, map[int]*item{1: root})
}

// newAccount is the account of a system that was just opened.
func newAccount(g api.Geometry, items map[int]*item) *account {
	a := &account{g: g, r: where(g), items: copied(items), used: make([]bool, g.Blocks), held: map[int]int{}, group: map[int]bool{}}
	a.least = a.r.data
	for i := range a.r.data {
		a.used[i] = true
	}
	for _, x := range a.items {
		for _, at := range x.at {
			a.used[at] = true
		}
		for _, at := range x.tables {
			a.used[at] = true
		}
	}
	return a
}

// again is the account of what a mounting finds, nothing being lost: without orphans.
func (a *account) again() *account { return newAccount(a.g, named(a.items)) }

// named are the items that have names.
func named(items map[int]*item) map[int]*item {
	out := maps.Clone(items)
	maps.DeleteFunc(out, func(_ int, x *item) bool { return x.links == 0 })
	return out
}

func (a *account) free() int {
	n := 0
	for _, used := range a.used {
		if !used {
			n++
		}
	}
	return n
}

func (a *account) spare() int { return a.g.Inodes - len(a.items) }

// step does something as a step of a reservation.
func (a *account) step(r int, do func()) {
	if len(a.group)+r > a.g.Log-1 {
		a.commit()
	}
	a.changed = map[int]bool{}
	do()
	if len(a.changed) > r {
		panic("P10: a step that changes more blocks than its reservation says")
	}
	maps.Copy(a.group, a.changed)
	a.steps++
	a.kinds = append(a.kinds, r)
	a.bound += 2*r + 6
	if a.keeps {
		a.states = append(a.states, copied(a.items))
	}
}

// commit has the group stand on the disk.
func (a *account) commit() {
	if len(a.group) > 0 {
		a.groups = append(a.groups, slices.Sorted(maps.Keys(a.group)))
		a.behind = append(a.behind, a.steps)
		a.made += 2*len(a.group) + 6
		a.group = map[int]bool{}
	}
}

// touch has the step write a block.
func (a *account) touch(at int) { a.changed[at] = true }

func (a *account) touchNode(inum int) { a.touch(a.r.nodes + inum/16) }

func (a *account) touchBit(at int) { a.touch(a.r.bits + at/8192) }

// take takes the least block that is free.
func (a *account) take() int {
	for a.used[a.least] {
		a.least++
	}
	at := a.least
	a.used[at] = true
	a.touchBit(at)
	a.touch(at)
	return at
}

func (a *account) give(at int) {
	a.used[at] = false
	a.least = min(a.least, at)
	a.touchBit(at)
}

// takeNode has the least free inode be an item.
func (a *account) takeNode(x *item) int {
	inum := 1
	for a.items[inum] != nil {
		inum++
	}
	a.items[inum] = x
	a.touchNode(inum)
	return inum
}

// mapIndex has an index be mapped, and tells its block.
func (a *account) mapIndex(inum, index int) int {
	x := a.items[inum]
	if at, ok := x.at[index]; ok {
		return at
	}
	above := 0
	for _, k := range tablesOf(index) {
		if _, ok := x.tables[k]; !ok {
			x.tables[k] = a.take()
			if above > 0 {
				a.touch(above)
			}
		}
		above = x.tables[k]
	}
	x.at[index] = a.take()
	if above > 0 {
		a.touch(above)
	}
	a.touchNode(inum)
	return x.at[index]
}

// set lays an entry into a slot of a directory.
func (a *account) set(dir, slot int, e api.Entry) {
	x := a.items[dir]
	a.touch(a.mapIndex(dir, slot/64))
	if slot == len(x.slots) {
		x.slots = append(x.slots, api.Entry{})
		a.touchNode(dir)
	}
	x.slots[slot] = e
}

// link has an inode have so many links more.
func (a *account) link(inum, more int) {
	a.items[inum].links += more
	a.touchNode(inum)
}

// lose takes the name away that an inode has in a directory.
func (a *account) lose(inum, dir int) {
	if a.items[inum].isDir() {
		a.link(inum, -a.items[inum].links)
		a.link(dir, -1)
		return
	}
	a.link(inum, -1)
}

// trim is one StepTrim of an inode that is to have k blocks at most; false, if there is nothing to be given back.
func (a *account) trim(inum, k int) bool {
	x := a.items[inum]
	last := x.last(k)
	if last < 0 {
		return false
	}
	a.step(15, func() {
		lost := map[int]bool{} // index blocks from which a number went
		g := last / 8
		for i := 8 * g; i < 8*g+8; i++ {
			if at, ok := x.at[i]; ok && i >= k {
				a.give(at)
				delete(x.at, i)
				for _, k := range tablesOf(i) {
					lost[k] = k != double
				}
			}
		}
		a.dropTables(x, lost)
		if n := max(1024*k, 8192*g); x.size() > n {
			x.resize(n)
		}
		a.touchNode(inum)
	})
	return true
}

// dropTables gives the index blocks back in which no number is left, of those from which one went.
func (a *account) dropTables(x *item, lost map[int]bool) {
	left := map[int]bool{}
	for i := range x.at {
		for _, k := range tablesOf(i) {
			left[k] = true
		}
	}
	for _, k := range slices.Backward(slices.Sorted(maps.Keys(lost))) { // the double one behind those below it
		switch {
		case !left[k]:
			a.give(x.tables[k])
			delete(x.tables, k)
			if k >= 0 {
				lost[double] = true
			}
		case lost[k]:
			a.touch(x.tables[k])
		}
	}
}

// shorter has a file be made shorter.
func (a *account) shorter(inum, size int) {
	if a.items[inum].size() <= size {
		return
	}
	for a.trim(inum, (size+1023)/1024) {
	}
	if a.items[inum].size() > size {
		a.resize(inum, size)
	}
}

// resize is one StepSize.
func (a *account) resize(inum, size int) {
	a.step(2, func() {
		x := a.items[inum]
		a.touchNode(inum)
		if at, ok := x.at[size/1024]; ok && size < x.size() && size%1024 > 0 {
			a.touch(at)
		}
		x.resize(size)
	})
}

// release reclaims what has no name and is not held.
func (a *account) release(inum int) {
	if a.items[inum].links > 0 || a.held[inum] > 0 {
		return
	}
	for a.trim(inum, 0) {
	}
	a.step(1, func() {
		delete(a.items, inum)
		a.touchNode(inum)
	})
}
