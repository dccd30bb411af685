package tree_test

import (
	"slices"
	"strconv"
	"testing"

	"undercroft/api"
)

// stepRow is a call, what is done ahead of it, and the reservations of the steps that it takes.
type stepRow struct {
	before []api.Call
	call   api.Call
	steps  []int
}

// ahead is what is done ahead of the call, such that the group has n blocks.
func (r stepRow) ahead(n int) []api.Call {
	calls := append(slices.Clone(r.before), syncing())
	if n > 0 {
		calls = append(calls, crowds(n))
	}
	return calls
}

func stepRows() map[string]stepRow {
	calls := func(l ...api.Call) []api.Call { return l }
	return map[string]stepRow{
		"create":                        {nil, opening("/new", nu), []int{api.StepCreate}},
		"create in a directory":         {nil, opening("/h/new", wr|cr|ex|tr), []int{api.StepCreate}},
		"create, a slot taken again":    {nil, opening("/j/new", nu), []int{api.StepCreate}},
		"create, a block more":          {nil, opening("/full/new", nu), []int{api.StepCreate}},
		"open":                          {nil, opening("/b", rw), nil},
		"open with FlagCreate":          {nil, opening("/b", nu), nil},
		"open, made shorter":            {nil, opening("/b", wr|tr), []int{api.StepTrim}},
		"open, made shorter twice":      {nil, opening("/c", nu|tr), []int{api.StepTrim, api.StepTrim}},
		"open of an empty file":         {nil, opening("/a", wr|tr), nil},
		"write":                         {calls(opening("/b", rw)), writing(0, sown(1, 5000)), []int{api.StepWrite}},
		"write, three pieces":           {calls(opening("/a", rw)), writing(0, sown(1, 20000)), []int{api.StepWrite, api.StepWrite, api.StepWrite}},
		"write of nothing":              {calls(opening("/a", rw)), writing(0, nil), nil},
		"shorter":                       {calls(opening("/b", rw)), truncating(0, 100), []int{api.StepTrim, api.StepSize}},
		"shorter by a bit":              {calls(opening("/b", rw)), truncating(0, 2999), []int{api.StepSize}},
		"shorter, at a hole":            {calls(opening("/c", rw)), truncating(0, 5000), []int{api.StepTrim, api.StepSize}},
		"longer":                        {calls(opening("/b", rw)), truncating(0, 9000), []int{api.StepSize}},
		"as long":                       {calls(opening("/b", rw)), truncating(0, 3000), nil},
		"mkdir":                         {nil, making("/new"), []int{api.StepMkdir}},
		"mkdir in a directory":          {nil, making("/d/e/new"), []int{api.StepMkdir}},
		"mkdir, a slot taken again":     {nil, making("/j/new"), []int{api.StepMkdir}},
		"mkdir, a block more":           {nil, making("/full/new"), []int{api.StepMkdir}},
		"link":                          {nil, linking("/b", "/d/new"), []int{api.StepLink}},
		"link, a slot taken again":      {nil, linking("/b", "/j/new"), []int{api.StepLink}},
		"link, a block more":            {nil, linking("/b", "/full/new"), []int{api.StepLink}},
		"unlink of one of two names":    {nil, unlinking("/g"), []int{api.StepUnlink}},
		"unlink":                        {nil, unlinking("/a"), []int{api.StepUnlink, api.StepFree}},
		"unlink of blocks":              {nil, unlinking("/c"), []int{api.StepUnlink, api.StepTrim, api.StepTrim, api.StepFree}},
		"unlink of a directory":         {nil, unlinking("/h"), []int{api.StepUnlink, api.StepTrim, api.StepFree}},
		"unlink in a directory":         {nil, unlinking("/d/e/i"), []int{api.StepUnlink, api.StepTrim, api.StepFree}},
		"unlink, held":                  {calls(opening("/c", rd)), unlinking("/c"), []int{api.StepUnlink}},
		"unlink of a directory, held":   {calls(opening("/h", rd)), unlinking("/h"), []int{api.StepUnlink}},
		"close of an orphan":            {calls(opening("/c", rd), unlinking("/c")), closing(0), []int{api.StepTrim, api.StepTrim, api.StepFree}},
		"close of one of two":           {calls(opening("/c", rd), opening("/c", rd), unlinking("/c")), closing(0), nil},
		"close":                         {calls(opening("/c", rd)), closing(0), nil},
		"rename":                        {nil, renaming("/b", "/new"), []int{api.StepRename}},
		"rename to another directory":   {nil, renaming("/b", "/d/e/new"), []int{api.StepRename}},
		"rename, a slot taken again":    {nil, renaming("/b", "/j/new"), []int{api.StepRename}},
		"rename, a block more":          {nil, renaming("/b", "/full/new"), []int{api.StepRename}},
		"rename within, a block more":   {nil, renaming("/full/n3", "/full/new"), []int{api.StepRename}},
		"rename of a directory":         {nil, renaming("/d", "/new"), []int{api.StepRename}},
		"rename to another parent":      {nil, renaming("/d/e", "/new"), []int{api.StepRename}},
		"rename down":                   {nil, renaming("/h", "/d/e/new"), []int{api.StepRename}},
		"rename of it, a block more":    {nil, renaming("/d/e", "/full/new"), []int{api.StepRename}},
		"rename over a file":            {nil, renaming("/b", "/a"), []int{api.StepRename, api.StepFree}},
		"rename over blocks":            {nil, renaming("/a", "/c"), []int{api.StepRename, api.StepTrim, api.StepTrim, api.StepFree}},
		"rename over one of two names":  {nil, renaming("/a", "/d/f"), []int{api.StepRename}},
		"rename over what is held":      {calls(opening("/c", rd)), renaming("/a", "/c"), []int{api.StepRename}},
		"rename over a directory":       {nil, renaming("/d", "/h"), []int{api.StepRename, api.StepTrim, api.StepFree}},
		"rename over one elsewhere":     {nil, renaming("/d/e", "/h"), []int{api.StepRename, api.StepTrim, api.StepFree}},
		"rename over one that is held":  {calls(opening("/h", rd)), renaming("/d/e", "/h"), []int{api.StepRename}},
		"rename over itself":            {nil, renaming("/b", "/d/../b"), nil},
		"rename over its other name":    {nil, renaming("/g", "/d/f"), nil},
		"rename of a directory over it": {nil, renaming("/d/e", "/d/e"), nil},
		"stat":                          {nil, stating("/d/e"), nil},
		"list":                          {nil, listing("/d"), nil},
		"read":                          {calls(opening("/c", rd)), reading(0, 65536), nil},
		"seek":                          {calls(opening("/c", rd)), seeking(0, 0, 2), nil},
	}
}

// P27.6, P10: which steps a call begins, in their order and with which reservations: that is told by the group's being committed or not, however much is in it already; and which blocks the steps write.
func TestReservations(t *testing.T) {
	t.Parallel()
	begun := full(t, town(t, small()), "/full", 64)
	for name, row := range stepRows() {
		for n := range 32 {
			x := newWorld(t, begun)
			for _, c := range row.ahead(n) {
				if got := x.answers(t, c); got.Err != api.OK {
					t.Fatalf("%s: %+v: %+v", name, shortCall(c), short(got))
				}
			}
			ahead := len(x.a.kinds)
			if got := x.answers(t, row.call); got.Err != api.OK {
				t.Fatalf("%s: %+v", name, short(got))
			}
			if !slices.Equal(x.a.kinds[ahead:], row.steps) {
				t.Fatalf("%s: the steps %v, not %v", name, x.a.kinds[ahead:], row.steps)
			}
			x.sees(t)
			x.whole(t)
		}
	}
}

// spread is a file system with four blocks of the bitmap, each of which has one free data block, or none if fewer are to be left; /deep is a directory whose next slot wants a double index block, one below it and a block; /d is a directory with a directory e in it, /deep's inode and theirs being in blocks of their own.
func spread(t testing.TB, left int) *account {
	t.Helper()
	g := api.Geometry{Blocks: 3*8192 + 900, Log: 32, Inodes: 100}
	a := empty(g)
	root := a.items[1]
	add := func(inum int, x *item, parent *item, name string) *item {
		parent.slots = append(parent.slots, api.Entry{Inum: uint16(inum), Name: name})
		a.items[inum] = x
		return x
	}
	directory := func(inum, up int, parent *item, name string) *item {
		x := add(inum, newItem(api.KindDir, 2), parent, name)
		x.slots = []api.Entry{{Inum: uint16(inum), Name: "."}, {Inum: uint16(up), Name: ".."}}
		parent.links++
		return x
	}
	filler := add(2, newItem(api.KindFile, 1), root, "filler")
	deep := directory(20, 1, root, "deep")
	d := directory(40, 1, root, "d")
	e := directory(60, 40, d, "e")
	for k := range 18 {
		x := newItem(api.KindFile, 0)
		a.items[70+k] = x
		for i := 0; i < 1000 && len(deep.slots) < 266*64; i++ {
			add(70+k, x, deep, "n"+strconv.Itoa(1000*k+i))
			x.links++
		}
	}
	// The blocks: one of each of them stays free.
	next := a.r.data + 1
	take := func() int {
		if next%8192 == 8000 || next == g.Blocks-50 {
			if left--; left >= 0 {
				next++
			}
		}
		next++
		return next - 1
	}
	d.at[0], e.at[0] = take(), take()
	for i := range 266 {
		deep.at[i] = take()
	}
	deep.tables[single] = take()
	for i := 0; next < g.Blocks; i++ {
		for _, k := range tablesOf(i) {
			if _, there := filler.tables[k]; !there {
				filler.tables[k] = take()
			}
		}
		if next < g.Blocks {
			filler.at[i] = take()
		}
	}
	filler.bytes = make([]byte, 1024*(filler.last(0)+1))
	for i := range filler.bytes {
		filler.bytes[i] = byte(1 + i%251)
	}
	return newAccount(g, a.items)
}

// P10: the greatest steps that there are, with the blocks that they take spread over the bitmap; one free block too few.
func TestGreatestSteps(t *testing.T) {
	t.Parallel()
	for left, rows := range map[int][]struct {
		call api.Call
		want api.Errno
		used int
	}{
		4: {{making("/deep/new"), api.OK, 10}, {opening("/deep/new", nu), api.OK, 8}, {linking("/deep/n17001", "/deep/new"), api.OK, 8}, {renaming("/d/e", "/deep/new"), api.OK, 10}, {renaming("/deep/n5", "/deep/new"), api.OK, 8}},
		3: {{making("/deep/new"), api.ErrNoSpace, 0}, {opening("/deep/new", nu), api.OK, 8}, {linking("/filler", "/deep/new"), api.OK, 8}, {renaming("/d", "/deep/new"), api.OK, 10}},
		2: {{making("/deep/new"), api.ErrNoSpace, 0}, {opening("/deep/new", nu), api.ErrNoSpace, 0}, {linking("/filler", "/deep/new"), api.ErrNoSpace, 0}, {renaming("/d", "/deep/new"), api.ErrNoSpace, 0}, {making("/d/new"), api.OK, 5}},
	} {
		a := spread(t, left)
		if a.free() != left {
			t.Fatalf("%d blocks are free, not %d", a.free(), left)
		}
		for _, row := range rows {
			x := newWorld(t, a)
			if got := x.answers(t, row.call); got.Err != row.want {
				t.Fatalf("%+v: %+v, not %d", shortCall(row.call), short(got), row.want)
			}
			if used := x.log().Used(); used != row.used {
				t.Errorf("%+v: %d blocks are in the group, not %d", shortCall(row.call), used, row.used)
			}
			x.whole(t)
		}
	}
}
