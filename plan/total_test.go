package plan_test

import (
	"math"
	"math/rand"
	"slices"
	"testing"

	"undercroft/plan"
)

// cost is Total by the chapter's words, reckoned from the indices in order, without sets and without ways.
func cost(indices []int) int {
	l := slices.Clone(indices)
	slices.Sort(l)
	l = slices.Compact(l)
	n, single, place := 0, false, -1
	for _, index := range l {
		if index < 0 || index >= 65802 {
			continue
		}
		n++
		if index >= 10 && index < 266 && !single {
			single = true
			n++
		}
		if index < 266 {
			continue
		}
		if place < 0 {
			n++
		}
		if p := (index - 266) / 256; p != place {
			place = p
			n++
		}
	}
	return n
}

// holdTotal holds Total against the words, and what is handed in against what it was, its spare room too.
func holdTotal(t *testing.T, indices []int) {
	t.Helper()
	spare := []int{-77, 5, 300}
	given := append(slices.Clone(indices), spare...)[:len(indices)]
	if n := plan.Total(given); n != cost(indices) {
		t.Errorf("Total of %v: %d, not %d", indices, n, cost(indices))
	}
	if !slices.Equal(given, indices) || !slices.Equal(given[len(given):len(given)+len(spare)], spare) {
		t.Errorf("Total of %v changed it to %v", indices, given[:len(given)+len(spare)])
	}
}

// Chapter 13's examples of Total.
func TestTotalExamples(t *testing.T) {
	for _, c := range []struct {
		indices []int
		want    int
	}{
		{nil, 0}, {[]int{}, 0}, {[]int{0, 0, 9}, 2}, {[]int{10}, 2}, {[]int{9, 10, 11}, 4},
		{[]int{266}, 3}, {[]int{521, 522}, 5}, {[]int{-1}, 0},
	} {
		if n := plan.Total(c.indices); n != c.want {
			t.Errorf("Total of %v: %d, not %d", c.indices, n, c.want)
		}
		if n := cost(c.indices); n != c.want {
			t.Errorf("%v cost %d here, not %d", c.indices, n, c.want)
		}
	}
}

// noIndices are numbers that are no index, beside the indices, and far from them, where they would be one if they wrapped round.
func noIndices() []int {
	l := []int{-1, -2, -8, -10, -256, -266, 65802, 65803, 65804, 66058, 66059, 66060, 131604, math.MaxInt, math.MaxInt - 1, math.MinInt, math.MinInt + 1, math.MinInt + 266, math.MaxInt32, math.MinInt32}
	for i := range 300 {
		l = append(l, 65802+i, -1-i)
	}
	return l
}

// P13.4: each index by itself, and several times.
func TestTotalOfOne(t *testing.T) {
	for index := range indexEnd {
		want := 1
		if index >= 10 {
			want = 2
		}
		if index >= 266 {
			want = 3
		}
		if n := plan.Total([]int{index}); n != want {
			t.Fatalf("Total of %d: %d", index, n)
		}
		if n := plan.Total([]int{index, index, index}); n != want {
			t.Fatalf("Total of %d three times: %d", index, n)
		}
	}
}

// P13.4: what is no index counts for nothing, by itself and among others.
func TestTotalOfNoIndex(t *testing.T) {
	if n := plan.Total(noIndices()); n != 0 {
		t.Errorf("Total of none but such as are no index: %d", n)
	}
	for _, wrong := range noIndices() {
		for _, indices := range [][]int{nil, {0}, {10}, {266}, {65801}, {9, 10, 266, 522}} {
			for at := range len(indices) + 1 {
				l := slices.Insert(slices.Clone(indices), at, wrong)
				if n := plan.Total(l); n != cost(indices) {
					t.Errorf("Total of %v: %d", l, n)
				}
				holdTotal(t, l)
			}
		}
	}
}

// edges are indices beside where ways, and places of the double index block, begin.
func edges() []int {
	return []int{0, 1, 8, 9, 10, 11, 264, 265, 266, 267, 520, 521, 522, 523, 777, 778, 65545, 65546, 65800, 65801}
}

// P13.4: every two and every three of the edges, in either order.
func TestTotalOfEdges(t *testing.T) {
	for _, a := range edges() {
		for _, b := range edges() {
			holdTotal(t, []int{a, b})
			for _, c := range edges() {
				holdTotal(t, []int{a, b, c})
			}
		}
	}
}

// P13.4: indices in a row, as long as a step's and longer, over every edge.
func TestTotalOfRows(t *testing.T) {
	for _, edge := range edges() {
		for _, n := range []int{1, 2, 8, 16, 256, 257, 600} {
			for first := edge - min(n, 20); first <= edge; first++ {
				l := make([]int, n)
				for i := range l {
					l[i] = first + i
				}
				holdTotal(t, l)
			}
		}
	}
}

// P13.4: by several places of the double index block: all of them, once by one index each, and then with one more.
func TestTotalOfPlaces(t *testing.T) {
	var l []int
	for place := range 256 {
		l = append(l, 266+256*place+place)
		if n := plan.Total(l); n != 1+2*(place+1) {
			t.Fatalf("by %d places: %d", place+1, n)
		}
	}
	for place := range 256 {
		more := append(slices.Clone(l), 266+256*place+255-place)
		if n := plan.Total(more); n != 1+2*256+1 {
			t.Errorf("one more at place %d: %d", place, n)
		}
	}
}

// P13.4: the greatest file, whole, forwards, backwards, and twice with what is no index among it.
func TestTotalOfTheWhole(t *testing.T) {
	all := make([]int, indexEnd)
	for i := range all {
		all[i] = i
	}
	back := slices.Clone(all)
	slices.Reverse(back)
	const want = 65802 + 1 + 1 + 256
	for _, l := range [][]int{all, back, slices.Concat(all, noIndices(), back)} {
		if n := plan.Total(l); n != want {
			t.Errorf("of %d numbers: %d, not %d", len(l), n, want)
		}
	}
}

// someIndices are indices, some beside the edges and some anywhere, and a few that are none.
func someIndices(r *rand.Rand, n int) []int {
	l := make([]int, n)
	for i := range l {
		switch r.Intn(6) {
		case 0:
			l[i] = r.Intn(12) - 1
		case 1:
			l[i] = r.Intn(270)
		case 2:
			l[i] = edges()[r.Intn(len(edges()))]
		case 3:
			l[i] = 266 + 256*r.Intn(3) + r.Intn(256)
		case 4:
			l[i] = r.Intn(indexEnd + 2)
		default:
			l[i] = int(r.Uint64()) >> r.Intn(60)
		}
	}
	return l
}

// P13.4: indices wherever they are, in any order: as they come, sorted, turned about and mixed, they cost the same.
func TestTotalInAnyOrder(t *testing.T) {
	r := rand.New(rand.NewSource(4))
	for range 2000 {
		l := someIndices(r, r.Intn(60))
		holdTotal(t, l)
		for range 3 {
			r.Shuffle(len(l), func(i, j int) { l[i], l[j] = l[j], l[i] })
			holdTotal(t, l)
		}
		slices.Sort(l)
		holdTotal(t, l)
		slices.Reverse(l)
		holdTotal(t, l)
	}
}

// P13.5: Total of more indices is not less, and at most three more for each further one.
func TestTotalOfMore(t *testing.T) {
	r := rand.New(rand.NewSource(5))
	for range 500 {
		l := someIndices(r, 40)
		fewer := 0
		for i := range l {
			more := plan.Total(l[:i+1])
			if more < fewer || more > fewer+3 {
				t.Fatalf("Total of %v: %d, without the last %d", l[:i+1], more, fewer)
			}
			fewer = more
		}
		at := r.Intn(len(l))
		if n := plan.Total(slices.Delete(slices.Clone(l), at, at+1)); n > fewer || n < fewer-3 {
			t.Fatalf("Total of %v: %d, without that at %d %d", l, fewer, at, n)
		}
	}
}

// P1: asked again, Total answers the same: nothing is kept.
func TestTotalKeepsNothing(t *testing.T) {
	l := someIndices(rand.New(rand.NewSource(6)), 500)
	want := cost(l)
	for range 20 {
		if n := plan.Total(l); n != want {
			t.Fatalf("%d, not %d", n, want)
		}
		plan.Total([]int{1, 20, 300, 4000})
	}
}
