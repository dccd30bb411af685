package plan_test

import (
	"math"
	"math/big"
	"math/rand"
	"testing"

	"undercroft/api"
	"undercroft/plan"
)

// down is n / by, rounded down, as numbers without ends.
func down(n *big.Int, by int64) *big.Int {
	quotient, _ := new(big.Int).DivMod(n, big.NewInt(by), new(big.Int))
	return quotient
}

// blocksOf is Blocks by the chapter's words.
func blocksOf(size int) int {
	if size < 1 {
		return 0
	}
	return int(down(sum(size, 1023), 1024).Int64())
}

// groupOf is Group by the chapter's words.
func groupOf(index int) int {
	if index < 0 {
		return -1
	}
	return int(down(big.NewInt(int64(index)), 8).Int64())
}

// anyNumbers are numbers beside multiples of what Blocks and Group go by, beside powers of two, and the greatest and least.
func anyNumbers() []int {
	l := ends()
	for i := -3; i < 200; i++ {
		l = append(l, beside(8*i)...)
		l = append(l, beside(1024*i)...)
		l = append(l, beside(cut*i)...)
	}
	for power := 1; power <= math.MaxInt/2; power *= 2 {
		l = append(l, beside(power)...)
		l = append(l, beside(-power)...)
	}
	for i := range 3000 {
		l = append(l, math.MaxInt-i, math.MinInt+i)
	}
	r := rand.New(rand.NewSource(2))
	for range 10000 {
		l = append(l, int(r.Uint64()))
	}
	return l
}

// P13.2: Blocks of any number.
func TestBlocks(t *testing.T) {
	for _, size := range anyNumbers() {
		if n := plan.Blocks(size); n != blocksOf(size) {
			t.Errorf("Blocks(%d): %d, not %d", size, n, blocksOf(size))
		}
	}
}

// P13.2: Group of any number.
func TestGroup(t *testing.T) {
	for _, index := range anyNumbers() {
		if g := plan.Group(index); g != groupOf(index) {
			t.Errorf("Group(%d): %d, not %d", index, g, groupOf(index))
		}
	}
}

// Chapter 13's examples of Blocks and Group; and both at the ends, where int has 64 bits or 32.
func TestBlocksAndGroupExamples(t *testing.T) {
	for _, c := range [][2]int{{0, 0}, {1, 1}, {1024, 1}, {1025, 2}, {-5, 0}, {math.MinInt, 0}, {math.MaxInt, math.MaxInt/1024 + 1}, {fileEnd, indexEnd}, {fileEnd + 1, indexEnd + 1}} {
		if n := plan.Blocks(c[0]); n != c[1] {
			t.Errorf("Blocks(%d): %d, not %d", c[0], n, c[1])
		}
	}
	if math.MaxInt == math.MaxInt64 && int64(plan.Blocks(math.MaxInt)) != 1<<53 {
		t.Errorf("of 2^63 - 1 bytes: %d blocks", plan.Blocks(math.MaxInt))
	}
	for _, c := range [][2]int{{7, 0}, {8, 1}, {-1, -1}, {0, 0}, {15, 1}, {16, 2}, {-8, -1}, {-9, -1}, {math.MinInt, -1}, {math.MaxInt, math.MaxInt / 8}, {indexEnd - 1, 8225}} {
		if g := plan.Group(c[0]); g != c[1] {
			t.Errorf("Group(%d): %d, not %d", c[0], g, c[1])
		}
	}
}

// P13.2: so many blocks have room for that many bytes, and one fewer has not.
func TestBlocksAreEnough(t *testing.T) {
	for size := 1; size < 50000; size++ {
		if n := plan.Blocks(size); n*1024 < size || (n-1)*1024 >= size {
			t.Fatalf("%d bytes: %d blocks", size, n)
		}
	}
}

// ways are all ways by the chapter's words, in the order of their indices.
func ways() []api.Way {
	var l []api.Way
	for i := range 10 {
		l = append(l, api.Way{Depth: 1, First: i})
	}
	for i := range 256 {
		l = append(l, api.Way{Depth: 2, First: i})
	}
	for i := range 256 {
		for j := range 256 {
			l = append(l, api.Way{Depth: 3, First: i, Second: j})
		}
	}
	return l
}

// P13.3: each index's way.
func TestWayOfEachIndex(t *testing.T) {
	l := ways()
	if len(l) != indexEnd {
		t.Fatalf("%d ways", len(l))
	}
	for index, want := range l {
		if w := plan.Way(index); w != want {
			t.Fatalf("Way(%d): %+v, not %+v", index, w, want)
		}
	}
}

// Chapter 13's examples of Way, and what stands beside where a way begins.
func TestWayExamples(t *testing.T) {
	for _, c := range []struct {
		index int
		want  api.Way
	}{
		{-1, api.Way{}}, {0, api.Way{Depth: api.DepthDirect}},
		{9, api.Way{Depth: api.DepthDirect, First: 9}}, {10, api.Way{Depth: api.DepthSingle}},
		{265, api.Way{Depth: api.DepthSingle, First: 255}}, {266, api.Way{Depth: api.DepthDouble}},
		{521, api.Way{Depth: api.DepthDouble, Second: 255}}, {522, api.Way{Depth: api.DepthDouble, First: 1}},
		{65801, api.Way{Depth: api.DepthDouble, First: 255, Second: 255}}, {65802, api.Way{}},
	} {
		if w := plan.Way(c.index); w != c.want {
			t.Errorf("Way(%d): %+v, not %+v", c.index, w, c.want)
		}
	}
}

// P13.3: what is no index has the zero Way: below 0, behind the last one, and far beyond.
func TestWayOfNoIndex(t *testing.T) {
	for _, index := range anyNumbers() {
		if index >= 0 && index < indexEnd {
			continue
		}
		if w := plan.Way(index); w != (api.Way{}) {
			t.Errorf("Way(%d): %+v", index, w)
		}
	}
	for i := range 70000 {
		if w := plan.Way(-1 - i); w != (api.Way{}) {
			t.Fatalf("Way(%d): %+v", -1-i, w)
		}
		if w := plan.Way(indexEnd + i); w != (api.Way{}) {
			t.Fatalf("Way(%d): %+v", indexEnd+i, w)
		}
	}
}

// P13.5: no two indices have one way.
func TestNoTwoIndicesHaveOneWay(t *testing.T) {
	met := map[api.Way]int{}
	for index := range indexEnd {
		w := plan.Way(index)
		if other, twice := met[w]; twice {
			t.Fatalf("Way(%d) and Way(%d): %+v", other, index, w)
		}
		met[w] = index
	}
}
