package bits_test

import (
	"iter"
	"math"
	"slices"
	"testing"

	"undercroft/api"
	"undercroft/bits"
)

// numbers are just inside and just outside of a block's ends and of its bytes, and at the ends of int.
var numbers = []int{
	math.MinInt, math.MinInt + 1, math.MinInt + 8, math.MinInt + 8191, math.MinInt + 8192, math.MinInt32, -65536, -8193, -8192, -8191, -9, -8, -7, -2, -1,
	0, 1, 2, 6, 7, 8, 9, 10, 15, 16, 17, 1023, 1024, 4095, 4096, 4100, 8183, 8184, 8185, 8190, 8191, 8192, 8193, 8199, 8200, 9000, 65535, 65536, 65545,
	math.MaxInt32, math.MaxInt - 8192, math.MaxInt - 8191, math.MaxInt - 8, math.MaxInt - 7, math.MaxInt - 6, math.MaxInt - 1, math.MaxInt,
}

// full is a block whose bits are all 1.
func full() api.Block {
	var b api.Block
	for i := range b {
		b[i] = 255
	}
	return b
}

// motley is a block whose bytes are all that there are, some noughts and some 255 in a row.
func motley() api.Block {
	var b api.Block
	for i := range b {
		b[i] = byte(i*i*37 + i*11 + 5)
	}
	copy(b[3:], []byte{255, 255, 255, 0, 0, 0, 255, 1, 128})
	copy(b[1016:], []byte{0, 0, 254, 127, 255, 0, 255, 170})
	return b
}

// holes is a block of which only the bits 0, 9, 4099 and 8191 are 0; dots has only those.
func holes() api.Block {
	b := full()
	b[0], b[1], b[512], b[1023] = 0xfe, 0xfd, 0xf7, 0x7f
	return b
}

func dots() api.Block {
	var b api.Block
	b[0], b[1], b[512], b[1023] = 1, 2, 8, 128
	return b
}

func blocks() []api.Block { return []api.Block{{}, full(), motley(), holes(), dots()} }

// bit reads a bit by the document's words: the digit of the value 2 to i mod 8, of byte i / 8.
func bit(b *api.Block, i int) int {
	digit := int(b[i/8])
	for range i % 8 {
		digit /= 2
	}
	return digit % 2
}

// spanned sorts the bits from from to to into those that are 1 and those that are 0.
func spanned(b *api.Block, from, to int) (ones, noughts []int) {
	for i := max(from, 0); i < to && i < 8192; i++ {
		if bit(b, i) == 1 {
			ones = append(ones, i)
		} else {
			noughts = append(noughts, i)
		}
	}
	return ones, noughts
}

// P2.1
func TestHas(t *testing.T) {
	for n, b := range blocks() {
		for i := range 8192 {
			if got, want := bits.Has(b, i), bit(&b, i) == 1; got != want {
				t.Errorf("block %d: Has of %d: %v", n, i, got)
			}
		}
		for _, i := range numbers {
			if (i < 0 || i > 8191) && bits.Has(b, i) {
				t.Errorf("block %d: Has of %d, which there is not", n, i)
			}
		}
	}
}

// written is what Set ought to give, by the document's words.
func written(b api.Block, i int, on bool) api.Block {
	if i < 0 || i > 8191 {
		return b
	}
	value := 1
	for range i % 8 {
		value *= 2
	}
	if was := bit(&b, i) == 1; on && !was {
		b[i/8] += byte(value)
	} else if !on && was {
		b[i/8] -= byte(value)
	}
	return b
}

// P2.1
func TestSet(t *testing.T) {
	all := slices.Clone(numbers)
	for i := range 8192 {
		all = append(all, i)
	}
	for n, b := range blocks() {
		was := b
		for _, i := range all {
			for _, on := range []bool{false, true} {
				if bits.Set(b, i, on) != written(b, i, on) {
					t.Errorf("block %d: Set of %d to %v", n, i, on)
				}
			}
		}
		if b != was {
			t.Errorf("block %d: it was handed in and has changed", n)
		}
	}
}

// spans calls check for each span whose ends are among the numbers, and for each that lies about the block's first or last bytes.
func spans(check func(from, to int)) {
	for _, from := range numbers {
		for _, to := range numbers {
			check(from, to)
		}
	}
	for _, start := range []int{-10, 8160} {
		for from := start; from < start+45; from++ {
			for to := start; to < start+45; to++ {
				check(from, to)
			}
		}
	}
}

// P2.1
func TestSpans(t *testing.T) {
	for n, b := range blocks() {
		spans(func(from, to int) {
			ones, noughts := spanned(&b, from, to)
			least := -1
			if len(noughts) > 0 {
				least = noughts[0]
			}
			if got := bits.First(b, from, to); got != least {
				t.Errorf("block %d: First from %d to %d: %d, not %d", n, from, to, got, least)
			}
			if got := bits.Count(b, from, to); got != len(ones) {
				t.Errorf("block %d: Count from %d to %d: %d, not %d", n, from, to, got, len(ones))
			}
			all := bits.All(b, from, to)
			if all == nil {
				t.Fatalf("block %d: All from %d to %d is nil", n, from, to)
			}
			if got := slices.Collect(all); !slices.Equal(got, ones) {
				t.Errorf("block %d: All from %d to %d gives %d numbers, not these %d, rising", n, from, to, len(got), len(ones))
			}
		})
	}
}

// Each byte's value is told apart, in the middle of a span and cut by its ends.
func TestEachByte(t *testing.T) {
	for v := range 256 {
		var b api.Block
		for i := range 4 {
			b[i] = byte(v)
		}
		for from := range 17 {
			for to := range 25 {
				ones, noughts := spanned(&b, from, to)
				if got := slices.Collect(bits.All(b, from, to)); !slices.Equal(got, ones) || bits.Count(b, from, to) != len(ones) {
					t.Fatalf("bytes %d: All from %d to %d gives %v, not %v", v, from, to, got, ones)
				}
				if got := bits.First(b, from, to); len(noughts) > 0 && got != noughts[0] || len(noughts) == 0 && got != -1 {
					t.Fatalf("bytes %d: First from %d to %d: %d", v, from, to, got)
				}
			}
		}
	}
}

// P2.1: All may be stopped wherever it is, and gone over again.
func TestAllStoppedAndAgain(t *testing.T) {
	for n, b := range blocks() {
		ones, _ := spanned(&b, -5, 9000)
		all := bits.All(b, -5, 9000)
		for _, stop := range []int{1, 2, 3, 7, 8, 9, 100} {
			var got []int
			for i := range all {
				if got = append(got, i); len(got) == stop {
					break
				}
			}
			if want := ones[:min(stop, len(ones))]; !slices.Equal(got, want) {
				t.Errorf("block %d: stopped behind %d: %v, not %v", n, stop, got, want)
			}
			if !slices.Equal(slices.Collect(all), ones) {
				t.Errorf("block %d: not the same behind a stop", n)
			}
		}
	}
}

// P2.1: once stopped, All asks no further.
func TestAllIsStopped(t *testing.T) {
	asked := 0
	bits.All(full(), 0, 8192)(func(int) bool {
		asked++
		return asked < 13
	})
	if asked != 13 {
		t.Errorf("asked %d times, not 13", asked)
	}
}

// P2.1: two goings over do not know of each other, nor of what becomes of the block.
func TestAllStandsAlone(t *testing.T) {
	b := dots()
	all := bits.All(b, 0, 8192)
	b = full()
	next, stop := iter.Pull(all)
	defer stop()
	for _, want := range []int{0, 9, 4099, 8191} {
		if inner := slices.Collect(all); !slices.Equal(inner, []int{0, 9, 4099, 8191}) {
			t.Fatalf("within another: %v", inner)
		}
		if got, ok := next(); !ok || got != want {
			t.Fatalf("%d, not %d", got, want)
		}
	}
	if _, ok := next(); ok {
		t.Error("it goes on behind the last one")
	}
	if b != full() {
		t.Error("the block has changed")
	}
}

// P2.2
func TestOneBitIsSet(t *testing.T) {
	for n, b := range blocks() {
		for _, i := range numbers {
			for _, on := range []bool{false, true} {
				c := bits.Set(b, i, on)
				for j := range 8192 {
					want := bits.Has(b, j)
					if j == i {
						want = on
					}
					if bits.Has(c, j) != want {
						t.Fatalf("block %d: Set of %d to %v: bit %d", n, i, on, j)
					}
				}
				for _, j := range numbers {
					if (j < 0 || j > 8191) && bits.Has(c, j) {
						t.Fatalf("block %d: Set of %d to %v: bit %d, which there is not", n, i, on, j)
					}
				}
			}
		}
	}
}

// P2.3
func TestSpansAddUp(t *testing.T) {
	ends := slices.Clone(numbers)
	slices.Sort(ends)
	for n, b := range blocks() {
		for x, from := range ends {
			for y, middle := range ends[x:] {
				left := bits.Count(b, from, middle)
				given := 0
				for range bits.All(b, from, middle) {
					given++
				}
				if left != given {
					t.Errorf("block %d: Count from %d to %d: %d, All gives %d", n, from, middle, left, given)
				}
				for _, to := range ends[x+y:] {
					if right, whole := bits.Count(b, middle, to), bits.Count(b, from, to); left+right != whole {
						t.Errorf("block %d: Count from %d by %d to %d: %d and %d, not %d", n, from, middle, to, left, right, whole)
					}
				}
			}
		}
	}
}

// P2.4
func TestFirstIsTheLeast(t *testing.T) {
	for n, b := range blocks() {
		spans(func(from, to int) {
			first := bits.First(b, from, to)
			next := max(from, 0)
			for i := range bits.All(b, from, to) {
				if i != next {
					break
				}
				next++
			}
			if next >= min(to, 8192) {
				next = -1
			}
			if first != next {
				t.Errorf("block %d: First from %d to %d: %d, not %d", n, from, to, first, next)
			}
		})
	}
}

// A block is filled bit by bit: First tells each in turn, then none.
func TestFilledByFirst(t *testing.T) {
	var b api.Block
	for i := range 8192 {
		if got := bits.First(b, 0, 8192); got != i {
			t.Fatalf("First of a block with %d bits: %d", i, got)
		}
		b = bits.Set(b, i, true)
	}
	if b != full() || bits.First(b, math.MinInt, math.MaxInt) != -1 {
		t.Error("a full block")
	}
}

// The chapter's examples, as they stand there.
func TestExamples(t *testing.T) {
	b := bits.Set(api.Block{}, 9, true)
	if b != (api.Block{1: 2}) {
		t.Error("Set of 9")
	}
	if !bits.Has(b, 9) || bits.Has(b, 8) || bits.Has(b, 8192) || bits.Has(b, -1) {
		t.Error("Has")
	}
	if bits.First(b, 0, 8192) != 0 || bits.First(b, 9, 8192) != 10 || bits.First(b, 9, 10) != -1 || bits.First(b, -5, 1) != 0 {
		t.Error("First")
	}
	if bits.Count(full(), 0, 8192) != 8192 || bits.Count(full(), 10, 5) != 0 || bits.Count(full(), -8, 3) != 3 || bits.Count(full(), 8190, 9000) != 2 {
		t.Error("Count")
	}
	if !slices.Equal(slices.Collect(bits.All(b, 0, 8192)), []int{9}) || len(slices.Collect(bits.All(b, 10, 8192))) != 0 {
		t.Error("All")
	}
}
