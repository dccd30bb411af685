package plan_test

import (
	"math"
	"math/big"
	"math/rand"
	"slices"
	"testing"

	"undercroft/api"
	"undercroft/plan"
)

// The numbers of the chapter, written out, so that they do not go by those of the program.
const (
	cut      = 8192     // a piece ends at each multiple of it
	fileEnd  = 67381248 // the bytes of the greatest file
	indexEnd = 65802    // the indices of the greatest file
)

// sum is at and n, as numbers without ends.
func sum(at, n int) *big.Int { return new(big.Int).Add(big.NewInt(int64(at)), big.NewInt(int64(n))) }

// mayBe tells whether a file may have the n bytes from at on.
func mayBe(at, n int) bool { return at >= 0 && n >= 1 && sum(at, n).Cmp(big.NewInt(fileEnd)) <= 0 }

// cutUp are the pieces by the chapter's words, byte by byte: a new one begins at the first byte and at each multiple.
func cutUp(at, n int) []api.Piece {
	if !mayBe(at, n) {
		return nil
	}
	var l []api.Piece
	for p := at; p < at+n; p++ {
		if p == at || p%cut == 0 {
			l = append(l, api.Piece{At: p})
		}
		l[len(l)-1].Len++
	}
	return l
}

// lieRight holds what follows of P13.1 (P13.5): one behind the other from at to at + n, none empty, each within one group of eight indices.
func lieRight(t *testing.T, at, n int, l []api.Piece) {
	t.Helper()
	p := at
	for _, piece := range l {
		if piece.At != p || piece.Len < 1 {
			t.Fatalf("Pieces(%d, %d): %+v where a piece from %d on belongs", at, n, piece, p)
		}
		p += piece.Len
		if first, last := piece.At/1024, (p-1)/1024; first/8 != last/8 || plan.Group(first) != plan.Group(last) {
			t.Fatalf("Pieces(%d, %d): %+v is in two groups", at, n, piece)
		}
		if p != at+n && p%cut != 0 {
			t.Fatalf("Pieces(%d, %d): %+v ends at no multiple", at, n, piece)
		}
	}
	if p != at+n {
		t.Fatalf("Pieces(%d, %d): they end at %d", at, n, p)
	}
}

// holdPieces holds Pieces against the words.
func holdPieces(t *testing.T, at, n int) {
	t.Helper()
	l := plan.Pieces(at, n)
	if want := cutUp(at, n); !slices.Equal(l, want) {
		t.Fatalf("Pieces(%d, %d): %v, not %v", at, n, l, want)
	}
	if mayBe(at, n) {
		lieRight(t, at, n, l)
	}
}

// Chapter 13's examples of Pieces.
func TestPiecesExamples(t *testing.T) {
	for _, c := range []struct {
		at, n int
		want  []api.Piece
	}{
		{0, 8192, []api.Piece{{At: 0, Len: 8192}}},
		{8191, 2, []api.Piece{{At: 8191, Len: 1}, {At: 8192, Len: 1}}},
		{100, 0, nil},
		{-1, 5, nil},
		{67381247, 1, []api.Piece{{At: 67381247, Len: 1}}},
		{67381247, 2, nil},
		{math.MaxInt, math.MaxInt, nil},
	} {
		if l := plan.Pieces(c.at, c.n); !slices.Equal(l, c.want) {
			t.Errorf("Pieces(%d, %d): %v, not %v", c.at, c.n, l, c.want)
		}
	}
}

// beside are the numbers about a middle.
func beside(middle int) []int { return []int{middle - 2, middle - 1, middle, middle + 1, middle + 2} }

// P13.1, P13.5: spans that begin and end below, at and behind multiples of 8192, within one piece and over several.
func TestPiecesBesideMultiples(t *testing.T) {
	for i := range 4 {
		for j := i; j < 5; j++ {
			for _, at := range beside(i * cut) {
				for _, end := range beside(j * cut) {
					holdPieces(t, at, end-at)
				}
			}
		}
	}
}

// P13.1: spans beside blocks: a piece is cut at each eighth of them and at no other.
func TestPiecesBesideBlocks(t *testing.T) {
	for i := range 18 {
		for j := i; j < 26; j++ {
			for _, at := range beside(i * 1024) {
				for _, end := range beside(j * 1024) {
					holdPieces(t, at, end-at)
				}
			}
		}
	}
}

// P13.1: of one byte, wherever it is in its piece.
func TestPiecesOfOneByte(t *testing.T) {
	ats := []int{0, 1, cut / 2, 10 * 1024, 266*1024 - 1, 266 * 1024, fileEnd / 2, fileEnd - 2, fileEnd - 1}
	for i := range fileEnd/cut + 1 {
		ats = append(ats, beside(i*cut)...)
	}
	for _, at := range ats {
		want := []api.Piece{{At: at, Len: 1}}
		if at < 0 || at >= fileEnd {
			want = nil
		}
		if l := plan.Pieces(at, 1); !slices.Equal(l, want) {
			t.Fatalf("Pieces(%d, 1): %v", at, l)
		}
	}
}

// P13.1, P13.5: the whole of the greatest file, a byte less and a byte more at both its ends.
func TestPiecesOfTheWhole(t *testing.T) {
	holdPieces(t, 0, fileEnd)
	holdPieces(t, 0, fileEnd-1)
	holdPieces(t, 1, fileEnd-1)
	l := plan.Pieces(0, fileEnd)
	if len(l) != 8226 || l[8225] != (api.Piece{At: 8225 * cut, Len: 2048}) {
		t.Errorf("of the whole: %d pieces", len(l))
	}
	for _, c := range [][2]int{{0, fileEnd + 1}, {1, fileEnd}, {-1, fileEnd}, {-1, fileEnd + 1}} {
		if l := plan.Pieces(c[0], c[1]); len(l) != 0 {
			t.Errorf("Pieces(%d, %d): %d pieces", c[0], c[1], len(l))
		}
	}
}

// P13.1: beside the greatest file's end: its last bytes, and a byte more.
func TestPiecesAtTheEnd(t *testing.T) {
	for _, back := range []int{1, 2, 2047, 2048, 2049, cut, cut + 2048, 3 * cut} {
		for _, n := range beside(back) {
			holdPieces(t, fileEnd-back, n)
		}
	}
	for at := fileEnd; at < fileEnd+3; at++ {
		for n := -3; n < 4; n++ {
			holdPieces(t, at, n)
		}
	}
}

// ends are numbers at and about the ends of all that are, and where a sum with a file's end, or of two of them, would wrap round.
func ends() []int {
	l := []int{0, 1, cut, fileEnd - 1, fileEnd, fileEnd + 1, -fileEnd, -cut, -1, math.MaxInt32, math.MinInt32}
	for i := range 3 {
		l = append(l, math.MinInt+i, math.MaxInt-i, math.MinInt/2+i, math.MaxInt/2-i)
		l = append(l, math.MaxInt-fileEnd+i-1, math.MinInt+fileEnd+i-1, math.MaxInt-cut+i-1, math.MinInt+cut+i-1)
	}
	return l
}

// P13.1: none of nothing, of negative places and lengths, nor of the greatest and least numbers, where a sum would wrap round.
func TestPiecesOfNoBytes(t *testing.T) {
	none := 0
	for _, at := range ends() {
		for _, n := range ends() {
			holdPieces(t, at, n)
			if !mayBe(at, n) {
				none++
			}
		}
	}
	if none < 1000 {
		t.Errorf("only %d of these are no bytes of a file", none)
	}
	for _, at := range []int{0, 1, 100, cut - 1, cut, fileEnd - 1, fileEnd} {
		for _, n := range []int{0, -1, -2, -at, -at - 1, -cut, math.MinInt} {
			if l := plan.Pieces(at, n); len(l) != 0 {
				t.Errorf("Pieces(%d, %d): %v", at, n, l)
			}
		}
	}
}

// P13.1: each place of a piece as the beginning, with lengths about the next cuts.
func TestPiecesFromEachPlace(t *testing.T) {
	for at := 3 * cut; at < 4*cut; at += 7 {
		left := 4*cut - at
		for _, n := range []int{1, left - 1, left, left + 1, left + cut} {
			holdPieces(t, at, n)
		}
	}
}

// P13.1, P13.5: spans wherever they lie, as long as a call may have and longer.
func TestPiecesAnywhere(t *testing.T) {
	r := rand.New(rand.NewSource(13))
	for range 3000 {
		holdPieces(t, r.Intn(fileEnd+10)-5, r.Intn(1<<17)-5)
	}
}

// P13.1, rule 3: an answer is new memory, its spare room too, and asked again it is the same.
func TestPiecesAreNew(t *testing.T) {
	first, second := plan.Pieces(100, 5*cut), plan.Pieces(100, 5*cut)
	for i := range first[:cap(first)] {
		first[:cap(first)][i] = api.Piece{At: -7, Len: -7}
	}
	want := cutUp(100, 5*cut)
	if !slices.Equal(second, want) {
		t.Errorf("it changed with the other: %v", second)
	}
	for _, piece := range second[len(second):cap(second)] {
		if piece.At == -7 {
			t.Error("both share their spare room")
		}
	}
	if l := plan.Pieces(100, 5*cut); !slices.Equal(l, want) {
		t.Errorf("asked again: %v", l)
	}
}
