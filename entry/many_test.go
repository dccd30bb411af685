package entry_test

import (
	"math/rand"
	"testing"

	"undercroft/api"
	"undercroft/entry"
)

// P18.3, P18.4: every choice of a few bytes at the number's two places, at the name's first four, its middle and its last two.
func TestEveryChoice(t *testing.T) {
	places := []int{0, 1, 2, 3, 4, 5, 9, 14, 15}
	few := []byte{0, '/', 'a', 0xff}
	count := 1
	for range places {
		count *= len(few)
	}
	for k := range count {
		var b entry.Bytes
		for rest, i := k, 0; i < len(places); i++ {
			b[places[i]] = few[rest%len(few)]
			rest /= len(few)
		}
		holdBytes(t, b)
		// The same with no nought between the places, so that the name may have all its bytes.
		for i := 6; i < 14; i++ {
			if b[i] == 0 && i != 9 {
				b[i] = 'm'
			}
		}
		holdBytes(t, b)
	}
}

// P18.3, P18.4: every choice of noughts, letters and strokes in the whole name is far too much to go over; of noughts and letters it is not.
func TestEveryEnd(t *testing.T) {
	for k := range 1 << 14 {
		for _, inum := range []uint16{0, 1, 256} {
			b := entry.Bytes{0: byte(inum), 1: byte(inum >> 8)}
			for i := range 14 {
				if k>>i&1 == 1 {
					b[2+i] = byte('a' + i)
				}
			}
			holdBytes(t, b)
		}
	}
}

// P18.4: entries of any numbers and names, there and back; and no two of them have the same bytes.
func TestManyEntries(t *testing.T) {
	draw := rand.New(rand.NewSource(184))
	seen := map[entry.Bytes]api.Entry{}
	done := 0
	for range 300000 {
		e := anyEntry(draw)
		holdEntry(t, e)
		b, err := entry.Encode(e)
		if err != api.OK {
			continue
		}
		done++
		if other, ok := seen[b]; ok && other != e {
			t.Fatalf("%d %q and %d %q have the same bytes: %v", e.Inum, e.Name, other.Inum, other.Name, b)
		}
		seen[b] = e
	}
	if done < 100000 || len(seen) < 50000 {
		t.Errorf("too few entries that may be: %d, %d of them unlike each other", done, len(seen))
	}
}

// P18.3, P18.4: any sixteen bytes, and such as are nearly an entry, back and there; and no two of them are the same entry.
func TestManyBytes(t *testing.T) {
	draw := rand.New(rand.NewSource(183))
	seen := map[api.Entry]entry.Bytes{}
	told, refused := 0, 0
	for range 300000 {
		b := anyBytes(draw)
		holdBytes(t, b)
		e, err := entry.Decode(b)
		if err != api.OK {
			refused++
			continue
		}
		told++
		if other, ok := seen[e]; ok && other != b {
			t.Fatalf("%v and %v are the same entry: %d %q", b, other, e.Inum, e.Name)
		}
		seen[e] = b
	}
	if told < 50000 || refused < 50000 {
		t.Errorf("too few of a kind: %d told, %d refused", told, refused)
	}
}

// P18.4: all names of up to three bytes out of a few with a few numbers: unlike entries have unlike bytes.
func TestUnlike(t *testing.T) {
	few := []byte{1, '.', '0', 'a', 0x80, 0xff}
	all := []string{}
	of := []string{""}
	for range 3 {
		var longer []string
		for _, s := range of {
			for _, c := range few {
				longer = append(longer, s+string([]byte{c}))
			}
		}
		all = append(all, longer...)
		of = longer
	}
	seen := map[entry.Bytes]api.Entry{{}: {}}
	for _, inum := range numbers {
		if inum == 0 {
			continue
		}
		for _, s := range all {
			e := api.Entry{Inum: inum, Name: s}
			b, err := entry.Encode(e)
			if err != api.OK {
				t.Fatalf("Encode(%d %q): %d", inum, s, err)
			}
			if other, ok := seen[b]; ok {
				t.Fatalf("%d %q and %d %q have the same bytes: %v", inum, s, other.Inum, other.Name, b)
			}
			seen[b] = e
		}
	}
}

// Any sixteen bytes, held against the account; without -fuzz the ones below alone.
func FuzzBytes(f *testing.F) {
	for _, s := range []string{"", "\x02\x01ab", "\x02\x00a\x00b", "\x00\x00a", "\x05", "\x01\x00abcdefghijklmn", "\x01\x00/"} {
		f.Add([]byte(s))
	}
	f.Fuzz(func(t *testing.T, p []byte) {
		var b entry.Bytes
		copy(b[:], p)
		holdBytes(t, b)
	})
}

// Any entry, held against the account; without -fuzz the ones below alone.
func FuzzEntry(f *testing.F) {
	for _, s := range []string{"", "a", "..", "abcdefghijklmn", "abcdefghijklmno", "abcdefghijklmno/", "\x00", "/"} {
		f.Add(uint16(0), s)
		f.Add(uint16(258), s)
	}
	f.Fuzz(func(t *testing.T, inum uint16, s string) {
		holdName(t, s)
		holdEntry(t, api.Entry{Inum: inum, Name: s})
	})
}

// anyEntry is an entry that may mostly be, with a name of up to 16 bytes.
func anyEntry(draw *rand.Rand) api.Entry {
	p := make([]byte, draw.Intn(17))
	for i := range p {
		if p[i] = byte('a' + draw.Intn(3)); draw.Intn(8) == 0 {
			p[i] = byte(draw.Intn(256))
		}
	}
	inum := uint16(draw.Intn(65536))
	if draw.Intn(4) == 0 {
		inum = numbers[draw.Intn(len(numbers))]
	}
	return api.Entry{Inum: inum, Name: string(p)}
}

// anyBytes are any sixteen bytes, or those of an entry, with one byte changed or none.
func anyBytes(draw *rand.Rand) entry.Bytes {
	var b entry.Bytes
	if draw.Intn(4) == 0 {
		for i := range b {
			b[i] = byte(draw.Intn(256))
		}
		return b
	}
	b, _ = written(anyEntry(draw))
	if draw.Intn(2) == 0 {
		b[draw.Intn(16)] = []byte{0, 1, '/', 'a', 0xff, byte(draw.Intn(256))}[draw.Intn(6)]
	}
	return b
}
