package files_test

import (
	"math/rand"
	"slices"
	"testing"

	"undercroft/api"
)

// P26.1, Do: the kinds that are not its own: ErrArg, and nothing else, whatever the fields say.
func TestDoOthers(t *testing.T) {
	x := newWorld(t, village(t, small()), small())
	x.all(t, opening(2, rw), writing(0, sown(1, 100)))
	own := []api.CallKind{api.CallRead, api.CallWrite, api.CallSeek, api.CallTruncate, api.CallClose, api.CallStatDesc}
	before := x.spent()
	for kind := range 256 {
		k := api.CallKind(kind)
		if slices.Contains(own, k) {
			continue
		}
		for _, desc := range []int{-1, 0, 1, 16} {
			for _, size := range []int{-1, 0, 5, 70000} {
				c := api.Call{Kind: k, Path: "/a", Other: "/b", Desc: desc, Size: size, Flags: rw, Bytes: sown(1, max(0, size))}
				if got := x.f[0].Do(c); !like(got, wrong(api.ErrArg)) {
					t.Fatalf("kind %d: %+v", kind, short(got))
				}
			}
		}
	}
	if x.spent() != before {
		t.Error("something was done")
	}
	x.sees(t)
}

// P26.1, Do: held against the calls themselves, made of another disk that holds the same; the fields that a kind does not use count for nothing.
func TestDo(t *testing.T) {
	for _, g := range []api.Geometry{small(), snug()} {
		im := village(t, g)
		for seed := range 6 {
			x, y := newWorld(t, im, g), newWorld(t, im, g)
			c := &chooser{rand.New(rand.NewSource(int64(seed))), x, 60000 + 400000*(seed%2)}
			for i := range 300 {
				who := c.Intn(2)
				call := c.call(who)
				want := x.answers(t, who, call)
				got := api.Result{}
				switch call.Kind {
				case api.CallOpen, api.CallUnlink, api.CallSync:
					got = y.ask(who, call)
				default:
					got = y.f[who].Do(filled(call))
				}
				if !like(got, want) {
					t.Fatalf("call %d: kind %d: %+v, not %+v", i, call.Kind, short(got), short(want))
				}
			}
			if !slices.Equal(x.d.History(), y.d.History()) {
				t.Fatal("other things were done to the disk")
			}
		}
	}
}

// filled is a call of which the fields that its kind does not use say something, too.
func filled(c api.Call) api.Call {
	c.Path, c.Other = "/x", "y"
	switch c.Kind {
	case api.CallRead, api.CallTruncate:
		c.Flags, c.Bytes = 77, []byte{1}
	case api.CallWrite:
		c.Size, c.Flags = -9, 2
	case api.CallSeek:
		c.Bytes = make([]byte, 70000)
	case api.CallClose, api.CallStatDesc:
		c.Size, c.Flags, c.Bytes = 70000, -1, []byte{2}
	}
	return c
}

// Do: what it hands out is new memory, and what it was handed is not kept.
func TestDoMemory(t *testing.T) {
	x := newWorld(t, village(t, small()), small())
	x.all(t, opening(2, rw))
	p := sown(4, 3000)
	if got := x.f[0].Do(writing(0, p)); !like(got, value(3000)) {
		t.Fatalf("%+v", got)
	}
	clear(p)
	for range 2 {
		x.f[0].Do(seeking(0, 0, 0))
		got := x.f[0].Do(reading(0, 5000))
		if !like(got, told(sown(4, 3000)...)) {
			t.Fatalf("%+v", short(got))
		}
		clear(got.Bytes[:cap(got.Bytes)])
	}
}
