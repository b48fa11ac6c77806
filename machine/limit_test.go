package machine

import (
	"slices"
	"testing"

	"campanile/api"
	"campanile/image"
	"campanile/mem"
)

// P31.2: no tick comes behind the last one. It is too far to be stepped to, so it is set.
func TestLastTick(t *testing.T) {
	img, _ := image.Print(api.Config{
		Frame:   4,
		Windows: []api.Window{{Owner: 1, From: 2, To: 4}, {Owner: 0, From: 0, To: 2}},
		Slots:   []api.Slot{{Owner: 1, From: 0, To: 4}},
		Clients: []api.Client{{Base: 128, Size: 32, Ring: 1, At: 20, Quota: 1, Channel: 5}},
	})
	x, _, e := Boot(img, []string{"\x0e\x01\x01\x00"}) // call r1 1
	if e != api.OK {
		t.Fatal(e)
	}
	come := []api.Event{{Kind: api.Byte, Channel: 5}}
	x.tick = api.MaxNum - 1 // its offset is 2
	if e := x.Step(come); e != api.OK || x.Tick() != api.MaxNum || len(x.Trace(1)) != 3 || x.State(1).R[1] != 65534 {
		t.Fatal(e, x.Tick(), x.Trace(1), x.State(1))
	}
	was, trace := x.Fork(), x.Trace(1)
	for range 3 {
		if e := x.Step(come); e != api.ErrLimit {
			t.Fatal(e)
		}
	}
	if x.Tick() != api.MaxNum || !slices.Equal(x.Trace(1), trace) || x.State(1) != was.State(1) || x.Counts(1) != was.Counts(1) ||
		len(mem.Diff(x.Memory(), was.Memory())) != 0 {
		t.Fatal(x.Tick(), x.Trace(1), x.State(1), x.Counts(1))
	}
}
