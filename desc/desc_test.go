package desc_test

import (
	"math"
	"math/big"
	"testing"

	"campanile/api"
	"campanile/desc"
	"campanile/ring"
)

// The calls have just these signatures.
var (
	_ func(string) (api.Desc, api.Errno)       = desc.Parse
	_ func(api.Desc) (string, api.Errno)       = desc.Print
	_ func(api.Desc, api.Client) api.Errno     = desc.Check
	_ func(api.What) bool                      = desc.Fills
	_ func(api.What) bool                      = desc.Reads
	_ func(d api.Desc, status, n int) api.Desc = desc.Closed
	_                                          = [1]struct{}{ring.Entry - 8: struct{}{}} // the bytes here are of so many
)

// wild are numbers of any size.
var wild = []int{
	math.MinInt, math.MinInt + 1, math.MinInt + 32, math.MinInt32, -65536, -33, -32, -17, -16, -15, -2, -1,
	0, 1, 15, 16, 17, 31, 32, 33, 48, 64, 255, 256, 257, 65534, 65535, 65536, 65537,
	math.MaxInt32, 1 << 32, math.MaxInt - 32, math.MaxInt - 1, math.MaxInt,
}

// leaves is what n leaves of a number, from 0 on.
func leaves(number, n int) int { return (number%n + n) % n }

// dice are numbers that come the same each time.
type dice uint32

// below is a number from 0 on, below n.
func (d *dice) below(n int) int {
	*d = *d*1664525 + 1013904223
	return int(uint32(*d)>>8) % n
}

// text is any bytes.
func (d *dice) text(n int) string {
	out := make([]byte, n)
	for i := range out {
		out[i] = byte(d.below(256))
	}
	return string(out)
}

func TestParse(t *testing.T) { // P24.1
	got, e := desc.Parse("\x06\x02\x01\x02\x20\x00\x03\x04")
	if e != api.OK || got != (api.Desc{What: api.Store, Status: 2, Addr: 513, Len: 32, Arg: 1027}) {
		t.Fatal(got, e)
	}
	got, e = desc.Parse("\xff\xfe\xfd\xfc\xfb\xfa\xf9\xf8 and more")
	if e != api.OK || got != (api.Desc{What: 255, Status: 254, Addr: 0xfcfd, Len: 0xfafb, Arg: 0xf8f9}) {
		t.Fatal(got, e)
	}
	if got, e = desc.Parse("\x00\x00\x00\x00\x00\x00\x00\x00"); e != api.OK || got != (api.Desc{}) {
		t.Fatal(got, e)
	}
	d := dice(1)
	for range 20000 {
		s := d.text(d.below(20))
		got, e := desc.Parse(s)
		if len(s) < 8 {
			if e != api.ErrEnd || got != (api.Desc{}) {
				t.Fatalf("%q %v %v", s, got, e)
			}
			continue
		}
		two := func(at int) int { return int(s[at]) + 256*int(s[at+1]) }
		if want := (api.Desc{What: api.What(s[0]), Status: s[1], Addr: two(2), Len: two(4), Arg: two(6)}); e != api.OK || got != want {
			t.Fatalf("%q %v %v", s, got, e)
		}
	}
	for n := range 8 {
		if got, e := desc.Parse("\x01\x01\x01\x01\x01\x01\x01\x01"[:n]); e != api.ErrEnd || got != (api.Desc{}) {
			t.Fatal(n, got, e)
		}
	}
}

func TestPrint(t *testing.T) { // P24.1
	s, e := desc.Print(api.Desc{What: api.Store, Status: 2, Addr: 513, Len: 32, Arg: 1027})
	if e != api.OK || s != "\x06\x02\x01\x02\x20\x00\x03\x04" {
		t.Fatalf("%q %v", s, e)
	}
	s, e = desc.Print(api.Desc{What: 255, Status: 254, Addr: 65535, Len: 65534, Arg: 255})
	if e != api.OK || s != "\xff\xfe\xff\xff\xfe\xff\xff\x00" {
		t.Fatalf("%q %v", s, e)
	}
	if s, e = desc.Print(api.Desc{}); e != api.OK || s != "\x00\x00\x00\x00\x00\x00\x00\x00" {
		t.Fatalf("%q %v", s, e)
	}
	for _, addr := range wild {
		for _, size := range wild {
			for _, arg := range wild {
				s, e := desc.Print(api.Desc{What: 9, Status: 7, Addr: addr, Len: size, Arg: arg})
				if min(addr, size, arg) < 0 || max(addr, size, arg) > 65535 {
					if e != api.ErrArg || s != "" {
						t.Fatalf("%d %d %d %q %v", addr, size, arg, s, e)
					}
					continue
				}
				want := string([]byte{9, 7, byte(addr % 256), byte(addr / 256), byte(size % 256), byte(size / 256), byte(arg % 256), byte(arg / 256)})
				if e != api.OK || s != want {
					t.Fatalf("%d %d %d %q %v", addr, size, arg, s, e)
				}
			}
		}
	}
}

func TestParsedAsPrinted(t *testing.T) { // P24.3
	d := dice(2)
	for range 20000 {
		s := d.text(8 + d.below(3))
		x, e := desc.Parse(s)
		if e != api.OK {
			t.Fatal(e)
		}
		if back, e := desc.Print(x); e != api.OK || back != s[:8] {
			t.Fatalf("%q %q %v", s, back, e)
		}
		x = api.Desc{What: api.What(d.below(256)), Status: uint8(d.below(256)), Addr: d.below(65536), Len: d.below(65536), Arg: d.below(65536)}
		s, e = desc.Print(x)
		if e != api.OK || len(s) != 8 {
			t.Fatal(x, e)
		}
		if back, e := desc.Parse(s); e != api.OK || back != x {
			t.Fatal(x, back, e)
		}
	}
}

// inside tells whether n numbers from one on are all from 0 on and below size,
// reckoned without going round; of no numbers the end is one, too.
func inside(from, n, size int) bool {
	end := new(big.Int).Add(big.NewInt(int64(from)), big.NewInt(int64(n)))
	return from >= 0 && end.Cmp(big.NewInt(int64(size))) <= 0
}

// wrong is what is wrong with a descriptor, as the document's words tell it: all of it, the first of these.
func wrong(d api.Desc, c api.Client) api.Errno {
	sectors := d.What == api.Load || d.What == api.Store
	all := map[api.Errno]bool{}
	if d.What < api.Say || d.What > api.Store || sectors && (d.Len == 0 || leaves(d.Len, 16) != 0) {
		all[api.ErrForm] = true
	}
	if d.Len > 32 || d.Len < 0 {
		all[api.ErrLimit] = true
	}
	if d.Addr < 0 || !inside(d.Addr, d.Len, c.Size) {
		all[api.ErrRange] = true
	}
	if sectors && (d.Arg < 0 || !inside(d.Arg, d.Len/16, c.Sectors)) {
		all[api.ErrRange] = true
	}
	if d.What == api.Send && (d.Arg > 255 || d.Arg < 0) {
		all[api.ErrArg] = true
	}
	for _, e := range []api.Errno{api.ErrForm, api.ErrLimit, api.ErrRange, api.ErrArg} {
		if all[e] {
			return e
		}
	}
	return api.OK
}

func TestCheckForm(t *testing.T) { // P24.2
	c := api.Client{Size: 100, Sectors: 4}
	for w := range 256 {
		for size := -50; size <= 50; size++ {
			d := api.Desc{What: api.What(w), Len: size}
			if got, want := desc.Check(d, c), wrong(d, c); got != want {
				t.Fatal(d, got, want)
			}
		}
	}
	for _, w := range []api.What{0, 7, 8, 128, 255} {
		d := api.Desc{What: w, Addr: -1, Len: 99, Arg: -1}
		if desc.Check(d, c) != api.ErrForm || desc.Check(api.Desc{What: w}, c) != api.ErrForm {
			t.Fatal(w)
		}
	}
	for _, w := range []api.What{api.Load, api.Store} {
		for size, want := range map[int]api.Errno{0: api.ErrForm, 1: api.ErrForm, 15: api.ErrForm, 16: api.OK, 17: api.ErrForm, 31: api.ErrForm,
			32: api.OK, 33: api.ErrForm, 48: api.ErrLimit, 64: api.ErrLimit, -16: api.ErrLimit, -1: api.ErrForm, math.MaxInt: api.ErrForm, math.MinInt: api.ErrLimit} {
			if e := desc.Check(api.Desc{What: w, Len: size}, c); e != want {
				t.Fatal(w, size, e)
			}
		}
	}
}

func TestCheckLimit(t *testing.T) { // P24.2
	c := api.Client{Size: 100}
	for _, w := range []api.What{api.Say, api.Hear, api.Send, api.Take} {
		for size, want := range map[int]api.Errno{0: api.OK, 1: api.OK, 31: api.OK, 32: api.OK, 33: api.ErrLimit, 65535: api.ErrLimit, -1: api.ErrLimit,
			math.MaxInt: api.ErrLimit, math.MinInt: api.ErrLimit} {
			if e := desc.Check(api.Desc{What: w, Len: size}, c); e != want {
				t.Fatal(w, size, e)
			}
		}
		if e := desc.Check(api.Desc{What: w, Addr: -1, Len: 33, Arg: -1}, c); e != api.ErrLimit {
			t.Fatal(w, e)
		}
	}
}

func TestCheckAddresses(t *testing.T) { // P24.2
	for w := api.Say; w <= api.Store; w++ {
		for _, c := range []api.Client{{Size: 32, Sectors: 2}, {Size: 62, Sectors: 64}, {Size: 1024, Sectors: 3}} {
			for _, size := range []int{0, 1, 2, 15, 16, 31, 32} {
				for addr := -3; addr <= c.Size+3; addr++ {
					d := api.Desc{What: w, Addr: addr, Len: size, Arg: 1}
					if got, want := desc.Check(d, c), wrong(d, c); got != want {
						t.Fatal(d, c, got, want)
					}
				}
			}
		}
	}
	c := api.Client{Size: 100}
	for _, x := range []struct {
		addr, size int
		want       api.Errno
	}{
		{0, 0, api.OK}, {99, 1, api.OK}, {68, 32, api.OK}, {69, 32, api.ErrRange}, {99, 2, api.ErrRange}, {100, 1, api.ErrRange},
		{100, 0, api.OK}, {101, 0, api.ErrRange}, {-1, 0, api.ErrRange}, {-1, 1, api.ErrRange},
		{math.MaxInt, 32, api.ErrRange}, {math.MaxInt, 0, api.ErrRange}, {math.MinInt, 0, api.ErrRange}, {math.MinInt, 32, api.ErrRange},
	} {
		if e := desc.Check(api.Desc{What: api.Say, Addr: x.addr, Len: x.size}, c); e != x.want {
			t.Fatal(x, e)
		}
	}
}

func TestCheckSectors(t *testing.T) { // P24.2
	for _, w := range []api.What{api.Load, api.Store} {
		for sectors := range 6 {
			c := api.Client{Size: 64, First: 7, Sectors: sectors}
			for _, size := range []int{16, 32} {
				for arg := -3; arg < 10; arg++ {
					d := api.Desc{What: w, Len: size, Arg: arg}
					want := api.OK
					if arg < 0 || arg+size/16 > sectors {
						want = api.ErrRange
					}
					if got := desc.Check(d, c); got != want {
						t.Fatal(d, sectors, got, want)
					}
				}
			}
		}
	}
	// Of others Arg is no sector.
	for _, w := range []api.What{api.Say, api.Hear, api.Take} {
		for _, arg := range wild {
			if e := desc.Check(api.Desc{What: w, Len: 32, Arg: arg}, api.Client{Size: 32}); e != api.OK {
				t.Fatal(w, arg, e)
			}
		}
	}
}

func TestCheckReceiver(t *testing.T) { // P24.2
	c := api.Client{Size: 64}
	for _, arg := range wild {
		want := api.OK
		if arg < 0 || arg > 255 {
			want = api.ErrArg
		}
		if e := desc.Check(api.Desc{What: api.Send, Len: 5, Arg: arg}, c); e != want {
			t.Fatal(arg, e)
		}
		// Of two errors the one that is named first.
		if e := desc.Check(api.Desc{What: api.Send, Len: 5, Addr: 60, Arg: arg}, c); e != api.ErrRange {
			t.Fatal(arg, e)
		}
	}
}

// P24.2, P1, P5: numbers of any size, in the client's row, too.
func TestCheckWild(t *testing.T) {
	for w := api.NoWhat; w <= api.Store+1; w++ {
		for _, size := range wild {
			for _, addr := range wild {
				for _, arg := range wild {
					for _, all := range wild {
						d := api.Desc{What: w, Addr: addr, Len: size, Arg: arg}
						c := api.Client{Size: all, Sectors: 4}
						if size == 16 || size == 32 {
							c = api.Client{Size: 96, Sectors: all}
						}
						if got, want := desc.Check(d, c), wrong(d, c); got != want {
							t.Fatal(d, c, got, want)
						}
					}
				}
			}
		}
	}
	for _, size := range wild {
		for _, addr := range wild {
			for _, all := range wild {
				d := api.Desc{What: api.Hear, Addr: addr, Len: leaves(size, 33)}
				if got, want := desc.Check(d, api.Client{Size: all}), wrong(d, api.Client{Size: all}); got != want {
					t.Fatal(d, all, got, want)
				}
			}
		}
	}
}

// P24.2: nothing else of a descriptor, or of a row, is asked for.
func TestCheckOfTheRest(t *testing.T) {
	d := dice(6)
	for range 20000 {
		c := api.Client{Size: 32 + d.below(99), Sectors: d.below(6)}
		x := api.Desc{What: api.What(d.below(8)), Addr: d.below(c.Size + 2), Len: d.below(35), Arg: d.below(300)}
		want := desc.Check(x, c)
		x.Status = uint8(d.below(256))
		c.Base, c.Ring, c.At, c.Quota = wild[d.below(len(wild))], wild[d.below(len(wild))], wild[d.below(len(wild))], wild[d.below(len(wild))]
		c.Queue, c.Mac, c.Channel, c.First = wild[d.below(len(wild))], wild[d.below(len(wild))], wild[d.below(len(wild))], wild[d.below(len(wild))]
		if got := desc.Check(x, c); got != want || got != wrong(x, c) {
			t.Fatal(x, c, got, want)
		}
	}
}

// P24.4: each address and each sector of what is not wrong is the client's.
func TestWhatIsNotWrong(t *testing.T) {
	d := dice(4)
	fine := map[api.What]int{}
	for range 200000 {
		c := api.Client{Size: 32 + d.below(64), Sectors: d.below(6)}
		s := []byte(d.text(8))
		s[0], s[3], s[5], s[7] = byte(d.below(7)), 0, 0, byte(d.below(2))
		s[2], s[4], s[6] = byte(d.below(100)), byte(d.below(3)*16+d.below(2)*d.below(16)), byte(d.below(8))
		x, e := desc.Parse(string(s))
		if e != api.OK || desc.Check(x, c) != api.OK {
			continue
		}
		fine[x.What]++
		if x.Len > api.Burst || !desc.Fills(x.What) && !desc.Reads(x.What) {
			t.Fatal(x)
		}
		for a := x.Addr; a < x.Addr+x.Len; a++ {
			if a < 0 || a >= c.Size {
				t.Fatal(x, c, a)
			}
		}
		if x.What == api.Load || x.What == api.Store {
			for b := 0; b < x.Len; b += api.Sector {
				if sector := x.Arg + b/api.Sector; sector >= c.Sectors || b+api.Sector > x.Len {
					t.Fatal(x, c, sector)
				}
			}
		}
	}
	for w := api.Say; w <= api.Store; w++ {
		if fine[w] < 100 {
			t.Fatal("too few", w, fine[w])
		}
	}
}

func TestFillsAndReads(t *testing.T) { // P24.2
	fills := map[api.What]int{api.Hear: 1, api.Take: 1, api.Load: 1}
	reads := map[api.What]int{api.Say: 1, api.Send: 1, api.Store: 1}
	for n := range 256 {
		w := api.What(n)
		if desc.Fills(w) != (fills[w] == 1) || desc.Reads(w) != (reads[w] == 1) {
			t.Fatal(w, desc.Fills(w), desc.Reads(w))
		}
	}
}

func TestClosed(t *testing.T) { // P24.2
	for _, status := range wild {
		for _, n := range wild {
			d := api.Desc{What: api.Send, Status: 77, Addr: -5, Len: 99, Arg: 1 << 20}
			got := desc.Closed(d, status, n)
			if got != (api.Desc{What: api.Send, Status: uint8(leaves(status, 256)), Addr: -5, Len: leaves(n, 65536), Arg: 1 << 20}) {
				t.Fatal(status, n, got)
			}
			if d != (api.Desc{What: api.Send, Status: 77, Addr: -5, Len: 99, Arg: 1 << 20}) {
				t.Fatal("what is handed in stays as it is", d)
			}
		}
	}
	d := api.Desc{What: 200, Len: 4}
	for _, x := range [][4]int{{1, 4, 1, 4}, {2, 0, 2, 0}, {-1, -1, 255, 65535}, {256, 65536, 0, 0}, {257, 65543, 1, 7}} {
		if got := desc.Closed(d, x[0], x[1]); got != (api.Desc{What: 200, Status: uint8(x[2]), Len: x[3]}) {
			t.Fatal(x, got)
		}
	}
}

func TestExample(t *testing.T) {
	if e := desc.Check(api.Desc{What: api.Say, Addr: 60, Len: 4}, api.Client{Size: 62}); e != api.ErrRange {
		t.Fatal(e)
	}
}
