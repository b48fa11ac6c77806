package disk_test

import (
	"math"
	"slices"
	"strings"
	"testing"

	"campanile/api"
	"campanile/disk"
)

// The calls have just these signatures.
var (
	_ func(...disk.Part) (*disk.Device, api.Errno)                      = disk.New
	_ func(*disk.Device, disk.Job) api.Errno                            = (*disk.Device).Ask
	_ func(*disk.Device, int, disk.Job) api.Errno                       = (*disk.Device).Start
	_ func(*disk.Device, int) (string, api.Errno)                       = (*disk.Device).End
	_ func(*disk.Device) bool                                           = (*disk.Device).Busy
	_ func(d *disk.Device, owner, sector int) (s string, err api.Errno) = (*disk.Device).Sector
	_ func(*disk.Device) []disk.Stored                                  = (*disk.Device).Log
	_ func(*disk.Device) *disk.Device                                   = (*disk.Device).Fork
	_                                                                   = struct{ Owner, First, Count int }(disk.Part{})
	_                                                                   = struct {
		Owner, Sector, N int
		Write            bool
		Data             string
	}(disk.Job{})
	_ = struct {
		Tick, Owner, Sector int
		Data                string
	}(disk.Stored{})
)

// extremes are numbers of which some go round if anything is added to them.
var extremes = []int{math.MinInt, math.MinInt + 1, math.MinInt32, -1, math.MaxInt32, math.MaxInt - 1, math.MaxInt}

// nobody are owners that have no row where 1, 2, 4 and 7 have one.
var nobody = append([]int{0, 3, 5, 6, 8, 9, 258, 1<<32 + 2}, extremes...)

var empty = strings.Repeat("\x00", api.Sector)

// device is a disk that has to be there.
func device(t *testing.T, l ...disk.Part) *disk.Device {
	t.Helper()
	d, e := disk.New(l...)
	if e != api.OK || d == nil {
		t.Fatal(l, d, e)
	}
	return d
}

func row(owner, first, count int) disk.Part {
	return disk.Part{Owner: owner, First: first, Count: count}
}

func reads(owner, sector, n int) disk.Job {
	return disk.Job{Owner: owner, Sector: sector, N: n}
}

func writes(owner, sector int, data string) disk.Job {
	return disk.Job{Owner: owner, Sector: sector, Write: true, Data: data}
}

// bytes is n sectors, each filled with a letter of its own.
func bytes(letter byte, n int) string {
	var s string
	for i := range n {
		s += strings.Repeat(string([]byte{letter + byte(i)}), api.Sector)
	}
	return s
}

// start starts a job that has to be started.
func start(t *testing.T, d *disk.Device, tick int, j disk.Job) {
	t.Helper()
	if e := d.Start(tick, j); e != api.OK || !d.Busy() {
		t.Fatal(tick, j, e)
	}
}

// end ends a job that has to be ended.
func end(t *testing.T, d *disk.Device, tick int, want string) {
	t.Helper()
	if s, e := d.End(tick); e != api.OK || s != want || d.Busy() {
		t.Fatalf("%d %v %q, not %q", tick, e, s, want)
	}
}

// does is a job from its start to its end.
func does(t *testing.T, d *disk.Device, tick int, j disk.Job, want string) {
	t.Helper()
	start(t, d, tick, j)
	end(t, d, tick+3, want)
}

// notYet asks that a job can't be ended.
func notYet(t *testing.T, d *disk.Device, tick int, want api.Errno) {
	t.Helper()
	busy := d.Busy()
	if s, e := d.End(tick); e != want || s != "" || d.Busy() != busy {
		t.Fatalf("%d %v %q", tick, e, s)
	}
}

// sector asks for a sector's bytes.
func sector(t *testing.T, d *disk.Device, owner, i int, want string) {
	t.Helper()
	if s, e := d.Sector(owner, i); e != api.OK || s != want {
		t.Fatalf("%d %d: %v %q, not %q", owner, i, e, s, want)
	}
}

func TestNewOfOneRow(t *testing.T) { // P14.1
	owners := append([]int{0, 1, 2, 7, 8, 9, 1<<32 + 1}, extremes...)
	firsts := append([]int{0, 1, 447, 448, 449, 510, 511, 512, 513, 1 << 32}, extremes...)
	counts := append([]int{0, 1, 2, 63, 64, 65, 512, 1 << 32}, extremes...)
	for _, owner := range owners {
		for _, first := range firsts {
			for _, count := range counts {
				may := 1 <= owner && owner <= 8 && 0 <= count && count <= 64 && 0 <= first && first <= 512 && first+count <= 512
				d, e := disk.New(row(owner, first, count))
				switch {
				case !may && (e != api.ErrArg || d != nil):
					t.Fatal(owner, first, count, d, e)
				case may && (e != api.OK || d == nil || d.Busy() || len(d.Log()) != 0):
					t.Fatal(owner, first, count, e)
				case may && count > 0:
					sector(t, d, owner, 0, empty)
					sector(t, d, owner, count-1, empty)
				}
			}
		}
	}
}

// P14.1, P2: row by row, and of a row the error that is named first.
func TestNewOfSomeRows(t *testing.T) {
	good, other, none := row(1, 5, 4), row(2, 100, 64), row(4, 6, 0)
	for _, c := range []struct {
		l []disk.Part
		e api.Errno
	}{
		{nil, api.OK},
		{[]disk.Part{good, other}, api.OK},
		{[]disk.Part{good, row(2, 9, 1), row(3, 4, 1)}, api.OK}, // what touches does not meet
		{[]disk.Part{good, good}, api.ErrSame},
		{[]disk.Part{good, row(1, 200, 1)}, api.ErrSame},
		{[]disk.Part{good, row(1, 200, 0)}, api.ErrSame},
		{[]disk.Part{row(1, 5, 0), row(1, 200, 1)}, api.ErrSame},
		{[]disk.Part{row(1, 0, 0), row(1, 0, 0)}, api.ErrSame},
		{[]disk.Part{good, other, row(1, 200, 1)}, api.ErrSame},
		{[]disk.Part{good, other, row(1, 100, 1)}, api.ErrSame}, // and it meets another one
		{[]disk.Part{good, row(2, 8, 1)}, api.ErrFit},
		{[]disk.Part{good, row(2, 5, 1)}, api.ErrFit},
		{[]disk.Part{good, row(2, 0, 6)}, api.ErrFit},
		{[]disk.Part{good, row(2, 0, 64)}, api.ErrFit},
		{[]disk.Part{good, other, row(8, 163, 2)}, api.ErrFit},
		{[]disk.Part{good, other, row(8, 8, 1)}, api.ErrFit},
		{[]disk.Part{good, none, row(5, 6, 0), row(6, 5, 0)}, api.OK}, // rows of no sectors meet none
		{[]disk.Part{none, good}, api.OK},
		{[]disk.Part{good, row(1, 6, 65)}, api.ErrArg}, // first of all it may not be
		{[]disk.Part{good, row(1, -1, 1)}, api.ErrArg},
		{[]disk.Part{good, row(2, 510, 3)}, api.ErrArg},
		{[]disk.Part{good, row(9, 5, 4)}, api.ErrArg},
		{[]disk.Part{good, row(2, 5, 1), row(0, 0, 0)}, api.ErrFit}, // the row that is ahead tells
		{[]disk.Part{good, good, row(0, 0, 0)}, api.ErrSame},
		{[]disk.Part{good, row(0, 0, 0), good}, api.ErrArg},
		{[]disk.Part{{}, good}, api.ErrArg},
	} {
		d, e := disk.New(c.l...)
		if e != c.e || (d == nil) != (e != api.OK) {
			t.Error(c.l, e)
		}
	}
}

// P14.1: whether rows meet, sector by sector.
func TestNewOfRowsThatMeet(t *testing.T) {
	for from := range 8 {
		for many := range 5 {
			for first := range 12 {
				for count := range 5 {
					meets := false
					for i := from; i < from+many; i++ {
						meets = meets || first <= i && i < first+count
					}
					_, e := disk.New(row(3, 50, 2), row(1, from, many), row(2, first, count))
					if (e == api.ErrFit) != meets || (e == api.OK) == meets {
						t.Fatal(from, many, first, count, e)
					}
				}
			}
		}
	}
}

// fourRows is the disk of the owners 1, 2, 4 and 7; the sectors of 2 end where the disk does, and 4 has none.
func fourRows(t *testing.T) *disk.Device {
	return device(t, row(1, 10, 5), row(2, 448, 64), row(4, 15, 0), row(7, 15, 1))
}

// why is what is wrong with a job on those, from the document's words.
func why(j disk.Job) api.Errno {
	count, ok := map[int]int{1: 5, 2: 64, 4: 0, 7: 1}[j.Owner]
	n := j.N
	if j.Write {
		n = len(j.Data)
	}
	switch {
	case !ok:
		return api.ErrOwner
	case n%16 != 0 || n <= 0:
		return api.ErrForm
	case n > 32:
		return api.ErrLimit
	case j.Sector < 0 || j.Sector >= count || j.Sector+n/16 > count:
		return api.ErrRange
	}
	return api.OK
}

// P14.2, P2: of all that may be wrong with a job what is named first; and Start says the same, and starts just what is right.
func TestAsk(t *testing.T) {
	sizes := append([]int{0, 1, 15, 16, 17, 31, 32, 33, 47, 48, 64, -15, -16, -17, -32, 1 << 32, 1<<32 + 16, math.MaxInt - 15}, extremes...)
	sectors := append([]int{0, 1, 2, 3, 4, 5, 6, 62, 63, 64, 65, 512, 1 << 32, math.MinInt + 2}, extremes...)
	var jobs []disk.Job
	for _, owner := range append([]int{1, 2, 4, 7}, nobody...) {
		for _, at := range sectors {
			for i, n := range sizes {
				jobs = append(jobs, reads(owner, at, n))
				// What the other kind of job would move plays no part.
				jobs = append(jobs, disk.Job{Owner: owner, Sector: at, N: n, Data: bytes('a', i%4)})
				if n >= 0 && n <= 64 {
					jobs = append(jobs, writes(owner, at, strings.Repeat("x", n)))
					jobs = append(jobs, disk.Job{Owner: owner, Sector: at, Write: true, Data: strings.Repeat("x", n), N: sizes[(i+3)%len(sizes)]})
				}
			}
		}
	}
	d := fourRows(t)
	for _, j := range jobs {
		want := why(j)
		if e := d.Ask(j); e != want || d.Busy() {
			t.Fatal(j, e, want)
		}
		if e := d.Start(5, j); e != want || d.Busy() != (e == api.OK) {
			t.Fatal(j, e, want)
		}
		if want == api.OK {
			if e := d.Ask(j); e != api.OK { // a job that is done plays no part
				t.Fatal(j, e)
			}
			d.End(8)
		}
	}
}

// P14.2, P2: ErrArg, ErrState, and Ask's error, in this order; a job that is there goes on as it was.
func TestStartErrors(t *testing.T) {
	good := writes(1, 0, bytes('a', 2))
	bad := []disk.Job{{}, reads(3, 0, 16), reads(1, 0, 0), reads(1, 0, 48), reads(1, 4, 32), writes(1, 0, "x")}
	out := []int{-1, math.MinInt, math.MinInt32, math.MaxInt32 + 1, math.MaxInt}
	d := fourRows(t)
	for range 2 {
		for _, j := range append(bad, good) {
			for _, tick := range out {
				if e := d.Start(tick, j); e != api.ErrArg || d.Busy() {
					t.Fatal(tick, j, e)
				}
			}
			if e := d.Start(5, j); e != why(j) {
				t.Fatal(j, e)
			}
		}
		for _, j := range append(bad, good, reads(2, 0, 16)) {
			for _, tick := range out {
				if e := d.Start(tick, j); e != api.ErrArg || !d.Busy() {
					t.Fatal(tick, j, e)
				}
			}
			for _, tick := range []int{0, 4, 5, 8, 100, math.MaxInt32} { // its ticks may be over: it is there till it is ended
				if e := d.Start(tick, j); e != api.ErrState || !d.Busy() {
					t.Fatal(tick, j, e)
				}
			}
		}
		notYet(t, d, 7, api.ErrState)
		end(t, d, 8, "")
		sector(t, d, 1, 0, bytes('a', 1))
		sector(t, d, 1, 1, bytes('b', 1))
	}
}

// P14.2, P14.5: no job ends earlier than its ticks are over, whatever it does, and however often that is tried.
func TestEndInTime(t *testing.T) {
	jobs := []disk.Job{reads(1, 0, 16), reads(1, 0, 32), writes(2, 0, bytes('a', 1)), writes(2, 62, bytes('a', 2)), reads(7, 0, 16)}
	for _, from := range []int{0, 1, 10, 4095, math.MaxInt32 - 3, math.MaxInt32 - 1, math.MaxInt32} {
		for _, j := range jobs {
			d := fourRows(t)
			notYet(t, d, from, api.ErrEmpty)
			start(t, d, from, j)
			early := []int{math.MinInt, math.MinInt + 1, math.MinInt + 2, math.MinInt + 3, math.MinInt32, -3, -2, -1, 0, from - 4, from - 3, from - 1, from, from + 1, from + 2}
			for _, tick := range early {
				if tick < from+3 {
					notYet(t, d, tick, api.ErrState)
				}
			}
			for _, late := range []int{from + 3, from + 4, from + 1000, math.MaxInt - 1, math.MaxInt} {
				f := d.Fork()
				end(t, f, late, strings.Repeat("\x00", j.N))
				for _, tick := range append([]int{late, late + 3, 0}, extremes...) { // it is over
					notYet(t, f, tick, api.ErrEmpty)
				}
			}
		}
	}
}

// P14.2: a job is done at its end, not ahead of it.
func TestDoneAtTheEnd(t *testing.T) {
	d := fourRows(t)
	start(t, d, 10, writes(1, 3, bytes('x', 2)))
	for tick := range 13 {
		notYet(t, d, tick, api.ErrState)
		sector(t, d, 1, 3, empty)
		sector(t, d, 1, 4, empty)
		if l := d.Log(); len(l) != 0 {
			t.Fatal(l)
		}
	}
	end(t, d, 13, "")
	sector(t, d, 1, 2, empty)
	sector(t, d, 1, 3, bytes('x', 1))
	sector(t, d, 1, 4, bytes('y', 1))
	does(t, d, 0, reads(1, 3, 32), bytes('x', 2)) // ticks need not rise
}

// P14.4: what was written is read, any bytes, from any sector.
func TestWrittenIsRead(t *testing.T) {
	d := fourRows(t)
	for b := range 256 {
		for at := range 63 {
			data := bytes(byte(b), 1) + string([]byte{byte(at), 0, 255, byte(b)}) + "twelve bytes"
			does(t, d, b, writes(2, at, data), "")
			does(t, d, b, reads(2, at, 32), data)
			does(t, d, b, reads(2, at, 16), data[:16])
			does(t, d, b, reads(2, at+1, 16), data[16:])
			sector(t, d, 2, at, data[:16])
			sector(t, d, 2, at+1, data[16:])
		}
	}
}

func TestBusy(t *testing.T) { // P14.3
	d := fourRows(t)
	if d.Busy() {
		t.Fatal("at first")
	}
	for tick := range 5 {
		start(t, d, tick, reads(1, 0, 16))
		end(t, d, tick+3, empty)
	}
	if d.Start(0, reads(1, 5, 16)) != api.ErrRange || d.Busy() {
		t.Fatal("what is not started")
	}
}

func TestSector(t *testing.T) { // P14.3, P14.1: all is 0 at first
	d := fourRows(t)
	for owner, count := range map[int]int{1: 5, 2: 64, 4: 0, 7: 1} {
		for i := range count {
			sector(t, d, owner, i, empty)
		}
		for _, i := range append([]int{count, count + 1, 64, 512, 1 << 32, math.MinInt + 2}, extremes...) {
			if s, e := d.Sector(owner, i); s != "" || e != api.ErrRange {
				t.Fatalf("%d %d %q %v", owner, i, s, e)
			}
		}
	}
	for _, owner := range nobody {
		for _, i := range append([]int{0, 1}, extremes...) {
			if s, e := d.Sector(owner, i); s != "" || e != api.ErrOwner {
				t.Fatalf("%d %d %q %v", owner, i, s, e)
			}
		}
	}
	start(t, d, 0, writes(1, 0, bytes('a', 1)))
	sector(t, d, 7, 0, empty) // a disk that is busy is asked as any other one
}

func TestLog(t *testing.T) { // P14.3
	d := fourRows(t)
	if l := d.Log(); len(l) != 0 {
		t.Fatal(l)
	}
	does(t, d, 9, writes(2, 62, bytes('a', 2)), "")
	does(t, d, 20, reads(2, 62, 32), bytes('a', 2)) // what is read is not told
	start(t, d, 30, writes(1, 4, bytes('c', 1)))
	notYet(t, d, 32, api.ErrState)
	end(t, d, 77, "")
	does(t, d, 5, disk.Job{Owner: 7, N: 32, Write: true, Data: bytes('d', 1)}, "")
	does(t, d, 5, disk.Job{Owner: 7, N: 16, Data: bytes('e', 2)}, bytes('d', 1))
	does(t, d, 6, writes(2, 63, bytes('b', 1)), "") // what is there already, too
	start(t, d, 7, writes(2, 0, bytes('z', 1)))
	want := []disk.Stored{
		{Tick: 12, Owner: 2, Sector: 62, Data: bytes('a', 1)},
		{Tick: 12, Owner: 2, Sector: 63, Data: bytes('b', 1)},
		{Tick: 77, Owner: 1, Sector: 4, Data: bytes('c', 1)},
		{Tick: 8, Owner: 7, Sector: 0, Data: bytes('d', 1)},
		{Tick: 9, Owner: 2, Sector: 63, Data: bytes('b', 1)},
	}
	if l := d.Log(); !slices.Equal(l, want) {
		t.Fatal(l)
	}
}

// model is what a disk does, from the document's words: each owner has sectors of its own.
type model struct {
	sectors map[int][]string
	busy    bool
	start   int
	job     disk.Job
	log     []disk.Stored
}

func (m *model) end(tick int) (string, api.Errno) {
	if !m.busy {
		return "", api.ErrEmpty
	}
	if tick < m.start+3 {
		return "", api.ErrState
	}
	m.busy = false
	mine, j := m.sectors[m.job.Owner], m.job
	if !j.Write {
		return strings.Join(mine[j.Sector:j.Sector+j.N/16], ""), api.OK
	}
	for i := range len(j.Data) / 16 {
		s := j.Data[16*i : 16*i+16]
		mine[j.Sector+i] = s
		m.log = append(m.log, disk.Stored{Tick: tick, Owner: j.Owner, Sector: j.Sector + i, Data: s})
	}
	return "", api.OK
}

func (m *model) fork() *model {
	f := *m
	f.log, f.sectors = slices.Clone(m.log), map[int][]string{}
	for owner, l := range m.sectors {
		f.sectors[owner] = slices.Clone(l)
	}
	return &f
}

// same asks all that a disk tells without changing it.
func (m *model) same(t *testing.T, d *disk.Device) {
	t.Helper()
	for owner, l := range m.sectors {
		for i, want := range l {
			sector(t, d, owner, i, want)
		}
	}
	if d.Busy() != m.busy {
		t.Fatal("busy", d.Busy())
	}
}

// P14.2 to P14.5: for long, all owners' jobs by turns, each held against sectors of its own; forks go on by themselves, in the midst of jobs too.
func TestAgainstModel(t *testing.T) {
	type pair struct {
		d *disk.Device
		m *model
	}
	var rows []disk.Part
	m := &model{sectors: map[int][]string{}}
	first := 0
	for owner := api.MaxClients; owner >= 1; owner-- { // side by side
		count := []int{0, 3, 1, 2, 0, 17, 5, 2, 9}[owner]
		rows = append(rows, row(owner, first, count))
		m.sectors[owner] = slices.Repeat([]string{empty}, count)
		first += count
	}
	pairs := []pair{{device(t, rows...), m}}
	state := uint32(7)
	draw := func(n int) int {
		state = state*1664525 + 1013904223
		return int(state>>8) % n
	}
	for step := range 15000 {
		p := pairs[draw(len(pairs))]
		owner := 1 + draw(api.MaxClients)
		count := len(p.m.sectors[owner])
		at, n, tick := draw(count+1)-draw(2), 1+draw(2), step+draw(4)
		j := reads(owner, at, 16*n)
		if draw(2) == 0 {
			j = writes(owner, at, bytes(byte(draw(256)), n))
		}
		if draw(2) == 0 {
			want := api.OK
			if p.m.busy {
				want = api.ErrState
			} else if at < 0 || at+n > count {
				want = api.ErrRange
			}
			if e := p.d.Start(tick, j); e != want {
				t.Fatal(step, j, e, want)
			}
			if want == api.OK {
				p.m.busy, p.m.start, p.m.job = true, tick, j
			}
		} else {
			s, e := p.d.End(tick)
			if want, err := p.m.end(tick); s != want || e != err {
				t.Fatalf("%d: %q %v, not %q %v", step, s, e, want, err)
			}
		}
		if step%2500 == 2499 {
			pairs = append(pairs, pair{p.d.Fork(), p.m.fork()})
		}
		p.m.same(t, p.d)
		if step%500 == 499 {
			for _, p := range pairs {
				p.m.same(t, p.d)
			}
		}
	}
	for i, p := range pairs {
		if l := p.d.Log(); !slices.Equal(l, p.m.log) {
			t.Fatal(i, "what was written")
		}
	}
}

// P14.4: sectors of others stay, the nearest ones too, on a disk that is full.
func TestSectorsStayApart(t *testing.T) {
	var rows []disk.Part
	for owner := 1; owner <= api.MaxClients; owner++ {
		rows = append(rows, row(owner, (owner*3%8)*api.MaxSectors, api.MaxSectors))
	}
	d := device(t, rows...)
	for owner := 1; owner <= api.MaxClients; owner++ {
		for i := range api.MaxSectors {
			sector(t, d, owner, i, empty) // none of those that were written by others
			does(t, d, i, writes(owner, i, bytes(byte(owner*api.MaxSectors+i), 1)), "")
		}
	}
	for owner := 1; owner <= api.MaxClients; owner++ {
		if e := d.Start(0, writes(owner, 63, bytes('x', 2))); e != api.ErrRange {
			t.Fatal(owner, e)
		}
		if e := d.Start(0, reads(owner, -1, 32)); e != api.ErrRange {
			t.Fatal(owner, e)
		}
		for i := range api.MaxSectors {
			sector(t, d, owner, i, bytes(byte(owner*api.MaxSectors+i), 1))
		}
	}
}

// P14.3, P4: a fork tells the same; what becomes of the one changes nothing of the other one.
func TestFork(t *testing.T) {
	d := fourRows(t)
	does(t, d, 1, writes(1, 0, bytes('a', 1)), "")
	start(t, d, 10, writes(1, 1, bytes('b', 1)))
	f := d.Fork()
	if f == d || !f.Busy() {
		t.Fatal("not a fork")
	}
	if e := f.Ask(reads(4, 0, 16)); e != api.ErrRange {
		t.Fatal(e)
	}
	sector(t, f, 1, 0, bytes('a', 1))
	notYet(t, f, 12, api.ErrState)
	end(t, f, 13, "")
	sector(t, d, 1, 1, empty)
	if !d.Busy() || len(d.Log()) != 1 {
		t.Fatal(d.Busy(), d.Log())
	}
	does(t, f, 14, writes(1, 0, bytes('c', 1)), "")
	notYet(t, d, 12, api.ErrState)
	end(t, d, 15, "")
	does(t, d, 20, writes(7, 0, bytes('d', 1)), "")
	for i, want := range []string{"ab", "cb"} {
		x := []*disk.Device{d, f}[i]
		sector(t, x, 1, 0, bytes(want[0], 1))
		sector(t, x, 1, 1, bytes(want[1], 1))
	}
	sector(t, f, 7, 0, empty)
	ahead := disk.Stored{Tick: 4, Owner: 1, Data: bytes('a', 1)}
	if l := d.Log(); !slices.Equal(l, []disk.Stored{ahead, {Tick: 15, Owner: 1, Sector: 1, Data: bytes('b', 1)}, {Tick: 23, Owner: 7, Data: bytes('d', 1)}}) {
		t.Fatal(l)
	}
	if l := f.Log(); !slices.Equal(l, []disk.Stored{ahead, {Tick: 13, Owner: 1, Sector: 1, Data: bytes('b', 1)}, {Tick: 17, Owner: 1, Data: bytes('c', 1)}}) {
		t.Fatal(l)
	}
}

// P4: whatever room is behind the list of what was written, a fork has none of it.
func TestForkOfLog(t *testing.T) {
	for n := range 20 {
		d := fourRows(t)
		for i := range n {
			does(t, d, i, writes(1, 0, bytes('a', 1)), "")
		}
		f := d.Fork()
		does(t, d, 100, writes(1, 0, bytes('b', 1)), "")
		does(t, f, 200, writes(1, 0, bytes('c', 1)), "")
		a, b := d.Log(), f.Log()
		if len(a) != n+1 || len(b) != n+1 || a[n].Tick != 103 || b[n].Tick != 203 || !slices.Equal(a[:n], b[:n]) {
			t.Fatal(n, a, b)
		}
	}
}

// P14.3: a nil disk.
func TestNil(t *testing.T) {
	var d *disk.Device
	for _, n := range append([]int{0, 1, 8, 16}, extremes...) {
		for _, j := range []disk.Job{{}, reads(1, 0, 16), reads(n, n, n), writes(n, n, bytes('a', 1))} {
			if e := d.Ask(j); e != api.ErrNil {
				t.Fatal(j, e)
			}
			if e := d.Start(n, j); e != api.ErrNil {
				t.Fatal(n, j, e)
			}
		}
		notYet(t, d, n, api.ErrNil)
		if s, e := d.Sector(n, n); s != "" || e != api.ErrNil {
			t.Fatal(n, s, e)
		}
	}
	if l, f := d.Log(), d.Fork(); d.Busy() || len(l) != 0 || f != nil {
		t.Fatal(d.Busy(), l, f)
	}
}

// P1: a disk that no call made, and one without rows, end every call.
func TestWithoutRows(t *testing.T) {
	for _, d := range []*disk.Device{{}, device(t), device(t).Fork()} {
		for _, n := range append([]int{0, 1, 8, 9}, extremes...) {
			for _, j := range []disk.Job{{}, reads(n, n, n), reads(n, 0, 16), writes(n, 0, bytes('a', 1))} {
				if e := d.Ask(j); e != api.ErrOwner {
					t.Fatal(j, e)
				}
				if e := d.Start(1, j); e != api.ErrOwner {
					t.Fatal(j, e)
				}
			}
			notYet(t, d, n, api.ErrEmpty)
			if s, e := d.Sector(n, n); s != "" || e != api.ErrOwner {
				t.Fatal(n, s, e)
			}
		}
		if l := d.Fork().Log(); d.Busy() || len(l) != 0 {
			t.Fatal(l)
		}
	}
}

// P3: what is handed in stays as it is, spare room too, and is not kept.
func TestArgumentsStay(t *testing.T) {
	room := []disk.Part{row(2, 5, 1), row(1, 6, 0), row(7, 7, 7)}
	was := slices.Clone(room)
	d := device(t, room[:2]...)
	if !slices.Equal(room, was) {
		t.Fatal(room)
	}
	room[0], room[1] = row(3, 8, 9), row(4, 9, 9)
	does(t, d, 0, writes(2, 0, bytes('a', 1)), "")
	for owner, want := range map[int]api.Errno{1: api.ErrRange, 2: api.OK, 3: api.ErrOwner, 4: api.ErrOwner, 7: api.ErrOwner} {
		if e := d.Ask(reads(owner, 0, 16)); e != want {
			t.Fatal(owner, e)
		}
	}
}

// P3: what is answered is new memory.
func TestAnswersAreNew(t *testing.T) {
	d := fourRows(t)
	for i := range 5 {
		does(t, d, i, writes(1, 0, bytes('a', 1)), "")
	}
	a, b := d.Log(), d.Log()
	a[0] = disk.Stored{}
	_ = append(a[:2], disk.Stored{}, disk.Stored{})
	_ = append(b, disk.Stored{Tick: 77})
	does(t, d, 5, writes(1, 1, bytes('b', 1)), "")
	_ = append(b, disk.Stored{Tick: 78})
	if l := d.Log(); !slices.Equal(l[:5], b) || l[5] != (disk.Stored{Tick: 8, Owner: 1, Sector: 1, Data: bytes('b', 1)}) {
		t.Fatal(l)
	}
}

// P6: disks stand by themselves, one beside the other.
func TestDisksStayApart(t *testing.T) {
	a, b := fourRows(t), fourRows(t)
	does(t, a, 0, writes(1, 0, bytes('a', 1)), "")
	start(t, a, 0, reads(1, 0, 16))
	sector(t, b, 1, 0, empty)
	if b.Busy() || len(b.Log()) != 0 {
		t.Fatal(b.Busy(), b.Log())
	}
}

func TestExample(t *testing.T) {
	d := device(t, row(1, 0, 1))
	start(t, d, 10, reads(1, 0, 16))
	notYet(t, d, 12, api.ErrState)
	end(t, d, 13, empty)
}
