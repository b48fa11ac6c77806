package asm_test

import (
	"math"
	"slices"
	"strconv"
	"strings"
	"testing"

	"campanile/api"
	"campanile/asm"
	"campanile/code"
)

// The calls have just these signatures.
var (
	_ func(string) (string, int, api.Errno)      = asm.Assemble
	_ func(string) ([]asm.Label, int, api.Errno) = asm.Labels
	_ func([]api.Instr) string                   = asm.Print

	_ = struct {
		Name string
		At   int
	}(asm.Label{})
)

// dice are numbers that come the same each time.
type dice uint32

// below is a number from 0 on, below n.
func (d *dice) below(n int) int {
	*d = *d*1664525 + 1013904223
	return int(uint32(*d)>>8) % n
}

// one is one of some words.
func (d *dice) one(words ...string) string { return words[d.below(len(words))] }

// wrong holds a text against the line that is wrong, and why, in both calls.
func wrong(t *testing.T, text string, line int, why api.Errno) {
	t.Helper()
	if s, n, e := asm.Assemble(text); s != "" || n != line || e != why {
		t.Errorf("Assemble %.60q: %q %d %v, not %d %v", text, s, n, e, line, why)
	}
	if l, n, e := asm.Labels(text); len(l) != 0 || n != line || e != why {
		t.Errorf("Labels %.60q: %v %d %v, not %d %v", text, l, n, e, line, why)
	}
}

// right holds a text against its bytes.
func right(t *testing.T, text, want string) {
	t.Helper()
	if s, n, e := asm.Assemble(text); s != want || n != 0 || e != api.OK {
		t.Errorf("%.60q: %q %d %v, not %q", text, s, n, e, want)
	}
}

// P20.1: each kind of line, with the numbers at their edges.
func TestLines(t *testing.T) {
	for _, c := range [][2]string{
		{"set r1 end\njump end\nend:\nstop", "\x01\x01\x08\x00\x0b\x00\x08\x00\x00\x00\x00\x00"}, // the document's example
		{"", ""},
		{"\n", ""},
		{"\n\n\n", ""},
		{"#", ""},
		{"# any \x00\xff bytes: and blanks ", ""},
		{"#stop", ""},
		{"stop", "\x00\x00\x00\x00"},
		{"stop\n", "\x00\x00\x00\x00"},
		{"\nstop\n#\nrest", "\x00\x00\x00\x00\x0f\x00\x00\x00"},
		{"set r0 0", "\x01\x00\x00\x00"},
		{"set r7 65535", "\x01\x07\xff\xff"},
		{"set r3 513", "\x01\x03\x01\x02"},
		{"move r1 r2", "\x02\x01\x02\x00"},
		{"add r0 r7", "\x03\x00\x07\x00"},
		{"sub r7 r0", "\x04\x07\x00\x00"},
		{"and r1 r1", "\x05\x01\x01\x00"},
		{"xor r1 r2", "\x06\x01\x02\x00"},
		{"read r1 r2", "\x07\x01\x02\x00"},
		{"write r1 r2", "\x08\x01\x02\x00"},
		{"read2 r1 r2", "\x09\x01\x02\x00"},
		{"write2 r1 r2", "\x0a\x01\x02\x00"},
		{"jump 0", "\x0b\x00\x00\x00"},
		{"jump 65535", "\x0b\x00\xff\xff"},
		{"zero r5 256", "\x0c\x05\x00\x01"},
		{"less r6 9", "\x0d\x06\x09\x00"},
		{"call r7 65535", "\x0e\x07\xff\xff"},
		{"call r0 0", "\x0e\x00\x00\x00"},
		{"rest", "\x0f\x00\x00\x00"},
		{"byte 0\nbyte 255\nbyte 10", "\x00\xff\x0a"},
		{"two 0\ntwo 65535\ntwo 513", "\x00\x00\xff\xff\x01\x02"},
		{"byte 1\na:\ntwo a\nset r1 a\nzero r2 b\nless r3 a\njump b\nb:", "\x01\x01\x00\x01\x01\x01\x00\x0c\x02\x13\x00\x0d\x03\x01\x00\x0b\x00\x13\x00"},
		// Labels may have the names of lines, and be alike only in part.
		{"stop:\nbyte 7\nbyte:\njump byte\ntwo stop\ntwo:\ntwo two", "\x07\x0b\x00\x01\x00\x00\x00\x07\x00"},
		{"a:\nbyte 1\naa:\nbyte 2\nab:\ntwo aa\ntwo ab\ntwo a", "\x01\x02\x01\x00\x02\x00\x00\x00"},
		{"abcdefghijklmnop:\nqrstuvwxyz:\ntwo abcdefghijklmnop\ntwo qrstuvwxyz", "\x00\x00\x00\x00"},
		{"r:\nbyte 0\ntwo r", "\x00\x00\x00"},
	} {
		right(t, c[0], c[1])
	}
}

// P20.1: lines that are none.
func TestForm(t *testing.T) {
	for _, s := range []string{
		" ", "  ", "\t", "\r", "stop\r", " stop", "stop ", "  stop", "stop 0", "rest 1", "rest r0", "Stop", "STOP", "nop", "s", "stopp",
		" # no remark", " #", "stop # no remark", "stop#",
		"set", "set ", "set r1", "set r1 ", "set r1  1", "set  r1 1", "set r1 1 ", "set r1 1 1", " set r1 1", "set\tr1 1", "set r1\t1",
		"set r8 1", "set r9 1", "set r 1", "set r01 1", "set r10 1", "set r-1 1", "set R1 1", "set 1 1", "set x1 1", "set r1: 1", "set rr1 1", "set a 1\na:",
		"set r1 r1", "set r1 65536", "set r1 -1", "set r1 +1", "set r1 01", "set r1 00", "set r1 0x1", "set r1 1_0", "set r1 1a", "set r1 a1", "set r1 1.0", "set r1 99999",
		"set r1 18446744073709551617", "set r1 " + strings.Repeat("9", 400), "set r1 A", "set r1 a:", "set r1 a-b", "set r1 \xff", "set r1 ١",
		"set r1 abcdefghijklmnopq", "jump abcdefghijklmnopq", "two abcdefghijklmnopq",
		"move r1", "move r1 5", "move r1 r8", "move r8 r1", "move 1 r1", "move r1 r1 r1", "move r1 a\na:", "move r1 r",
		"add r1 1", "sub r1 1", "and r1 1", "xor r1 1", "read r1 1", "write r1 1", "read2 r1 1", "write2 r1 1",
		"jump", "jump ", "jump r1", "jump r1 1", "jump 65536", "jump 1 2", "zero 1", "zero r1", "less 1", "less r1 r2",
		"call r1", "call 1", "call r1 a\na:", "call r1 r2", "call r1 65536", "call r8 1", "call r1 1 1",
		"byte", "byte ", "byte 256", "byte -1", "byte 00", "byte 1 2", "byte a\na:", "byte r1", "byte 65536",
		"two", "two ", "two 65536", "two r1", "two 1 2", "two 01",
		":", " a:", "a: ", "a :", "a::", "A:", "aB:", "a1:", "r1:", "1:", "a b:", "abcdefghijklmnopq:", "a: stop", "é:", "stop:stop", "a", "a\x00:", "`:", "{:",
	} {
		wrong(t, s, 1, api.ErrForm)
		wrong(t, "# one\n\nbyte 1\n"+s, 4, api.ErrForm)
	}
	// All letters may be in a label's name, and all digits in a number.
	right(t, "abcdefghijklm:\nnopqrstuvwxyz:\ntwo 12345\ntwo 6789", "\x39\x30\x85\x1a")
}

// P20.1: a label that stands twice, a name that is no label, and which error
// is the first.
func TestNames(t *testing.T) {
	wrong(t, "a:\na:", 2, api.ErrName)
	wrong(t, "a:\nrest\n#\na:\nb:\nb:", 4, api.ErrName)
	wrong(t, "a:\nb:\na:\nbad", 3, api.ErrName)
	wrong(t, "a:\nbad\na:", 2, api.ErrForm)
	wrong(t, "jump b", 1, api.ErrName)
	wrong(t, "rest\ntwo b\nset r1 c\nd:", 2, api.ErrName)
	wrong(t, "rest\ntwo a\nset r1 c\njump d\na:", 3, api.ErrName)
	wrong(t, "less r1 aa\na:", 1, api.ErrName)
	wrong(t, "zero r1 stop", 1, api.ErrName)
	// What is wrong with a line is told ahead of a name that is no label.
	wrong(t, "jump b\na:\nbad", 3, api.ErrForm)
	wrong(t, "jump b\na:\na:", 3, api.ErrName)
	wrong(t, "jump b\n"+strings.Repeat("rest\n", 256), 257, api.ErrLimit)
	wrong(t, "jump r", 1, api.ErrName)
}

// P20.1: as many bytes as may be, of the text and of the program.
func TestLimits(t *testing.T) {
	full := strings.Repeat("rest\n", api.MaxSize/code.Size)
	bytes := strings.Repeat("\x0f\x00\x00\x00", api.MaxSize/code.Size)
	right(t, full, bytes)
	right(t, full+"#\n\na:", bytes)
	if l, n, e := asm.Labels(full + "end:\n"); !slices.Equal(l, []asm.Label{{Name: "end", At: api.MaxSize}}) || n != 0 || e != api.OK {
		t.Error(l, n, e)
	}
	wrong(t, full+"byte 0", 257, api.ErrLimit)
	wrong(t, full+"two 0", 257, api.ErrLimit)
	wrong(t, full+"stop", 257, api.ErrLimit)
	wrong(t, full+"#\na:\njump a\nbad", 259, api.ErrLimit)
	wrong(t, full+"byte 256", 257, api.ErrForm)
	wrong(t, full+"a:\na:\nstop", 258, api.ErrName)
	short := "byte 1\n" + full[5:]
	right(t, short+"byte 1\nbyte 1\nbyte 1", "\x01"+bytes[4:]+"\x01\x01\x01")
	wrong(t, short+"rest", 257, api.ErrLimit)
	wrong(t, short+"byte 1\nbyte 1\ntwo 1", 259, api.ErrLimit)
	right(t, short+"byte 1\ntwo end\nend:", "\x01"+bytes[4:]+"\x01\x00\x04")

	right(t, strings.Repeat("#", 65536), "")
	right(t, strings.Repeat("\n", 65532)+"rest", "\x0f\x00\x00\x00")
}

// P20.1: a text that is too long is told at line 0, whatever is in it.
func TestLongTexts(t *testing.T) {
	for _, s := range []string{"#", "\n", "bad\n", "a:\n", "\x00"} {
		wrong(t, strings.Repeat(s, 65536/len(s)+1), 0, api.ErrLimit)
	}
	wrong(t, strings.Repeat("#", 65537), 0, api.ErrLimit)
	wrong(t, strings.Repeat("\n", 65535)+":", 65536, api.ErrForm)
}

// P20.1: Labels are in order, and their places are how many bytes are ahead.
func TestLabels(t *testing.T) {
	want := []asm.Label{{Name: "z", At: 0}, {Name: "b", At: 0}, {Name: "y", At: 4}, {Name: "a", At: 5}, {Name: "stop", At: 7}}
	text := "z:\nb:\nrest\ny:\nbyte 1\n# x:\na:\ntwo y\nstop:"
	l, n, e := asm.Labels(text)
	if !slices.Equal(l, want) || n != 0 || e != api.OK {
		t.Fatal(l, n, e)
	}
	l[0].Name = "changed"
	if again, _, _ := asm.Labels(text); !slices.Equal(again, want) {
		t.Error("two answers share memory")
	}
	if l, n, e := asm.Labels("rest\n"); len(l) != 0 || n != 0 || e != api.OK {
		t.Error(l, n, e)
	}
}

// plain is what a text is, from the document's words: two times through it,
// with the lines' forms held against their rows of the document's table.
func plain(text string) (out string, labels []asm.Label, line int, why api.Errno) {
	lines := strings.Split(text, "\n")
	for again := range 2 {
		out = ""
		for i, s := range lines {
			made, e := plainLine(s, labels, again == 1)
			name := strings.TrimSuffix(s, ":")
			switch {
			case e != api.OK:
				return "", nil, i + 1, e
			case again == 0 && name != s && s[0] != '#':
				if place(labels, name) >= 0 {
					return "", nil, i + 1, api.ErrName
				}
				labels = append(labels, asm.Label{Name: name, At: len(out)})
			case len(out)+len(made) > api.MaxSize:
				return "", nil, i + 1, api.ErrLimit
			}
			out += made
		}
	}
	return out, labels, 0, api.OK
}

func place(labels []asm.Label, name string) int {
	for _, l := range labels {
		if l.Name == name {
			return l.At
		}
	}
	return -1
}

func isLabel(s string) bool {
	return len(s) >= 1 && len(s) <= 16 && strings.Trim(s, "abcdefghijklmnopqrstuvwxyz") == ""
}

// forms are the rows of the document's table: the letters stand for a register
// (X), a value (V), a number (N) and a byte (B).
var forms = strings.Split("stop,set X V,move X X,add X X,sub X X,and X X,xor X X,read X X,write X X,read2 X X,write2 X X,jump V,zero X V,less X V,call X N,rest,byte B,two V", ",")

// plainLine is what a line makes; places are asked for only where they are known.
func plainLine(s string, labels []asm.Label, known bool) (string, api.Errno) {
	if s == "" || s[0] == '#' || strings.HasSuffix(s, ":") && isLabel(s[:len(s)-1]) {
		return "", api.OK
	}
	words := strings.Split(s, " ")
	row := slices.IndexFunc(forms, func(f string) bool { return strings.Split(f, " ")[0] == words[0] })
	if row < 0 {
		return "", api.ErrForm
	}
	form := strings.Split(forms[row], " ")
	if len(form) != len(words) {
		return "", api.ErrForm
	}
	var numbers []int
	for i, f := range form[1:] {
		n, e := plainWord(f, words[i+1], labels, known)
		if e != api.OK {
			return "", e
		}
		numbers = append(numbers, n)
	}
	switch {
	case words[0] == "byte":
		return string([]byte{byte(numbers[0])}), api.OK
	case words[0] == "two":
		return string([]byte{byte(numbers[0] % 256), byte(numbers[0] / 256)}), api.OK
	case words[0] == "jump":
		numbers = []int{0, numbers[0]}
	case len(numbers) == 0:
		numbers = []int{0, 0}
	}
	return string([]byte{byte(row), byte(numbers[0]), byte(numbers[1] % 256), byte(numbers[1] / 256)}), api.OK
}

func plainWord(f, w string, labels []asm.Label, known bool) (int, api.Errno) {
	if f == "V" && isLabel(w) {
		at := place(labels, w)
		switch {
		case !known:
			return 0, api.OK
		case at < 0:
			return 0, api.ErrName
		}
		return at, api.OK
	}
	most := map[string]int{"X": 7, "B": 255, "N": 65535, "V": 65535}[f]
	if f == "X" {
		if w == "" || w[0] != 'r' {
			return 0, api.ErrForm
		}
		w = w[1:]
	}
	n, err := strconv.Atoi(w)
	if err != nil || strconv.Itoa(n) != w || n < 0 || n > most {
		return 0, api.ErrForm
	}
	return n, api.OK
}

// drawnLine is a line that is mostly right.
func drawnLine(d *dice) string {
	switch d.below(32) {
	case 0, 1, 2:
		return d.one("", "#", "# stop", "#:")
	case 3:
		return d.one("a:", "b:", "c:", "d:", "e:", "f:", "g:", "h:", "i:", "jj:", "kk:", "ll:")
	}
	words := strings.Split(forms[d.below(len(forms))], " ")
	for i, w := range words {
		switch w {
		case "X":
			words[i] = "r" + strconv.Itoa(d.below(8))
		case "B":
			words[i] = strconv.Itoa(d.below(256))
		case "N":
			words[i] = strconv.Itoa(d.below(65536))
		case "V":
			words[i] = d.one("a", "b", "c", "d", "e", strconv.Itoa(d.below(65536)), "0", "65535")
		}
	}
	s := strings.Join(words, " ")
	if d.below(60) > 0 {
		return s
	}
	at := d.below(len(s) + 1)
	return s[:at] + d.one(" ", ":", "0", "r", "9", "A", "\t", "#", "\x00") + s[at:]
}

// P20.1: drawn texts are held against the plain reading.
func TestDrawnTexts(t *testing.T) {
	d := dice(20)
	count := map[api.Errno]int{}
	for k := range 6000 {
		var lines []string
		if k%2 == 0 {
			lines = strings.Split("a: b: c: d: e:", " ")[:d.below(6)]
		}
		for range d.below(30) {
			lines = append(lines, drawnLine(&d))
		}
		if k%50 == 0 {
			for range 300 {
				lines = append(lines, d.one("rest", "byte 1", "two 7", "jump 3", "set r1 5", "zero r2 9", "move r1 r2"))
			}
		}
		for i := range lines { // the labels are anywhere
			j := d.below(i + 1)
			lines[i], lines[j] = lines[j], lines[i]
		}
		text := strings.Join(lines, "\n")
		want, labels, line, why := plain(text)
		count[why]++
		if s, n, e := asm.Assemble(text); s != want || n != line || e != why {
			t.Fatalf("%q: %q %d %v, not %q %d %v", text, s, n, e, want, line, why)
		}
		if l, n, e := asm.Labels(text); !slices.Equal(l, labels) || n != line || e != why {
			t.Fatalf("%q: %v %d %v, not %v %d %v", text, l, n, e, labels, line, why)
		}
	}
	for _, e := range []api.Errno{api.OK, api.ErrForm, api.ErrName, api.ErrLimit} {
		if count[e] < 20 {
			t.Error("too few drawn:", count)
		}
	}
}

// P20.1: texts of any bytes end, and do not panic.
func TestAnyBytes(t *testing.T) {
	d := dice(21)
	for range 3000 {
		b := make([]byte, d.below(40))
		for i := range b {
			b[i] = "\n\n :#r019astopjumptwobyte\x00\xff"[d.below(27)]
			if d.below(9) == 0 {
				b[i] = byte(d.below(256))
			}
		}
		want, labels, line, why := plain(string(b))
		s, n, e := asm.Assemble(string(b))
		l, n2, e2 := asm.Labels(string(b))
		if s != want || n != line || e != why || !slices.Equal(l, labels) || n2 != line || e2 != why {
			t.Fatalf("%q: %q %d %v", b, s, n, e)
		}
	}
}

// P20.2: a line for each instruction that may be.
func TestPrint(t *testing.T) {
	all := []api.Instr{
		{}, {Code: api.Set, X: 1, N: 65535}, {Code: api.Move, X: 2, N: 3}, {Code: api.Add, X: 7}, {Code: api.Sub, N: 7}, {Code: api.And, X: 1, N: 1},
		{Code: api.Xor, X: 4, N: 5}, {Code: api.Read, X: 1, N: 2}, {Code: api.Write, X: 1, N: 2}, {Code: api.Read2, X: 1, N: 2}, {Code: api.Write2, X: 1, N: 2},
		{Code: api.Jump, N: 8}, {Code: api.Zero, X: 3, N: 10}, {Code: api.Less, X: 3, N: 100}, {Code: api.Call, X: 3, N: 1}, {Code: api.Rest},
	}
	want := "stop\nset r1 65535\nmove r2 r3\nadd r7 r0\nsub r0 r7\nand r1 r1\nxor r4 r5\nread r1 r2\nwrite r1 r2\nread2 r1 r2\nwrite2 r1 r2\n" +
		"jump 8\nzero r3 10\nless r3 100\ncall r3 1\nrest\n"
	if p := asm.Print(all); p != want {
		t.Errorf("%q", p)
	}
	for _, none := range [][]api.Instr{nil, {}, {{Code: 16}}, {{Code: 255, X: 1}, {X: 1}, {N: 1}, {Code: api.Rest, N: 1}}} {
		if p := asm.Print(none); p != "" {
			t.Errorf("%q", p)
		}
	}
	var mixed []api.Instr
	for _, i := range all {
		for _, n := range []int{math.MinInt, -1, 65536, math.MaxInt} {
			mixed = append(mixed, api.Instr{Code: i.Code, X: i.X, N: n}, api.Instr{Code: i.Code, X: n, N: i.N})
		}
		mixed = append(mixed, i)
	}
	was := slices.Clone(mixed)
	if p := asm.Print(mixed); p != want {
		t.Errorf("%q", p)
	}
	if !slices.Equal(mixed, was) {
		t.Error("the list is changed")
	}
}

// P20.3: what is printed is assembled to these instructions' bytes.
func TestPrintedIsAssembled(t *testing.T) {
	d := dice(22)
	for range 2000 {
		var l []api.Instr
		var want string
		for range d.below(260) {
			i := api.Instr{Code: api.Code(d.below(17)), X: d.below(9), N: d.below(65537) >> d.below(17)}
			if d.below(4) == 0 {
				i.X, i.N = 0, 0
			}
			s, e := code.Put(i)
			if e == api.OK && len(want) == api.MaxSize {
				continue
			}
			l, want = append(l, i), want+s
		}
		right(t, asm.Print(l), want)
	}
}
