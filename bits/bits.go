// Package bits is layer 2: numbers as bytes, read one behind the other.
package bits

import (
	mathbits "math/bits"

	"campanile/api"
)

// trouble is what first went wrong. A reader and a writer have one inside, and
// do nothing more once it is there, so no later error takes its place.
type trouble struct {
	errno api.Errno
}

func (t *trouble) fail(e api.Errno) {
	t.errno = e
}

func (t *trouble) failed() bool {
	return t.errno != api.OK
}

// Reader goes through bytes.
type Reader struct {
	trouble
	text string
	at   int
}

// Writer puts bytes one behind the other.
type Writer struct {
	trouble
	out []byte
}

// Low is the lower byte of a number.
func Low(n int) int { return n & 255 }

// High is the higher byte of a number.
func High(n int) int { return n >> 8 & 255 }

// Two is the number of two bytes.
func Two(low, high int) int { return Low(low) | Low(high)<<8 }

// Put is a number's two bytes.
func Put(n int) string {
	return string([]byte{byte(Low(n)), byte(High(n))})
}

// Count is how many bits are 1.
func Count(n int) int { return mathbits.OnesCount16(uint16(n)) }

// New is a reader of bytes.
func New(s string) *Reader { return &Reader{text: s} }

// Byte is the next byte.
func (r *Reader) Byte() int {
	s := r.Text(1)
	if len(s) < 1 {
		return 0
	}
	return int(s[0])
}

// Two is the next number of two bytes.
func (r *Reader) Two() int {
	s := r.Text(2)
	if len(s) < 2 {
		return 0
	}
	return Two(int(s[0]), int(s[1]))
}

// Text is the next bytes.
func (r *Reader) Text(n int) string {
	if r == nil || r.failed() {
		return ""
	}
	if n < 0 {
		r.fail(api.ErrArg)
		return ""
	}
	// n is not added to the place: it may be of any size.
	if n > len(r.text)-r.at {
		r.fail(api.ErrEnd)
		return ""
	}
	from := r.at
	r.at += n
	return r.text[from:r.at]
}

// Left is how many bytes are left.
func (r *Reader) Left() int {
	if r == nil || r.failed() {
		return 0
	}
	return len(r.text) - r.at
}

// At is how many bytes were read.
func (r *Reader) At() int {
	if r == nil {
		return 0
	}
	return r.at
}

// Err is what went wrong.
func (r *Reader) Err() api.Errno {
	// A promoted method can't be asked of nil, so only the number is promoted.
	if r == nil {
		return api.ErrNil
	}
	return r.errno
}

// Byte writes a byte.
func (w *Writer) Byte(n int) {
	if w.takes(n, 255) {
		w.out = append(w.out, byte(n))
	}
}

// Two writes a number as two bytes.
func (w *Writer) Two(n int) {
	if w.takes(n, 65535) {
		w.out = append(w.out, Put(n)...)
	}
}

// Text writes bytes.
func (w *Writer) Text(s string) {
	if w != nil && !w.failed() {
		w.out = append(w.out, s...)
	}
}

// Bytes is all that was written.
func (w *Writer) Bytes() string {
	if w == nil || w.failed() {
		return ""
	}
	return string(w.out)
}

// Err is what went wrong.
func (w *Writer) Err() api.Errno {
	if w == nil {
		return api.ErrNil
	}
	return w.errno
}

// takes tells whether a number is to be written; one that is not from 0 to
// most becomes the writer's error.
func (w *Writer) takes(n, most int) bool {
	if w == nil || w.failed() {
		return false
	}
	if n < 0 || n > most {
		w.fail(api.ErrArg)
		w.out = nil // nobody can ask for it any more
		return false
	}
	return true
}
