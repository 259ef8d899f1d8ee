// Package cut is layer 1: see shared/doc/01-cut.md.
package cut

import (
	"slices"

	"toll/api"
)

// Cutter takes bytes from the front.
type Cutter struct {
	made  bool // a Cutter that New did not make is as none
	bytes []byte
	at    int
	err   api.Errno
}

// Pad is bytes that are laid.
type Pad struct {
	made  bool // a Pad that Lay did not make is as none
	bytes []byte
}

// number is what stands in frames, its highest byte first.
type number interface{ byte | uint16 | uint32 }

// New: P1.1. The bytes are copied, as the caller may change its own later.
func New(b []byte) *Cutter { return &Cutter{made: true, bytes: slices.Clone(b)} }

// Byte: P1.1.
func (c *Cutter) Byte() byte { return takeNumber[byte](c, 1) }

// Two: P1.1.
func (c *Cutter) Two() uint16 { return takeNumber[uint16](c, 2) }

// Four: P1.1.
func (c *Cutter) Four() uint32 { return takeNumber[uint32](c, 4) }

// Take: P1.1.
func (c *Cutter) Take(n int) []byte { return slices.Clone(c.take(n)) }

// Skip: P1.1.
func (c *Cutter) Skip(n int) { c.take(n) }

// Rest: P1.1.
func (c *Cutter) Rest() []byte { return c.Take(c.Left()) }

// Left: P1.1.
func (c *Cutter) Left() int {
	if c.Err() != api.OK {
		return 0
	}
	return len(c.bytes) - c.at
}

// At: P1.1.
func (c *Cutter) At() int {
	if c.none() {
		return 0
	}
	return c.at
}

// Err: P1.1.
func (c *Cutter) Err() api.Errno {
	if c.none() {
		return api.ErrNil
	}
	return c.err
}

// Fail: P1.1.
func (c *Cutter) Fail(e api.Errno) {
	if c.Err() == api.OK {
		c.err = e
	}
}

// Mac: P1.1.
func (c *Cutter) Mac() api.Mac {
	var m api.Mac
	copy(m[:], c.take(len(m)))
	return m
}

func (c *Cutter) none() bool { return c == nil || !c.made }

// take answers a piece of the cutter's own memory: who hands it out copies it.
func (c *Cutter) take(n int) []byte {
	if n < 0 {
		c.Fail(api.ErrArg)
	} else if n > c.Left() {
		c.Fail(api.ErrShort)
	}
	if c.Err() != api.OK {
		return nil
	}
	from := c.at
	c.at += n
	return c.bytes[from:c.at]
}

func takeNumber[T number](c *Cutter, width int) T {
	var n uint64
	for _, b := range c.take(width) {
		n = n<<8 | uint64(b)
	}
	return T(n)
}

// Lay: P1.2.
func Lay() *Pad { return &Pad{made: true} }

// Byte: P1.2.
func (p *Pad) Byte(v ...byte) *Pad { return layNumbers(p, 1, v...) }

// Two: P1.2.
func (p *Pad) Two(v ...uint16) *Pad { return layNumbers(p, 2, v...) }

// Four: P1.2.
func (p *Pad) Four(v ...uint32) *Pad { return layNumbers(p, 4, v...) }

// Mac: P1.2.
func (p *Pad) Mac(v ...api.Mac) *Pad {
	for _, m := range v {
		p.Byte(m[:]...)
	}
	return p
}

// Fill: P1.2.
func (p *Pad) Fill(at int, v uint16) api.Errno {
	if p.none() {
		return api.ErrNil
	}
	// at + 2 could wrap round.
	if at < 0 || at > len(p.bytes)-2 {
		return api.ErrArg
	}
	p.bytes[at] = byte(v >> 8)
	p.bytes[at+1] = byte(v)
	return api.OK
}

// Len: P1.2.
func (p *Pad) Len() int {
	if p.none() {
		return 0
	}
	return len(p.bytes)
}

// Done: P1.2. A copy, as the pad may be laid on and filled later.
func (p *Pad) Done() []byte {
	if p.none() {
		return nil
	}
	return slices.Clone(p.bytes)
}

func (p *Pad) none() bool { return p == nil || !p.made }

func layNumbers[T number](p *Pad, width int, v ...T) *Pad {
	if p.none() {
		return p
	}
	for _, n := range v {
		for shift := 8 * (width - 1); shift >= 0; shift -= 8 {
			p.bytes = append(p.bytes, byte(uint64(n)>>shift))
		}
	}
	return p
}

// Sum: P1.3.
func Sum(parts ...[]byte) uint16 {
	var sum uint64
	shift := 8 // kept from part to part: a word may begin in one and end in the next
	for _, part := range parts {
		for _, b := range part {
			sum += uint64(b) << shift
			shift = 8 - shift
		}
	}
	for sum > 0xffff {
		sum = sum>>16 + sum&0xffff
	}
	return ^uint16(sum)
}
