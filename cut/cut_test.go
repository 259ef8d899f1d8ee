package cut

import (
	"bytes"
	"math"
	"math/rand"
	"slices"
	"testing"

	"toll/api"
)

// takers are all calls that take; what each one tells is told as bytes.
func takers() map[string]func(c *Cutter) []byte {
	return map[string]func(c *Cutter) []byte{
		"Byte": func(c *Cutter) []byte { return []byte{c.Byte()} },
		"Two":  func(c *Cutter) []byte { v := c.Two(); return []byte{byte(v >> 8), byte(v)} },
		"Four": func(c *Cutter) []byte {
			v := c.Four()
			return []byte{byte(v >> 24), byte(v >> 16), byte(v >> 8), byte(v)}
		},
		"Mac":     func(c *Cutter) []byte { v := c.Mac(); return v[:] },
		"Take(0)": func(c *Cutter) []byte { return c.Take(0) },
		"Take(3)": func(c *Cutter) []byte { return c.Take(3) },
		"Rest":    func(c *Cutter) []byte { return c.Rest() },
		"Skip(3)": func(c *Cutter) []byte { c.Skip(3); return nil },
	}
}

func wantState(t *testing.T, name string, c *Cutter, at, left int, e api.Errno) {
	t.Helper()
	if c.At() != at || c.Left() != left || c.Err() != e {
		t.Errorf("%s: At %d, Left %d, Err %d; want %d, %d, %d", name, c.At(), c.Left(), c.Err(), at, left, e)
	}
}

func wantBytes(t *testing.T, name string, got, want []byte) {
	t.Helper()
	if !bytes.Equal(got, want) {
		t.Errorf("%s: % x, want % x", name, got, want)
	}
}

func wantAllZero(t *testing.T, name string, got []byte) {
	t.Helper()
	for _, b := range got {
		if b != 0 {
			t.Errorf("%s: % x, want nothing", name, got)
		}
	}
}

// P1.1: each call takes its bytes, the highest first.
func TestTake(t *testing.T) {
	c := New([]byte{0xff, 0x81, 0x02, 0xf3, 4, 5, 6, 7, 8, 9, 10, 11, 12, 0xfd, 14, 15, 16, 17, 18, 19})
	wantState(t, "New", c, 0, 20, api.OK)
	if v := c.Byte(); v != 0xff {
		t.Errorf("Byte: %x", v)
	}
	wantState(t, "Byte", c, 1, 19, api.OK)
	if v := c.Two(); v != 0x8102 {
		t.Errorf("Two: %x", v)
	}
	wantState(t, "Two", c, 3, 17, api.OK)
	if v := c.Four(); v != 0xf3040506 {
		t.Errorf("Four: %x", v)
	}
	wantState(t, "Four", c, 7, 13, api.OK)
	if v := c.Mac(); v != (api.Mac{7, 8, 9, 10, 11, 12}) {
		t.Errorf("Mac: %x", v)
	}
	wantState(t, "Mac", c, 13, 7, api.OK)
	wantBytes(t, "Take(2)", c.Take(2), []byte{0xfd, 14})
	wantState(t, "Take(2)", c, 15, 5, api.OK)
	wantBytes(t, "Take(0)", c.Take(0), nil)
	wantState(t, "Take(0)", c, 15, 5, api.OK)
	c.Skip(1)
	wantState(t, "Skip(1)", c, 16, 4, api.OK)
	wantBytes(t, "Rest", c.Rest(), []byte{16, 17, 18, 19})
	wantState(t, "Rest", c, 20, 0, api.OK)
	wantBytes(t, "Rest at the end", c.Rest(), nil)
	wantBytes(t, "Take(0) at the end", c.Take(0), nil)
	c.Skip(0)
	wantState(t, "the end", c, 20, 0, api.OK)
}

// P1.1: just as many as there are may be taken, and not one more.
func TestTakeUpToTheEnd(t *testing.T) {
	all := []byte{0xf1, 2, 3, 4, 5, 0xf6, 7}
	sizes := map[string]int{"Byte": 1, "Two": 2, "Four": 4, "Mac": 6, "Take(0)": 0, "Take(3)": 3, "Skip(3)": 3}
	for name, take := range takers() {
		for have := range len(all) + 1 {
			c := New(all[:have])
			got := take(c)
			n, fixed := sizes[name]
			if !fixed {
				n = have
			}
			if n > have {
				wantAllZero(t, name, got)
				wantState(t, name, c, 0, 0, api.ErrShort)
				continue
			}
			if name != "Skip(3)" {
				wantBytes(t, name, got, all[:n])
			}
			wantState(t, name, c, n, have-n, api.OK)
		}
	}
}

// P1.1: taking more than there is takes nothing of what there is.
func TestShortTakesNothing(t *testing.T) {
	c := New([]byte{1, 2, 3, 4, 5})
	c.Skip(2)
	wantBytes(t, "Take(4)", c.Take(4), nil)
	wantState(t, "Take(4)", c, 2, 0, api.ErrShort)
	for _, n := range []int{6, math.MaxInt32, math.MaxInt - 1, math.MaxInt} {
		c := New([]byte{1, 2, 3, 4, 5})
		c.Skip(1)
		wantBytes(t, "Take of far too many", c.Take(n), nil)
		wantState(t, "Take of far too many", c, 1, 0, api.ErrShort)
	}
	c = New(nil)
	wantState(t, "New of nothing", c, 0, 0, api.OK)
	c.Skip(1)
	wantState(t, "Skip(1) of nothing", c, 0, 0, api.ErrShort)
}

// P1.1: behind an error every call tells nothing, and the error stays.
func TestBehindAnError(t *testing.T) {
	broken := map[api.Errno]func(c *Cutter){
		api.ErrShort: func(c *Cutter) { c.Take(100) },
		api.ErrArg:   func(c *Cutter) { c.Take(-1) },
		api.ErrForm:  func(c *Cutter) { c.Fail(api.ErrForm) },
	}
	for e, fail := range broken {
		for name, take := range takers() {
			c := New(bytes.Repeat([]byte{0xee}, 20))
			c.Skip(2)
			fail(c)
			wantAllZero(t, name, take(c))
			wantState(t, name, c, 2, 0, e)
			c.Take(-1)
			c.Skip(-1)
			c.Take(1000)
			c.Fail(api.ErrSum)
			c.Fail(api.OK)
			wantState(t, name, c, 2, 0, e)
			if l := len(c.Take(1)) + len(c.Rest()); l != 0 {
				t.Errorf("%s: %d bytes taken behind an error", name, l)
			}
		}
	}
}

// P1.1: below 0 it is ErrArg, be there bytes or not.
func TestTakeBelowNought(t *testing.T) {
	for _, n := range []int{-1, -2, math.MinInt32, math.MinInt} {
		for _, b := range [][]byte{nil, {1, 2, 3}} {
			c := New(b)
			wantBytes(t, "Take", c.Take(n), nil)
			wantState(t, "Take", c, 0, 0, api.ErrArg)
			c = New(b)
			c.Skip(n)
			wantState(t, "Skip", c, 0, 0, api.ErrArg)
		}
	}
	c := New([]byte{1, 2, 3})
	c.Skip(2)
	c.Skip(-1)
	wantState(t, "Skip back", c, 2, 0, api.ErrArg)
}

// P1.1: Fail notes the first error alone, and OK is none.
func TestFail(t *testing.T) {
	c := New([]byte{1, 2})
	c.Fail(api.OK)
	wantState(t, "Fail(OK)", c, 0, 2, api.OK)
	c.Byte()
	c.Fail(api.ErrRange)
	wantState(t, "Fail(ErrRange)", c, 1, 0, api.ErrRange)
	c.Fail(api.ErrForm)
	wantState(t, "a second Fail", c, 1, 0, api.ErrRange)
	for _, e := range []api.Errno{api.ErrNil, -1, 1000} {
		c := New([]byte{1})
		c.Fail(e)
		wantState(t, "Fail of any number", c, 0, 0, e)
	}
}

// P1.1: none, and what New did not make, tell nothing but ErrNil.
func TestNoCutter(t *testing.T) {
	for kind, c := range map[string]*Cutter{"nil": nil, "zero": {}} {
		for name, take := range takers() {
			wantAllZero(t, kind+" "+name, take(c))
			wantState(t, kind+" "+name, c, 0, 0, api.ErrNil)
		}
		if l := len(c.Take(1)) + len(c.Take(-1)) + len(c.Rest()); l != 0 {
			t.Errorf("%s: %d bytes taken of none", kind, l)
		}
		c.Skip(-1)
		c.Fail(api.ErrForm)
		wantState(t, kind+" Fail", c, 0, 0, api.ErrNil)
	}
}

// P1.1, R3: what is handed in is not kept, what is told is new memory.
func TestCutterSharesNothing(t *testing.T) {
	b := []byte{1, 2, 3, 4, 5, 6}
	c := New(b)
	b[0], b[5] = 99, 99
	first := c.Take(3)
	wantBytes(t, "Take", first, []byte{1, 2, 3})
	first = append(first, 77, 77, 77)
	first[0] = 77
	rest := c.Rest()
	wantBytes(t, "Rest", rest, []byte{4, 5, 6})
	rest[0] = 55
	wantBytes(t, "what was handed in", b, []byte{99, 2, 3, 4, 5, 99})
	wantBytes(t, "what was told first", first, []byte{77, 2, 3, 77, 77, 77})
}

// P1.2: all values are laid in order, each with its highest byte first.
func TestLay(t *testing.T) {
	p := Lay()
	if p == nil || p.Len() != 0 || len(p.Done()) != 0 {
		t.Fatal("Lay: not a pad without bytes")
	}
	steps := []struct {
		name string
		lay  func() *Pad
		want []byte
	}{
		{"Byte", func() *Pad { return p.Byte(0xff, 0, 7) }, []byte{0xff, 0, 7}},
		{"Two", func() *Pad { return p.Two(0xfedc, 1) }, []byte{0xfe, 0xdc, 0, 1}},
		{"Four", func() *Pad { return p.Four(0xf1e2d3c4, 0x100) }, []byte{0xf1, 0xe2, 0xd3, 0xc4, 0, 0, 1, 0}},
		{"Mac", func() *Pad { return p.Mac(api.Mac{1, 2, 3, 4, 5, 6}, api.Mac{0xff, 8, 9, 10, 11, 0xfe}) }, []byte{1, 2, 3, 4, 5, 6, 0xff, 8, 9, 10, 11, 0xfe}},
		{"Byte of none", func() *Pad { return p.Byte() }, nil},
		{"Two of none", func() *Pad { return p.Two() }, nil},
		{"Four of none", func() *Pad { return p.Four() }, nil},
		{"Mac of none", func() *Pad { return p.Mac() }, nil},
		{"Byte again", func() *Pad { return p.Byte([]byte{9, 8}...) }, []byte{9, 8}},
	}
	var want []byte
	for _, s := range steps {
		if s.lay() != p {
			t.Errorf("%s: not the very pad", s.name)
		}
		want = append(want, s.want...)
		wantBytes(t, s.name, p.Done(), want)
		if p.Len() != len(want) {
			t.Errorf("%s: Len %d, want %d", s.name, p.Len(), len(want))
		}
	}
}

// P1.2: a number is filled in where both bytes are there, and only there.
func TestFill(t *testing.T) {
	for have := range 6 {
		for at := -3; at < 9; at++ {
			p := Lay().Byte([]byte{1, 2, 3, 4, 5}[:have]...)
			want := p.Done()
			wantErr := api.ErrArg
			if at >= 0 && at+1 < have {
				want[at], want[at+1] = 0xfe, 0xdc
				wantErr = api.OK
			}
			if e := p.Fill(at, 0xfedc); e != wantErr {
				t.Errorf("Fill(%d) of %d bytes: %d, want %d", at, have, e, wantErr)
			}
			wantBytes(t, "Fill", p.Done(), want)
		}
	}
	p := Lay().Byte(1, 2, 3)
	for _, at := range []int{math.MinInt, math.MaxInt, math.MaxInt - 1, math.MaxInt - 2} {
		if e := p.Fill(at, 7); e != api.ErrArg {
			t.Errorf("Fill(%d): %d", at, e)
		}
	}
	wantBytes(t, "Fill far away", p.Done(), []byte{1, 2, 3})
	if e := p.Two(4).Fill(3, 0xabcd); e != api.OK {
		t.Errorf("Fill of what was laid later: %d", e)
	}
	wantBytes(t, "Fill of what was laid later", p.Byte(5).Done(), []byte{1, 2, 3, 0xab, 0xcd, 5})
}

// P1.2: none, and what Lay did not make, take no bytes.
func TestNoPad(t *testing.T) {
	for kind, p := range map[string]*Pad{"nil": nil, "zero": {}} {
		if p.Byte(1, 2) != p || p.Two(3) != p || p.Four(4) != p || p.Mac(api.Mac{5}) != p {
			t.Errorf("%s: not the very pad", kind)
		}
		if p.Len() != 0 || len(p.Done()) != 0 {
			t.Errorf("%s: % x", kind, p.Done())
		}
		for _, at := range []int{0, -1, 100} {
			if e := p.Fill(at, 1); e != api.ErrNil {
				t.Errorf("%s: Fill(%d): %d", kind, at, e)
			}
		}
	}
}

// P1.2, R3: what is laid is not kept, what is told is new memory.
func TestPadSharesNothing(t *testing.T) {
	v := []byte{1, 2, 3}
	p := Lay().Byte(v...)
	v[0] = 99
	one := p.Done()
	one[1] = 88
	wantBytes(t, "behind a changed answer", p.Done(), []byte{1, 2, 3})
	two := p.Done()
	p.Fill(0, 0xffff)
	p.Byte(4)
	wantBytes(t, "an answer behind Fill", two, []byte{1, 2, 3})
	p.Byte(p.Done()...)
	wantBytes(t, "laid on itself", p.Done(), []byte{0xff, 0xff, 3, 4, 0xff, 0xff, 3, 4})
	wantBytes(t, "what was handed in", v, []byte{99, 2, 3})
	if Lay() == Lay() {
		t.Error("two pads are one")
	}
}

// P1.3: sums that can be worked out by hand.
func TestSum(t *testing.T) {
	rows := []struct {
		name  string
		parts [][]byte
		want  uint16
	}{
		{"no parts", nil, 0xffff},
		{"empty parts", [][]byte{nil, {}}, 0xffff},
		{"a word", [][]byte{{0x12, 0x34}}, 0xedcb},
		{"an odd byte is the high one", [][]byte{{0x12}}, 0xedff},
		{"three bytes", [][]byte{{1, 2, 3}}, 0xfbfd},
		{"all bits", [][]byte{{0xff, 0xff}}, 0},
		{"all bits twice", [][]byte{{0xff, 0xff, 0xff, 0xff}}, 0},
		{"a carry", [][]byte{{0xff, 0xff, 0, 1}}, 0xfffe},
		{"a carry by the odd byte", [][]byte{{0xff, 0x00, 0x01}}, 0xfffe},
		{"odd parts", [][]byte{{1}, {2, 3}}, 0xfbfd},
		{"odd, empty, odd", [][]byte{{1}, nil, {2}, {}, {3}}, 0xfbfd},
		{"odd, even, odd", [][]byte{{1}, {2, 3}, {4}}, 0xfbf9},
		{"a head of IPv4", [][]byte{{0x45, 0, 0, 0x73, 0, 0, 0x40, 0, 0x40, 0x11, 0, 0, 0xc0, 0xa8, 0, 1, 0xc0, 0xa8, 0, 0xc7}}, 0xb861},
	}
	for _, r := range rows {
		if s := Sum(r.parts...); s != r.want {
			t.Errorf("%s: %04x, want %04x", r.name, s, r.want)
		}
	}
	// 2^18 words of ffff carry more than once, and over 32 bits.
	if s := Sum(bytes.Repeat([]byte{0xff}, 1<<19), []byte{0, 2}); s != 0xfffd {
		t.Errorf("many words: %04x", s)
	}
}

// slowSum adds word by word and carries at once, as the chapter tells it.
func slowSum(b []byte) uint16 {
	if len(b)%2 == 1 {
		b = append(slices.Clone(b), 0)
	}
	sum := 0
	for i := 0; i < len(b); i += 2 {
		sum += int(b[i])*256 + int(b[i+1])
		if sum > 65535 {
			sum = sum - 65536 + 1
		}
	}
	return uint16(65535 - sum)
}

// P1.3: wherever the bytes are parted, the sum is that of all of them.
func TestSumOfParts(t *testing.T) {
	r := rand.New(rand.NewSource(1))
	for range 2000 {
		b := randomBytes(r, r.Intn(40))
		before := slices.Clone(b)
		var parts [][]byte
		for left := b; len(left) > 0; {
			n := r.Intn(min(len(left), 5) + 1)
			parts = append(parts, left[:n])
			left = left[n:]
		}
		if got, want := Sum(parts...), slowSum(b); got != want || Sum(b) != want {
			t.Fatalf("Sum of % x: %04x, want %04x, of one part %04x", parts, got, want, Sum(b))
		}
		wantBytes(t, "what was handed in", b, before)
	}
}

func randomBytes(r *rand.Rand, n int) []byte {
	b := make([]byte, n)
	for i := range b {
		b[i] = []byte{0, 1, 0x7f, 0x80, 0xff, byte(r.Intn(256))}[r.Intn(6)]
	}
	return b
}

// layOne lays some values of one kind, and tells what takes them again.
func layOne(r *rand.Rand, p *Pad) func(c *Cutter) bool {
	n := r.Intn(4)
	raw := randomBytes(r, 6*n)
	switch r.Intn(4) {
	case 0:
		p.Byte(raw[:n]...)
		return func(c *Cutter) bool {
			return all(n, func(i int) bool { return c.Byte() == raw[i] })
		}
	case 1:
		v := make([]uint16, n)
		for i := range v {
			v[i] = uint16(raw[2*i])<<8 | uint16(raw[2*i+1])
		}
		p.Two(v...)
		return func(c *Cutter) bool {
			return all(n, func(i int) bool { return c.Two() == v[i] })
		}
	case 2:
		v := make([]uint32, n)
		for i := range v {
			v[i] = uint32(raw[4*i])<<24 | uint32(raw[4*i+1])<<16 | uint32(raw[4*i+2])<<8 | uint32(raw[4*i+3])
		}
		p.Four(v...)
		return func(c *Cutter) bool {
			return all(n, func(i int) bool { return c.Four() == v[i] })
		}
	}
	v := make([]api.Mac, n)
	for i := range v {
		copy(v[i][:], raw[6*i:])
	}
	p.Mac(v...)
	return func(c *Cutter) bool {
		return all(n, func(i int) bool { return c.Mac() == v[i] })
	}
}

func all(n int, is func(i int) bool) bool {
	for i := range n {
		if !is(i) {
			return false
		}
	}
	return true
}

// P1.4: what was laid is taken, call by call, and nothing is left.
func TestThereAndBack(t *testing.T) {
	r := rand.New(rand.NewSource(2))
	for range 2000 {
		p := Lay()
		var takes []func(c *Cutter) bool
		for range r.Intn(8) {
			takes = append(takes, layOne(r, p))
		}
		c := New(p.Done())
		for i, take := range takes {
			if !take(c) {
				t.Fatalf("call %d of % x: not what was laid", i, p.Done())
			}
		}
		wantState(t, "behind all", c, p.Len(), 0, api.OK)
		if c.Byte(); c.Err() != api.ErrShort {
			t.Fatalf("something is left of % x", p.Done())
		}
	}
}

// P1.5: with their sum laid behind them bytes of an even length sum to 0.
func TestSumOfSummed(t *testing.T) {
	r := rand.New(rand.NewSource(3))
	for i := range 2000 {
		b := randomBytes(r, 2*(i%30))
		if s := Sum(Lay().Byte(b...).Two(Sum(b)).Done()); s != 0 {
			t.Fatalf("% x: %04x", b, s)
		}
		if s := Sum(b, Lay().Two(Sum(b)).Done()); s != 0 {
			t.Fatalf("% x, in two parts: %04x", b, s)
		}
	}
}

// The rows of the chapter's section 'Examples'.
func TestExamples(t *testing.T) {
	c := New([]byte{1, 2, 3})
	if a, b, d, e := c.Two(), c.Two(), c.Byte(), c.Err(); a != 0x0102 || b != 0 || d != 0 || e != api.ErrShort {
		t.Errorf("%04x, %x, %x, %d", a, b, d, e)
	}
	if s := Sum([]byte{0x00, 0x01, 0xf2, 0x03, 0xf4, 0xf5, 0xf6, 0xf7}); s != 0x220d {
		t.Errorf("%04x", s)
	}
}
