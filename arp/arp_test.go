package arp

import (
	"bytes"
	"math/rand"
	"slices"
	"testing"

	"toll/api"
)

var (
	here  = api.Mac{2, 0, 0, 0, 0, 1}
	there = api.Mac{0xfe, 0xff, 0x80, 0x81, 0x82, 6}
	own   = api.Mac{2, 9, 8, 7, 6, 5}
	first = []byte{0, 1, 8, 0, 6, 4}
)

const (
	hereIP  = api.IP(0x0a000001)
	thereIP = api.IP(0xfffe8081)
)

// form is the bytes of a message, place by place.
func form(op uint16, from api.Mac, fromIP api.IP, to api.Mac, toIP api.IP) []byte {
	return slices.Concat(first, []byte{byte(op >> 8), byte(op)}, from[:], ip(fromIP), to[:], ip(toIP))
}

func ip(n api.IP) []byte { return []byte{byte(n >> 24), byte(n >> 16), byte(n >> 8), byte(n)} }

// asks is a message of which each byte is another one.
func asks() Packet { return Packet{Op: Ask, From: here, FromIP: hereIP, To: there, ToIP: thereIP} }

// wantGet asks for want, or, by R2, for nothing beside an error; by R3 b stays.
func wantGet(t *testing.T, name string, b []byte, want Packet, wantErr api.Errno) {
	t.Helper()
	before := slices.Clone(b)
	if p, e := Get(b); p != want || e != wantErr {
		t.Errorf("Get of %s, % x: %+v, %d; want %+v, %d", name, before, p, e, want, wantErr)
	}
	if !bytes.Equal(b, before) {
		t.Errorf("Get of %s changed % x to % x", name, before, b)
	}
}

func wantBytes(t *testing.T, name string, got, want []byte) {
	t.Helper()
	if !bytes.Equal(got, want) {
		t.Errorf("%s: % x, want % x", name, got, want)
	}
}

func randomPacket(r *rand.Rand) Packet {
	p := Packet{Op: uint16(1 + r.Intn(2)), FromIP: api.IP(r.Uint32()), ToIP: api.IP(r.Uint32())}
	r.Read(p.From[:])
	r.Read(p.To[:])
	if r.Intn(4) == 0 {
		p.FromIP = 0
	}
	if r.Intn(4) == 0 {
		p.ToIP = p.FromIP
	}
	return p
}

// The numbers that the chapter tells.
func TestNumbers(t *testing.T) {
	if Ask != 1 || Answer != 2 || Size != 28 {
		t.Error(Ask, Answer, Size)
	}
}

// P5.1: each part is read from its own place, and laid there.
func TestGetAndBytes(t *testing.T) {
	rows := []struct {
		name string
		p    Packet
		b    []byte
	}{
		{"one that asks", asks(), []byte{0, 1, 8, 0, 6, 4, 0, 1, 2, 0, 0, 0, 0, 1, 10, 0, 0, 1, 0xfe, 0xff, 0x80, 0x81, 0x82, 6, 0xff, 0xfe, 0x80, 0x81}},
		{"one that answers", Packet{Answer, there, thereIP, here, hereIP}, []byte{0, 1, 8, 0, 6, 4, 0, 2, 0xfe, 0xff, 0x80, 0x81, 0x82, 6, 0xff, 0xfe, 0x80, 0x81, 2, 0, 0, 0, 0, 1, 10, 0, 0, 1}},
		{"zeros", Packet{Op: Ask}, slices.Concat(first, []byte{0, 1}, make([]byte, 20))},
		{"ones", Packet{Answer, api.Mac(bytes.Repeat([]byte{255}, 6)), 0xffffffff, api.Mac(bytes.Repeat([]byte{255}, 6)), 0xffffffff}, slices.Concat(first, []byte{0, 2}, bytes.Repeat([]byte{255}, 20))},
	}
	for _, r := range rows {
		wantGet(t, r.name, r.b, r.p, api.OK)
		wantBytes(t, r.name, r.p.Bytes(), r.b)
	}
}

// P5.1: of 28 bytes each other value of one that is prescribed is ErrForm.
func TestGetForm(t *testing.T) {
	b := asks().Bytes()
	for at := range 8 {
		for v := range 256 {
			c := slices.Clone(b)
			c[at] = byte(v)
			want, wantErr := Packet{}, api.ErrForm
			if at == 7 && (v == 1 || v == 2) || c[at] == b[at] {
				want, wantErr = asks(), api.OK
				want.Op = uint16(c[7])
			}
			wantGet(t, "a changed one", c, want, wantErr)
			wantGet(t, "a changed, long one", append(c, 1, 2, 3), want, wantErr)
		}
	}
}

// P5.1: of all values of Op but two.
func TestMay(t *testing.T) {
	for op := range 1 << 16 {
		p := asks()
		p.Op = uint16(op)
		is := op == 1 || op == 2
		if p.May() != is {
			t.Errorf("May of Op %d: %v", op, p.May())
		}
		b := form(p.Op, p.From, p.FromIP, p.To, p.ToIP)
		if is {
			wantGet(t, "one that may be", b, p, api.OK)
			wantBytes(t, "one that may be", p.Bytes(), b)
		} else {
			wantGet(t, "one that may not be", b, Packet{}, api.ErrForm)
			wantBytes(t, "one that may not be", p.Bytes(), nil)
		}
	}
}

// P5.1: fewer bytes are ErrShort, whatever they are: it is the first of the list.
func TestGetShort(t *testing.T) {
	b := asks().Bytes()
	for n := range Size {
		wantGet(t, "a short one", b[:n], Packet{}, api.ErrShort)
		wantGet(t, "a short one of zeros", make([]byte, n), Packet{}, api.ErrShort)
		wantGet(t, "a short one of ones", bytes.Repeat([]byte{255}, n), Packet{}, api.ErrShort)
	}
	wantGet(t, "none", nil, Packet{}, api.ErrShort)
	wantGet(t, "zeros", make([]byte, Size), Packet{}, api.ErrForm)
}

// P5.3: there and back, whatever stands behind.
func TestThereAndBack(t *testing.T) {
	r := rand.New(rand.NewSource(5))
	for range 5000 {
		p := randomPacket(r)
		b := p.Bytes()
		wantBytes(t, "a message", b, form(p.Op, p.From, p.FromIP, p.To, p.ToIP))
		behind := make([]byte, r.Intn(60))
		r.Read(behind)
		wantGet(t, "a message", slices.Concat(b, behind), p, api.OK)
	}
	wantGet(t, "one far ahead of the end", slices.Concat(asks().Bytes(), make([]byte, 1<<17)), asks(), api.OK)
}

// P5.3: the bytes of what is got are the first 28.
func TestBackAndThere(t *testing.T) {
	r := rand.New(rand.NewSource(6))
	got := 0
	for range 20000 {
		b := make([]byte, r.Intn(60))
		r.Read(b)
		copy(b, first)
		if len(b) > 7 {
			b[6], b[7] = 0, byte(r.Intn(4))
		}
		p, e := Get(b)
		if e == api.OK {
			got++
			wantBytes(t, "what is got", p.Bytes(), b[:28])
		}
	}
	if got < 1000 {
		t.Errorf("too few were got: %d", got)
	}
}

// P5.2: an ask from 0 probes; one that is equal, and not 0, tells of itself, be it an ask or an answer.
func TestProbesAndItself(t *testing.T) {
	rows := []struct {
		op             uint16
		fromIP, toIP   api.IP
		probes, itself bool
	}{
		{Ask, 0, 5, true, false},
		{Ask, 0, 0, true, false},
		{Ask, 5, 5, false, true},
		{Ask, 0xffffffff, 0xffffffff, false, true},
		{Ask, 5, 0, false, false},
		{Ask, 5, 6, false, false},
		{Ask, 0x01000005, 5, false, false},
		{Answer, 0, 5, false, false},
		{Answer, 0, 0, false, false},
		{Answer, 5, 5, false, true},
		{Answer, 5, 0, false, false},
		{Answer, 5, 6, false, false},
		{0, 0, 5, false, false},
		{0, 0, 0, false, false},
		{0, 5, 5, false, false},
		{3, 0, 5, false, false},
		{3, 5, 5, false, false},
		{0x0101, 0, 5, false, false},
		{0x0101, 5, 5, false, false},
		{0x0100, 0, 5, false, false},
		{0xffff, 5, 5, false, false},
	}
	for _, r := range rows {
		for _, to := range []api.Mac{{}, here, there} {
			p := Packet{r.op, here, r.fromIP, to, r.toIP}
			if p.Probes() != r.probes || p.Itself() != r.itself {
				t.Errorf("%+v: probes %v, itself %v", p, p.Probes(), p.Itself())
			}
		}
	}
}

// P5.2: who asks is answered, whoever is asked; nothing else is.
func TestReply(t *testing.T) {
	rows := []struct {
		name string
		p    Packet
		want Packet
		is   bool
	}{
		{"one that asks", asks(), Packet{Answer, own, thereIP, here, hereIP}, true},
		{"one that asks whom it does not know", Packet{Ask, here, hereIP, api.Mac{}, thereIP}, Packet{Answer, own, thereIP, here, hereIP}, true},
		{"one that probes", Packet{Ask, here, 0, api.Mac{}, thereIP}, Packet{Answer, own, thereIP, here, 0}, true},
		{"one that tells of itself", Packet{Ask, here, hereIP, api.Mac{}, hereIP}, Packet{Answer, own, hereIP, here, hereIP}, true},
		{"one of nobody", Packet{Op: Ask}, Packet{Op: Answer, From: own}, true},
		{"one of its own", Packet{Ask, own, hereIP, own, thereIP}, Packet{Answer, own, thereIP, own, hereIP}, true},
		{"an answer", Packet{Answer, here, hereIP, there, thereIP}, Packet{}, false},
		{"no message", Packet{0, here, hereIP, there, thereIP}, Packet{}, false},
		{"no message", Packet{3, here, hereIP, there, thereIP}, Packet{}, false},
		{"no message", Packet{0x0101, here, hereIP, there, thereIP}, Packet{}, false},
		{"none", Packet{}, Packet{}, false},
	}
	for _, r := range rows {
		if p, is := r.p.Reply(own); p != r.want || is != r.is {
			t.Errorf("Reply of %s: %+v, %v; want %+v, %v", r.name, p, is, r.want, r.is)
		}
	}
	if p, is := asks().Reply(api.Mac{}); !is || p != (Packet{Answer, api.Mac{}, thereIP, here, hereIP}) {
		t.Errorf("Reply of the station 0: %+v, %v", p, is)
	}
}

// P5.4: both sides of the reply, exchanged, ask what was asked, of who has answered.
func TestAskedBack(t *testing.T) {
	r := rand.New(rand.NewSource(7))
	for range 2000 {
		p := randomPacket(r)
		p.Op = Ask
		a, is := p.Reply(own)
		if !is || a.Op != Answer || !a.May() {
			t.Fatalf("Reply of %+v: %+v, %v", p, a, is)
		}
		back := Packet{Op: Ask, From: a.To, FromIP: a.ToIP, To: a.From, ToIP: a.FromIP}
		p.To = own
		if back != p {
			t.Errorf("%+v, want %+v", back, p)
		}
		if again, is := back.Reply(own); !is || again != a {
			t.Errorf("again: %+v, %v; want %+v", again, is, a)
		}
		if n, is := a.Reply(own); is || n != (Packet{}) {
			t.Errorf("Reply of an answer: %+v, %v", n, is)
		}
	}
}

// R3: what is laid is new memory each time, and has no room that another shares.
func TestSharesNothing(t *testing.T) {
	p := asks()
	want := form(p.Op, p.From, p.FromIP, p.To, p.ToIP)
	b := p.Bytes()
	for i := range b {
		b[i] = 99
	}
	wantBytes(t, "laid again", p.Bytes(), want)
	wantGet(t, "laid again", p.Bytes(), p, api.OK)
	c := p.Bytes()
	got, _ := Get(c)
	clear(c)
	if got != p {
		t.Errorf("got, behind a change: %+v", got)
	}
}

// The rows of the chapter's section 'Examples'.
func TestExamples(t *testing.T) {
	b := make([]byte, 28)
	copy(b, []byte{0x00, 0x01, 0x08, 0x00, 0x06, 0x04, 0x00, 0x01})
	if p, e := Get(b); e != api.OK || p.Op != Ask || !p.May() {
		t.Errorf("%+v, %d", p, e)
	}
	if p, e := Get(b[:27]); e != api.ErrShort {
		t.Errorf("%+v, %d", p, e)
	}
	for _, at := range []int{1, 7} { // 00 01 stands twice
		c := slices.Clone(b)
		c[at] = 0x06
		if p, e := Get(c); e != api.ErrForm {
			t.Errorf("%+v, %d", p, e)
		}
	}
}
