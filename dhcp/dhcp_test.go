package dhcp

import (
	"bytes"
	"math/rand"
	"slices"
	"testing"

	"toll/api"
)

// same holds messages against each other; nil and empty lists are one (R4).
func same(m, n Message) bool {
	options := slices.EqualFunc(m.Options, n.Options, func(o, p Option) bool {
		return o.Code == p.Code && bytes.Equal(o.Value, p.Value)
	})
	return options && bytes.Equal(m.Behind, n.Behind) && sameHead(m, n)
}

func sameHead(m, n Message) bool {
	return m.Op == n.Op && m.Hops == n.Hops && m.Xid == n.Xid && m.Secs == n.Secs && m.Flags == n.Flags &&
		m.Client == n.Client && m.Yours == n.Yours && m.Next == n.Next && m.Relay == n.Relay &&
		m.Station == n.Station && m.Pad == n.Pad && m.Server == n.Server && m.File == n.File
}

// cloned is a message that shares no memory with m.
func cloned(m Message) Message {
	m.Behind = slices.Clone(m.Behind)
	m.Options = slices.Clone(m.Options)
	for i, o := range m.Options {
		m.Options[i].Value = slices.Clone(o.Value)
	}
	return m
}

// short keeps what a test tells of long bytes legible: they begin alike.
func short(b []byte) []byte { return b[max(len(b)-70, 0):] }

func wantBytes(t *testing.T, name string, got, want []byte) {
	t.Helper()
	if !bytes.Equal(got, want) {
		t.Errorf("%s: %d bytes .. % x, want %d: .. % x", name, len(got), short(got), len(want), short(want))
	}
}

// wantGet asks for want, or, by R2, for nothing beside an error; by R3 b stays.
func wantGet(t *testing.T, name string, b []byte, want Message, wantErr api.Errno) {
	t.Helper()
	before := slices.Clone(b)
	if m, e := Get(b); e != wantErr || !same(m, want) {
		t.Errorf("Get of %s, %d bytes .. % x: %d, %+v; want %d, %+v", name, len(b), short(b), e, m, wantErr, want)
	}
	wantBytes(t, "what was handed in", b, before)
}

// wantLaid asks Bytes for want, or, by R2, for nothing beside an error; by R3 m stays.
func wantLaid(t *testing.T, name string, m Message, want []byte, wantErr api.Errno) {
	t.Helper()
	before := cloned(m)
	b, e := m.Bytes()
	if e != wantErr {
		t.Errorf("Bytes of %s: %d, want %d", name, e, wantErr)
	}
	wantBytes(t, "Bytes of "+name, b, want)
	if !same(m, before) {
		t.Errorf("Bytes of %s changed %+v to %+v", name, before, m)
	}
}

func wantValue(t *testing.T, m Message, code byte, want []byte, wantIs bool) {
	t.Helper()
	before := cloned(m)
	v, is := m.Value(code)
	if is != wantIs {
		t.Errorf("Value of %d: %v, want %v", code, is, wantIs)
	}
	wantBytes(t, "Value", v, want)
	if !same(m, before) {
		t.Errorf("Value of %d changed %+v to %+v", code, before, m)
	}
}

func wantNumber(t *testing.T, m Message, code byte, want uint32, wantIs bool) {
	t.Helper()
	if n, is := m.Number(code); n != want || is != wantIs {
		t.Errorf("Number of %d: %x, %v; want %x, %v", code, n, is, want, wantIs)
	}
}

// with is b with what is put from that place on.
func with(b []byte, at int, put ...byte) []byte {
	b = slices.Clone(b)
	copy(b[at:], put)
	return b
}

// fill is n bytes, from that one on, none of them 0 or 255.
func fill(n int, from byte) []byte {
	b := make([]byte, n)
	for i := range b {
		b[i] = byte((int(from)+i)%254) + 1
	}
	return b
}

// head is the 240 bytes of the chapter's example.
func head() []byte {
	return with(with(make([]byte, 240), 0, 1, 1, 6), 236, 0x63, 0x82, 0x53, 0x63)
}

// bytesOf are the example's, and options behind.
func bytesOf(options ...byte) []byte { return slices.Concat(head(), options) }

// of is a message with options alone.
func of(options ...Option) Message { return Message{Op: 1, Options: options} }

// full is a message whose fields' bytes are all different from their neighbours'.
func full() Message {
	return Message{
		Op: 2, Hops: 0x83, Xid: 0x84050687, Secs: 0x8809, Flags: 0x8a0b,
		Client: 0x8c0d0e8f, Yours: 0x90111293, Next: 0x94151697, Relay: 0x98191a9b,
		Station: api.Mac{0x9c, 0x1d, 0x1e, 0x1f, 0x20, 0xa1}, Pad: [10]byte(fill(10, 0x30)),
		Server: [64]byte(fill(64, 0x40)), File: [128]byte(fill(128, 0xb0)),
		Options: []Option{{53, []byte{5}}, {12, []byte("host")}, {1, nil}, {254, []byte{0, 255, 0}}},
		Behind:  []byte{0, 255, 7},
	}
}

// fullBytes are full's.
func fullBytes() []byte {
	return slices.Concat(
		[]byte{2, 1, 6, 0x83, 0x84, 5, 6, 0x87, 0x88, 9, 0x8a, 0x0b},
		[]byte{0x8c, 0x0d, 0x0e, 0x8f, 0x90, 0x11, 0x12, 0x93, 0x94, 0x15, 0x16, 0x97, 0x98, 0x19, 0x1a, 0x9b},
		[]byte{0x9c, 0x1d, 0x1e, 0x1f, 0x20, 0xa1}, fill(10, 0x30), fill(64, 0x40), fill(128, 0xb0),
		[]byte{0x63, 0x82, 0x53, 0x63},
		[]byte{53, 1, 5, 12, 4, 'h', 'o', 's', 't', 1, 0, 254, 3, 0, 255, 0, 255},
		[]byte{0, 255, 7},
	)
}

func two(b []byte) uint16 { return uint16(b[0])*256 + uint16(b[1]) }

func four(b []byte) uint32 { return uint32(two(b))*65536 + uint32(two(b[2:])) }

// slowGet asks one thing of P9.1 after the other, place by place.
func slowGet(b []byte) (Message, api.Errno) {
	if len(b) < 240 {
		return Message{}, api.ErrShort
	}
	if b[0] != 1 && b[0] != 2 || b[1] != 1 || b[2] != 6 || string(b[236:240]) != "\x63\x82\x53\x63" {
		return Message{}, api.ErrForm
	}
	m := Message{
		Op: b[0], Hops: b[3], Xid: four(b[4:]), Secs: two(b[8:]), Flags: two(b[10:]),
		Client: api.IP(four(b[12:])), Yours: api.IP(four(b[16:])), Next: api.IP(four(b[20:])), Relay: api.IP(four(b[24:])),
		Station: api.Mac(b[28:34]), Pad: [10]byte(b[34:44]), Server: [64]byte(b[44:108]), File: [128]byte(b[108:236]),
	}
	at := 240
	for at < len(b) && b[at] != 255 {
		if b[at] == 0 {
			at++
			continue
		}
		if at+1 >= len(b) || at+2+int(b[at+1]) > len(b) {
			return Message{}, api.ErrShort
		}
		next := at + 2 + int(b[at+1])
		m.Options = append(m.Options, Option{b[at], b[at+2 : next]})
		at = next
	}
	if at >= len(b) {
		return Message{}, api.ErrShort
	}
	m.Behind = b[at+1:]
	return m, api.OK
}

// slowBytes lays a message that may be, place by place.
func slowBytes(m Message) []byte {
	b := make([]byte, 240)
	lay := func(at int, n uint64, width int) {
		for i := width - 1; i >= 0; i-- {
			b[at+i] = byte(n % 256)
			n /= 256
		}
	}
	lay(0, uint64(m.Op), 1)
	lay(1, 0x0106, 2)
	lay(3, uint64(m.Hops), 1)
	lay(4, uint64(m.Xid), 4)
	lay(8, uint64(m.Secs), 2)
	lay(10, uint64(m.Flags), 2)
	for i, ip := range []api.IP{m.Client, m.Yours, m.Next, m.Relay} {
		lay(12+4*i, uint64(ip), 4)
	}
	copy(b[28:], m.Station[:])
	copy(b[34:], m.Pad[:])
	copy(b[44:], m.Server[:])
	copy(b[108:], m.File[:])
	lay(236, 0x63825363, 4)
	for _, o := range m.Options {
		b = append(b, o.Code, byte(len(o.Value)))
		b = append(b, o.Value...)
	}
	return append(append(b, 255), m.Behind...)
}

func randomFill(r *rand.Rand, most int) []byte {
	b := make([]byte, r.Intn(most+1))
	r.Read(b)
	return b
}

func randomOption(r *rand.Rand) Option {
	o := Option{byte(1 + r.Intn(254)), randomFill(r, 6)}
	if r.Intn(2) == 0 {
		o.Code = byte(50 + r.Intn(5))
	}
	if r.Intn(20) == 0 {
		o.Value = randomFill(r, 255)
	}
	return o
}

func randomMessage(r *rand.Rand) Message {
	m := Message{
		Op: byte(1 + r.Intn(2)), Hops: byte(r.Intn(256)), Xid: r.Uint32(),
		Secs: uint16(r.Intn(65536)), Flags: uint16(r.Intn(65536)),
		Client: api.IP(r.Uint32()), Yours: api.IP(r.Uint32()), Next: api.IP(r.Uint32()), Relay: api.IP(r.Uint32()),
		Behind: randomFill(r, 5),
	}
	r.Read(m.Station[:])
	r.Read(m.Pad[:])
	r.Read(m.Server[:])
	r.Read(m.File[:])
	for range r.Intn(8) {
		m.Options = append(m.Options, randomOption(r))
	}
	return m
}

// The numbers that the chapter tells.
func TestNumbers(t *testing.T) {
	if got := [8]int{Discover, Offer, Request, Decline, Ack, Nak, Release, Inform}; got != [8]int{1, 2, 3, 4, 5, 6, 7, 8} {
		t.Error(got)
	}
	if AskPort != 68 || AnswerPort != 67 {
		t.Error(AskPort, AnswerPort)
	}
}

// P9.1, P9.2: each part is read from its own place, and laid there.
func TestParts(t *testing.T) {
	wantGet(t, "all parts", fullBytes(), full(), api.OK)
	wantLaid(t, "all parts", full(), fullBytes(), api.OK)
	rows := []struct {
		name string
		m    Message
		at   int
		put  []byte
	}{
		{"nothing", Message{Op: 1}, 0, nil},
		{"an answer", Message{Op: 2}, 0, []byte{2}},
		{"Hops", Message{Op: 1, Hops: 255}, 3, []byte{255}},
		{"Xid", Message{Op: 1, Xid: 0xf1020304}, 4, []byte{0xf1, 2, 3, 4}},
		{"Secs", Message{Op: 1, Secs: 0xf102}, 8, []byte{0xf1, 2}},
		{"Flags", Message{Op: 1, Flags: 0xf102}, 10, []byte{0xf1, 2}},
		{"Client", Message{Op: 1, Client: 0xf1020304}, 12, []byte{0xf1, 2, 3, 4}},
		{"Yours", Message{Op: 1, Yours: 0xf1020304}, 16, []byte{0xf1, 2, 3, 4}},
		{"Next", Message{Op: 1, Next: 0xf1020304}, 20, []byte{0xf1, 2, 3, 4}},
		{"Relay", Message{Op: 1, Relay: 0xf1020304}, 24, []byte{0xf1, 2, 3, 4}},
		{"Station", Message{Op: 1, Station: api.Mac{0xf1, 2, 3, 4, 5, 6}}, 28, []byte{0xf1, 2, 3, 4, 5, 6}},
		{"Pad", Message{Op: 1, Pad: [10]byte(fill(10, 5))}, 34, fill(10, 5)},
		{"Server", Message{Op: 1, Server: [64]byte(fill(64, 5))}, 44, fill(64, 5)},
		{"File", Message{Op: 1, File: [128]byte(fill(128, 5))}, 108, fill(128, 5)},
		{"an option", of(Option{7, []byte{8}}), 240, []byte{7, 1, 8, 255}},
		{"Behind", Message{Op: 1, Behind: []byte{7, 1, 8, 255}}, 240, []byte{255, 7, 1, 8, 255}},
	}
	for _, r := range rows {
		n := max(241, r.at+len(r.put))
		b := with(slices.Concat(bytesOf(255), make([]byte, n-241)), r.at, r.put...)
		wantGet(t, r.name, b, r.m, api.OK)
		wantLaid(t, r.name, r.m, b, api.OK)
	}
}

// P9.1: fewer than 240 bytes are short, whatever they are, and whatever stands behind them in memory.
func TestGetShort(t *testing.T) {
	whole := fullBytes()
	for n := range 240 {
		wantGet(t, "a short one", whole[:n], Message{}, api.ErrShort)
		wantGet(t, "a short one", slices.Clone(whole[:n]), Message{}, api.ErrShort)
		wantGet(t, "a short one of zeros", make([]byte, n), Message{}, api.ErrShort)
		wantGet(t, "a short one of ones", bytes.Repeat([]byte{255}, n), Message{}, api.ErrShort)
	}
	wantGet(t, "none", nil, Message{}, api.ErrShort)
}

// P9.1: with an end each other value of what is prescribed is ErrForm, be there options or not.
func TestGetForm(t *testing.T) {
	for _, b := range [][]byte{fullBytes(), bytesOf(255), bytesOf(0, 53, 1, 5, 255, 1, 2, 3)} {
		for _, at := range []int{0, 1, 2, 236, 237, 238, 239} {
			for v := range 256 {
				c := with(b, at, byte(v))
				if v == int(b[at]) || at == 0 && (v == 1 || v == 2) {
					want, _ := slowGet(b)
					want.Op = c[0]
					wantGet(t, "one that may be", c, want, api.OK)
					continue
				}
				wantGet(t, "another form", c, Message{}, api.ErrForm)
			}
		}
	}
	swapped := with(bytesOf(255), 236, 0x63, 0x53, 0x82, 0x63)
	wantGet(t, "the four in another order", swapped, Message{}, api.ErrForm)
	wantGet(t, "zeros", with(make([]byte, 241), 240, 255), Message{}, api.ErrForm)
	wantGet(t, "ones", bytes.Repeat([]byte{255}, 300), Message{}, api.ErrForm)
}

// P9.1: a form that is another one is told ahead of options that end too early.
func TestGetFormAheadOfOptions(t *testing.T) {
	for _, options := range [][]byte{nil, {0}, {53}, {53, 1}, {53, 2, 1}} {
		b := bytesOf(options...)
		wantGet(t, "no end", b, Message{}, api.ErrShort)
		for _, at := range []int{0, 1, 2, 236, 237, 238, 239} {
			wantGet(t, "another form without an end", with(b, at, 77), Message{}, api.ErrForm)
		}
	}
	wantGet(t, "zeros", make([]byte, 240), Message{}, api.ErrForm)
}

// P9.1: each part of options that lacks its end is short; what stands behind the end is not asked for anything.
func TestGetOptions(t *testing.T) {
	rows := []struct {
		name    string
		options []byte
		want    Message
	}{
		{"the end alone", []byte{255}, of()},
		{"what means nothing", []byte{0, 0, 0, 255}, of()},
		{"an option without a value", []byte{1, 0, 255}, of(Option{1, nil})},
		{"the greatest code", []byte{254, 1, 7, 255}, of(Option{254, []byte{7}})},
		{"values that look like ends and nothings", []byte{9, 4, 0, 255, 0, 255, 255}, of(Option{9, []byte{0, 255, 0, 255}})},
		{"a count that looks like a code", []byte{9, 1, 9, 9, 1, 9, 255}, of(Option{9, []byte{9}}, Option{9, []byte{9}})},
		{"in order, the same code apart", []byte{9, 1, 1, 8, 1, 2, 9, 1, 3, 255}, of(Option{9, []byte{1}}, Option{8, []byte{2}}, Option{9, []byte{3}})},
		{"nothings between", []byte{0, 9, 1, 1, 0, 0, 8, 0, 0, 255}, of(Option{9, []byte{1}}, Option{8, nil})},
		{"the longest", slices.Concat([]byte{9, 255}, fill(255, 3), []byte{255}), of(Option{9, fill(255, 3)})},
		{"128 bytes", slices.Concat([]byte{9, 128}, fill(128, 3), []byte{255}), of(Option{9, fill(128, 3)})},
	}
	for _, r := range rows {
		b := bytesOf(r.options...)
		wantGet(t, r.name, b, r.want, api.OK)
		for n := 240; n < len(b); n++ {
			wantGet(t, r.name+", cut off", b[:n], Message{}, api.ErrShort)
			wantGet(t, r.name+", cut off", slices.Clone(b[:n]), Message{}, api.ErrShort)
		}
		for _, behind := range [][]byte{{0}, {255}, {53}, {53, 200, 1}, fill(300, 9)} {
			want := r.want
			want.Behind = behind
			wantGet(t, r.name+", with more behind", slices.Concat(b, behind), want, api.OK)
		}
	}
	wantGet(t, "a count without an end", bytesOf(slices.Concat([]byte{9, 255}, fill(254, 3))...), Message{}, api.ErrShort)
	wantGet(t, "the end within a value", bytesOf(9, 2, 255), Message{}, api.ErrShort)
	wantGet(t, "the end in place of a count", bytesOf(9, 255), Message{}, api.ErrShort)
}

// P9.1: many options, and much behind them.
func TestGetOfMuch(t *testing.T) {
	many := Message{Op: 1, Behind: fill(1<<17, 1)}
	for i := range 5000 {
		many.Options = append(many.Options, Option{byte(1 + i%254), fill(i%256, byte(i))})
	}
	wantGet(t, "many options", slowBytes(many), many, api.OK)
	wantLaid(t, "many options", many, slowBytes(many), api.OK)
	wantGet(t, "many nothings", bytesOf(make([]byte, 1<<17)...), Message{}, api.ErrShort)
	wantGet(t, "many nothings", slices.Concat(bytesOf(make([]byte, 1<<17)...), []byte{255}), of(), api.OK)
}

// P9.2: what a message may not be.
func TestBytesErrors(t *testing.T) {
	for op := range 256 {
		m := full()
		m.Op = byte(op)
		if op == 1 || op == 2 {
			wantLaid(t, "an Op that may be", m, with(fullBytes(), 0, byte(op)), api.OK)
		} else {
			wantLaid(t, "an Op that may not be", m, nil, api.ErrArg)
		}
	}
	for code := range 256 {
		o := Option{byte(code), []byte{7}}
		for place := range 5 {
			m := full()
			m.Options = slices.Insert(m.Options, place, o)
			if code == 0 || code == 255 {
				wantLaid(t, "a Code that may not be", m, nil, api.ErrArg)
			} else {
				wantLaid(t, "a Code that may be", m, slowBytes(m), api.OK)
			}
		}
	}
	for _, n := range []int{0, 1, 127, 128, 254, 255, 256, 257, 511, 512, 1 << 16} {
		m := full()
		m.Options = append(m.Options, Option{12, fill(n, 1)}, Option{13, nil})
		if n > 255 {
			wantLaid(t, "a value that is too long", m, nil, api.ErrArg)
		} else {
			wantLaid(t, "a value that is not too long", m, slowBytes(m), api.OK)
		}
	}
	wantLaid(t, "none", Message{}, nil, api.ErrArg)
	wantLaid(t, "an option that stands alone", of(Option{}), nil, api.ErrArg)
	wantLaid(t, "an end among options", of(Option{Code: 255}), nil, api.ErrArg)
}

// P9.4: the message, there and back; P9.1 and P9.2 as the slow ones have them.
func TestThereAndBack(t *testing.T) {
	r := rand.New(rand.NewSource(1))
	for range 5000 {
		m := randomMessage(r)
		b := slowBytes(m)
		wantLaid(t, "a message", m, b, api.OK)
		wantGet(t, "a message", b, m, api.OK)
	}
}

// P9.4: whatever is got, its bytes are got as it, and are no longer than what was read; they are the same but for what means nothing.
func TestBackAndThere(t *testing.T) {
	r := rand.New(rand.NewSource(2))
	got, shorter := 0, 0
	for range 20000 {
		b := randomBytes(r)
		want, wantErr := slowGet(b)
		wantGet(t, "any bytes", b, want, wantErr)
		if wantErr != api.OK {
			continue
		}
		got++
		m, _ := Get(b)
		laid, e := m.Bytes()
		if e != api.OK || len(laid) > len(b) {
			t.Fatalf("Bytes of %+v, of % x: %d bytes, %d", m, short(b), len(laid), e)
		}
		if len(laid) < len(b) {
			shorter++
		} else {
			wantBytes(t, "as long", laid, b)
		}
		wantGet(t, "what was laid", laid, m, api.OK)
	}
	if got < 5000 || shorter < 1000 {
		t.Errorf("too few were got: %d, of them shorter %d", got, shorter)
	}
}

// randomBytes are mostly of a message's form, with options that go as they will.
func randomBytes(r *rand.Rand) []byte {
	b := slowBytes(Message{Op: byte(1 + r.Intn(2)), Xid: r.Uint32(), Flags: uint16(r.Intn(65536))})[:240]
	for range r.Intn(12) {
		switch r.Intn(6) {
		case 0:
			b = append(b, 0)
		case 1:
			b = append(b, 255)
		case 2:
			b = append(b, byte(r.Intn(256)))
		default:
			o := randomOption(r)
			b = append(append(b, o.Code, byte(len(o.Value))), o.Value...)
		}
	}
	switch r.Intn(20) {
	case 0:
		b[r.Intn(3)] = byte(r.Intn(4))
	case 1:
		b[236+r.Intn(4)] ^= byte(1 << r.Intn(8))
	case 2:
		b = b[:r.Intn(len(b)+1)]
	}
	return b
}

// P9.3: the bytes of all options of a code, in order.
func TestValue(t *testing.T) {
	m := of(Option{9, []byte{1, 2}}, Option{8, nil}, Option{9, nil}, Option{7, []byte{3}}, Option{9, []byte{4}}, Option{254, []byte{5}}, Option{1, []byte{6}})
	for code := range 256 {
		switch code {
		case 9:
			wantValue(t, m, 9, []byte{1, 2, 4}, true)
		case 8:
			wantValue(t, m, 8, nil, true)
		case 7:
			wantValue(t, m, 7, []byte{3}, true)
		case 254:
			wantValue(t, m, 254, []byte{5}, true)
		case 1:
			wantValue(t, m, 1, []byte{6}, true)
		default:
			wantValue(t, m, byte(code), nil, false)
		}
		wantValue(t, Message{}, byte(code), nil, false)
		wantValue(t, Message{Op: 1, Behind: []byte{byte(code), 1, 7, 255}}, byte(code), nil, false)
	}
	long := of(Option{9, fill(255, 1)}, Option{9, fill(255, 7)}, Option{9, fill(1, 200)})
	wantValue(t, long, 9, slices.Concat(fill(255, 1), fill(255, 7), fill(1, 200)), true)
}

// P9.3: nothing of 0 and 255, also of a message that was made by hand; what else may not be laid is told all the same.
func TestValueOfWhatMayNotBe(t *testing.T) {
	for _, code := range []byte{0, 255} {
		m := of(Option{code, []byte{1, 2, 3, 4}}, Option{9, []byte{5}})
		wantValue(t, m, code, nil, false)
		wantNumber(t, m, code, 0, false)
		wantValue(t, m, 9, []byte{5}, true)
	}
	m := Message{Op: 7, Options: []Option{{9, fill(300, 1)}, {53, []byte{3}}}}
	wantValue(t, m, 9, fill(300, 1), true)
	if m.Type() != Request {
		t.Error(m.Type())
	}
}

// P9.3: a value is a number if it has four bytes.
func TestNumber(t *testing.T) {
	for n := range 10 {
		for _, code := range []byte{1, 50, 51, 254} {
			m := of(Option{code, fill(n, 0xf0)})
			if n == 4 {
				wantNumber(t, m, code, 0xf1f2f3f4, true)
			} else {
				wantNumber(t, m, code, 0, false)
			}
			wantNumber(t, m, code-1, 0, false)
			wantNumber(t, Message{}, code, 0, false)
		}
	}
	wantNumber(t, of(Option{9, make([]byte, 4)}), 9, 0, true)
	wantNumber(t, of(Option{9, bytes.Repeat([]byte{255}, 4)}), 9, 0xffffffff, true)
	wantNumber(t, of(Option{9, fill(260, 1)}), 9, 0, false)
	wantNumber(t, of(Option{9, []byte{0xf1, 2}}, Option{8, []byte{9}}, Option{9, []byte{3, 4}}), 9, 0xf1020304, true)
	wantNumber(t, of(Option{9, []byte{1, 2, 3, 4}}, Option{9, []byte{1, 2, 3, 4}}), 9, 0, false)
	wantNumber(t, of(Option{9, []byte{1, 2, 3, 4}}, Option{9, nil}), 9, 0x01020304, true)
}

// P9.3: Wanted is of 50, Lease of 51, and of no other code.
func TestWantedAndLease(t *testing.T) {
	for code := range 256 {
		for n := range 6 {
			m := of(Option{byte(code), fill(n, 0xf0)})
			var ip api.IP
			var lease uint32
			isIP, isLease := code == 50 && n == 4, code == 51 && n == 4
			if isIP {
				ip = 0xf1f2f3f4
			}
			if isLease {
				lease = 0xf1f2f3f4
			}
			if got, is := m.Wanted(); got != ip || is != isIP {
				t.Errorf("Wanted of %d, %d bytes: %x, %v", code, n, got, is)
			}
			if got, is := m.Lease(); got != lease || is != isLease {
				t.Errorf("Lease of %d, %d bytes: %x, %v", code, n, got, is)
			}
		}
	}
	both := of(Option{51, []byte{0, 0}}, Option{50, []byte{0, 0, 0, 0}}, Option{51, []byte{0, 0}})
	if ip, is := both.Wanted(); ip != 0 || !is {
		t.Error(ip, is)
	}
	if n, is := both.Lease(); n != 0 || !is {
		t.Error(n, is)
	}
}

// P9.3: the type is of 53, one byte, 1 to 8.
func TestType(t *testing.T) {
	for v := range 256 {
		want := 0
		if v >= 1 && v <= 8 {
			want = v
		}
		b := byte(v)
		for _, m := range []Message{
			of(Option{53, []byte{b}}),
			of(Option{53, nil}, Option{9, []byte{1}}, Option{53, []byte{b}}, Option{53, nil}),
			{Op: 2, Options: []Option{{54, []byte{2}}, {53, []byte{b}}, {52, []byte{2}}}},
		} {
			if got := m.Type(); got != want {
				t.Errorf("Type of %+v: %d, want %d", m.Options, got, want)
			}
		}
		for _, m := range []Message{
			of(Option{53, []byte{b, b}}), of(Option{53, []byte{b}}, Option{53, []byte{1}}),
			of(Option{53, []byte{1}}, Option{53, []byte{b}}), of(Option{53, []byte{b, 0}}), of(Option{53, []byte{0, b}}),
			of(Option{53, []byte{0, 0, 0, b}}), of(Option{52, []byte{b}}), of(Option{54, []byte{b}}), of(Option{35, []byte{b}}),
		} {
			if got := m.Type(); got != 0 {
				t.Errorf("Type of %+v: %d, want none", m.Options, got)
			}
		}
	}
	if n := (Message{Op: 1}).Type() + of(Option{53, nil}).Type(); n != 0 {
		t.Error(n)
	}
}

// parted is an option in several of its code, some of them empty, with others between.
func parted(r *rand.Rand, o Option) []Option {
	var parts []Option
	value := o.Value
	for len(value) > 0 {
		n := r.Intn(len(value) + 1)
		parts = append(parts, Option{o.Code, value[:n]})
		value = value[n:]
		if r.Intn(2) == 0 {
			parts = append(parts, Option{o.Code%254 + 1, []byte{99}})
		}
	}
	return append(parts, Option{o.Code, nil})
}

// P9.5: parted, an option has the same value, number and type, made by hand or read.
func TestParted(t *testing.T) {
	r := rand.New(rand.NewSource(3))
	for i := range 3000 {
		o := Option{byte(1 + r.Intn(254)), randomFill(r, 8)}
		switch i % 4 {
		case 0:
			o = Option{53, []byte{byte(r.Intn(10))}}
		case 1:
			o = Option{byte(50 + r.Intn(2)), randomFill(r, 5)}
		case 2:
			o.Value = randomFill(r, 255)
		}
		one, many := of(o), of(parted(r, o)...)
		read, e := Get(slowBytes(many))
		if e != api.OK {
			t.Fatalf("Get of %+v: %d", many.Options, e)
		}
		for _, m := range []Message{one, many, read} {
			wantValue(t, m, o.Code, o.Value, true)
			n, is := one.Number(o.Code)
			wantNumber(t, m, o.Code, n, is)
			if i%4 == 0 && m.Type() != one.Type() {
				t.Errorf("Type of %+v: %d, want %d", m.Options, m.Type(), one.Type())
			}
		}
	}
}

// R3: what is answered is new memory, and no two lists of it share any.
func TestSharesNothing(t *testing.T) {
	b := fullBytes()
	m, _ := Get(b)
	clear(b)
	if !same(m, full()) {
		t.Errorf("got, behind a change: %+v", m)
	}
	for i := range m.Options { // one written on, and behind, leaves the others
		before := cloned(m)
		v := m.Options[i].Value
		clear(v)
		_ = append(v, 1, 2, 3, 4, 5, 6, 7, 8)
		m.Options[i].Value = before.Options[i].Value
		if !same(m, before) {
			t.Errorf("option %d is shared: %+v", i, m)
		}
	}
	m = full()
	laid, _ := m.Bytes()
	clear(laid)
	if v, _ := m.Value(12); len(v) == 4 {
		clear(v)
		_ = append(v[:0], "other"...)
	}
	if !same(m, full()) {
		t.Errorf("a message, behind a change of what it told: %+v", m)
	}
	wantLaid(t, "laid again", m, fullBytes(), api.OK)
	wantValue(t, m, 12, []byte("host"), true)
}

// The rows of the chapter's section 'Examples'.
func TestExamples(t *testing.T) {
	wantGet(t, "240 bytes", head(), Message{}, api.ErrShort)
	wantGet(t, "and ff behind", bytesOf(0xff), Message{Op: 1}, api.OK)
	if m, e := Get(bytesOf(0x00, 0x35, 0x01, 0x05, 0x00, 0xff)); e != api.OK || m.Type() != Ack {
		t.Errorf("%+v, %d", m, e)
	}
	if m, e := Get(bytesOf(0x35, 0x01, 0x01, 0x35, 0x01, 0x02, 0xff)); e != api.OK || m.Type() != 0 {
		t.Errorf("%+v, %d", m, e)
	}
}
