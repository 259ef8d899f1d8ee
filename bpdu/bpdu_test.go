package bpdu

import (
	"bytes"
	"math/rand"
	"slices"
	"strconv"
	"testing"

	"toll/api"
	"toll/ether"
	"toll/tag"
)

var (
	all   = api.Mac{0x01, 0x80, 0xc2, 0, 0, 0}
	there = api.Mac{0xfe, 0xff, 0x80, 0x81, 0, 6}
	stp   = [3]byte{0x42, 0x42, 3}
)

// each is a message of which each byte is another one.
func each(kind int) Msg {
	return Msg{
		Kind: kind, Flags: 0x11, Root: 0x2122232425262728, Cost: 0x31323334, Bridge: 0x4142434445464748, Port: 0x5152,
		Age: 0x6162, MaxAge: 0x7172, Hello: 0x8182, Delay: 0x9192,
	}
}

// form is the bytes of a message that may be or not, place by place.
func form(m Msg) []byte {
	var b []byte
	lay := func(n uint64, width int) {
		for width > 0 {
			width--
			b = append(b, byte(n>>(8*width)))
		}
	}
	switch m.Kind {
	case 1:
		b = []byte{0, 0, 0, 0}
	case 2:
		return []byte{0, 0, 0, 0x80}
	case 3:
		b = []byte{0, 0, 2, 2}
	}
	lay(uint64(m.Flags), 1)
	lay(m.Root, 8)
	lay(uint64(m.Cost), 4)
	lay(m.Bridge, 8)
	for _, n := range []uint16{m.Port, m.Age, m.MaxAge, m.Hello, m.Delay} {
		lay(uint64(n), 2)
	}
	if m.Kind == 3 {
		lay(0, 1)
	}
	return b
}

// slowGet reads place by place, as the chapter tells it.
func slowGet(b []byte) (Msg, api.Errno) {
	if len(b) < 4 {
		return Msg{}, api.ErrShort
	}
	var m Msg
	size := 0
	switch string(b[:4]) {
	case "\x00\x00\x00\x00":
		m.Kind, size = 1, 35
	case "\x00\x00\x00\x80":
		m.Kind, size = 2, 4
	case "\x00\x00\x02\x02":
		m.Kind, size = 3, 36
	default:
		return Msg{}, api.ErrForm
	}
	if len(b) < size {
		return Msg{}, api.ErrShort
	}
	if m.Kind == 2 {
		return m, api.OK
	}
	number := func(from, to int) (n uint64) {
		for _, v := range b[from:to] {
			n = n*256 + uint64(v)
		}
		return n
	}
	m.Flags, m.Root, m.Cost, m.Bridge = b[4], number(5, 13), uint32(number(13, 17)), number(17, 25)
	m.Port, m.Age, m.MaxAge = uint16(number(25, 27)), uint16(number(27, 29)), uint16(number(29, 31))
	m.Hello, m.Delay = uint16(number(31, 33)), uint16(number(33, 35))
	if m.Age >= m.MaxAge || m.Kind == 3 && b[35] != 0 {
		return Msg{}, api.ErrForm
	}
	return m, api.OK
}

// slowCompare asks field by field.
func slowCompare(a, b Msg) int {
	fields := func(m Msg) []uint64 {
		if m.Kind == 2 {
			return []uint64{0, 0, 0, 0}
		}
		return []uint64{m.Root, uint64(m.Cost), m.Bridge, uint64(m.Port)}
	}
	return slices.Compare(fields(a), fields(b))
}

func wantBytes(t *testing.T, name string, got, want []byte) {
	t.Helper()
	if !bytes.Equal(got, want) {
		t.Errorf("%s: % x, want % x", name, got, want)
	}
}

// wantGet asks for want, or, by R2, for nothing beside an error; by R3 b stays.
func wantGet(t *testing.T, name string, b []byte, want Msg, wantErr api.Errno) {
	t.Helper()
	before := slices.Clone(b)
	if m, e := Get(b); m != want || e != wantErr {
		t.Errorf("Get of %s, %d bytes % x: %+v, %d; want %+v, %d", name, len(b), before[:min(len(b), 40)], m, e, want, wantErr)
	}
	if !bytes.Equal(b, before) {
		t.Errorf("Get of %s changed its bytes", name)
	}
}

// sameFrame holds frames against each other; nil and empty lists are one (R4).
func sameFrame(f, g ether.Frame) bool {
	return f.Dst == g.Dst && f.Src == g.Src && slices.Equal(f.Tags, g.Tags) && f.Kind == g.Kind && f.Type == g.Type &&
		f.Llc == g.Llc && f.Oui == g.Oui && bytes.Equal(f.Body, g.Body) && bytes.Equal(f.Rest, g.Rest)
}

// wantPut asks Put and Frame, as one has the other's error, for want, or, by R2, for nothing beside an error.
func wantPut(t *testing.T, name string, m Msg, want []byte, wantErr api.Errno) {
	t.Helper()
	b, e := Put(m)
	if e != wantErr {
		t.Errorf("Put of %s, %+v: %d, want %d", name, m, e, wantErr)
	}
	wantBytes(t, "Put of "+name, b, want)
	var frame ether.Frame
	if wantErr == api.OK {
		frame = ether.Frame{Dst: all, Src: there, Kind: ether.Llc, Llc: stp, Body: want}
	}
	if f, e := Frame(there, m); e != wantErr || !sameFrame(f, frame) {
		t.Errorf("Frame of %s, %+v: %+v, %d; want %+v, %d", name, m, f, e, frame, wantErr)
	}
}

// wantCompare asks both ways about.
func wantCompare(t *testing.T, a, b Msg, want int) {
	t.Helper()
	sign := func(n int) int { return min(max(n, -1), 1) }
	if got := Compare(a, b); sign(got) != want {
		t.Errorf("Compare of %+v and %+v: %d, want %d", a, b, got, want)
	}
	if got := Compare(b, a); sign(got) != -want {
		t.Errorf("Compare of %+v and %+v: %d, want %d", b, a, got, -want)
	}
}

// randomMsg may be.
func randomMsg(r *rand.Rand) Msg {
	if r.Intn(5) == 0 {
		return Msg{Kind: Change}
	}
	m := Msg{
		Kind: []int{Config, Rapid}[r.Intn(2)], Flags: byte(r.Intn(256)), Root: r.Uint64(), Cost: r.Uint32(), Bridge: r.Uint64(),
		Port: uint16(r.Intn(65536)), MaxAge: uint16(1 + r.Intn(65535)), Hello: uint16(r.Intn(65536)), Delay: uint16(r.Intn(65536)),
	}
	m.Age = uint16(r.Intn(int(m.MaxAge)))
	return m
}

// nearMsg is one of few, so that two are often as one in some fields; it may be one that may not be.
func nearMsg(r *rand.Rand) Msg {
	return Msg{
		Kind: r.Intn(5), Flags: byte(r.Intn(2)), Root: uint64(r.Intn(2)) << 63, Cost: uint32(r.Intn(2)) << 31, Bridge: uint64(r.Intn(2)) << 32,
		Port: uint16(r.Intn(2)), Age: uint16(r.Intn(2)), MaxAge: uint16(r.Intn(2)), Hello: uint16(r.Intn(2)), Delay: uint16(r.Intn(2)),
	}
}

func randomFill(r *rand.Rand, most int) []byte {
	b := make([]byte, r.Intn(most+1))
	r.Read(b)
	return b
}

// The numbers of the kinds are part of the chapter.
func TestKinds(t *testing.T) {
	if got := [...]int{Config, Change, Rapid}; got != [...]int{1, 2, 3} {
		t.Errorf("kinds: %v", got)
	}
}

// P10.1: what is a bridge's is so by its destination, its Kind and its Llc, whatever else is in the frame.
func TestIs(t *testing.T) {
	tags := [][]tag.Tag{nil, {tag.Plain(5)}, {{Kind: tag.Outer, Number: 7}, tag.Plain(0)}, {tag.Plain(1), tag.Plain(2), tag.Plain(3)}}
	for _, l := range tags {
		for _, body := range [][]byte{nil, {0}, {0, 0, 0, 0x80}, form(each(Config)), form(each(Rapid))[:9], bytes.Repeat([]byte{255}, 2000)} {
			f := ether.Frame{Dst: all, Src: there, Tags: l, Kind: ether.Llc, Llc: stp, Body: body}
			if !Is(f) {
				t.Errorf("%+v is none", f)
			}
			f.Src, f.Rest = api.Mac{}, body
			if !Is(f) {
				t.Errorf("%+v is none", f)
			}
			f.Src, f.Type, f.Oui = all, 0x800, [3]byte{1, 2, 3}
			if !Is(f) {
				t.Errorf("%+v is none", f)
			}
		}
	}
}

// P10.1: with any bit of the destination or the Llc turned, or with any other Kind, it is none.
func TestIsNone(t *testing.T) {
	own := ether.Frame{Dst: all, Src: there, Kind: ether.Llc, Llc: stp, Body: []byte{0, 0, 0, 0x80}}
	for bit := range 8 {
		for at := range 6 {
			f := own
			f.Dst[at] ^= 1 << bit
			if Is(f) {
				t.Errorf("one of %x is a bridge's", f.Dst)
			}
		}
		for at := range 3 {
			f := own
			f.Llc[at] ^= 1 << bit
			if Is(f) {
				t.Errorf("one with Llc %x is a bridge's", f.Llc)
			}
		}
	}
	for _, kind := range []int{-1, 0, ether.Two, ether.Snap, 4, 2 + 1<<32} {
		f := own
		f.Kind = kind
		if Is(f) {
			t.Errorf("one of kind %d is a bridge's", kind)
		}
	}
	f := own
	f.Dst, f.Src = there, all
	if Is(f) {
		t.Error("one from that address is a bridge's")
	}
	if Is(ether.Frame{}) {
		t.Error("none is a bridge's")
	}
}

// P10.1, P10.2: each field is read from its own place, and laid there.
func TestGetAndPut(t *testing.T) {
	fields := []byte{
		0x11, 0x21, 0x22, 0x23, 0x24, 0x25, 0x26, 0x27, 0x28, 0x31, 0x32, 0x33, 0x34,
		0x41, 0x42, 0x43, 0x44, 0x45, 0x46, 0x47, 0x48, 0x51, 0x52, 0x61, 0x62, 0x71, 0x72, 0x81, 0x82, 0x91, 0x92,
	}
	ones := bytes.Repeat([]byte{255}, 31)
	ones[24] = 254 // the low byte of Age
	highest := Msg{
		Flags: 255, Root: 1<<64 - 1, Cost: 1<<32 - 1, Bridge: 1<<64 - 1, Port: 65535,
		Age: 65534, MaxAge: 65535, Hello: 65535, Delay: 65535,
	}
	kind := func(m Msg, kind int) Msg { m.Kind = kind; return m }
	rows := []struct {
		name string
		m    Msg
		b    []byte
	}{
		{"a Config", each(Config), slices.Concat([]byte{0, 0, 0, 0}, fields)},
		{"a Rapid", each(Rapid), slices.Concat([]byte{0, 0, 2, 2}, fields, []byte{0})},
		{"a Change", Msg{Kind: Change}, []byte{0, 0, 0, 0x80}},
		{"the highest Config", kind(highest, Config), slices.Concat([]byte{0, 0, 0, 0}, ones)},
		{"the highest Rapid", kind(highest, Rapid), slices.Concat([]byte{0, 0, 2, 2}, ones, []byte{0})},
		{"the lowest Config", Msg{Kind: Config, MaxAge: 1}, slices.Concat(make([]byte, 30), []byte{1, 0, 0, 0, 0})},
		{"the lowest Rapid", Msg{Kind: Rapid, MaxAge: 1}, slices.Concat([]byte{0, 0, 2, 2}, make([]byte, 26), []byte{1, 0, 0, 0, 0, 0})},
	}
	for _, r := range rows {
		wantGet(t, r.name, r.b, r.m, api.OK)
		wantPut(t, r.name, r.m, r.b, api.OK)
		for _, behind := range [][]byte{{0}, {1}, {255, 255, 255}, r.b, make([]byte, 100)} {
			wantGet(t, r.name+", and more", slices.Concat(r.b, behind), r.m, api.OK)
		}
	}
}

// P10.1: fewer than 4 bytes are ErrShort, whatever they are; and so is one of a known kind that is not all there, though its Age, or its last byte, may not be either.
func TestGetShort(t *testing.T) {
	for n := range 4 {
		for _, b := range [][]byte{form(each(Config)), form(each(Rapid)), {0, 0, 0, 0x80}, {1, 2, 3, 4}, {255, 255, 255, 255}} {
			wantGet(t, "a short one", b[:n], Msg{}, api.ErrShort)
		}
	}
	wantGet(t, "none", nil, Msg{}, api.ErrShort)
	old := each(Config)
	old.Age = old.MaxAge
	oldRapid := each(Rapid)
	oldRapid.Age = 65535
	for _, m := range []Msg{each(Config), each(Rapid), old, oldRapid, {Kind: Config}, {Kind: Rapid}} {
		b := form(m)
		for n := 4; n < len(b); n++ {
			wantGet(t, "a short one", b[:n], Msg{}, api.ErrShort)
		}
	}
	b := form(oldRapid)
	wantGet(t, "an old Rapid", b, Msg{}, api.ErrForm)
	b[35] = 1
	wantGet(t, "an old Rapid whose last byte is not 0", b, Msg{}, api.ErrForm)
}

// P10.1: with other first bytes it is ErrForm, however many there are.
func TestGetForm(t *testing.T) {
	for _, own := range [][]byte{form(each(Config)), form(each(Rapid)), {0, 0, 0, 0x80}, form(Msg{Kind: Config, MaxAge: 1})} {
		for at := range 4 {
			for v := range 256 {
				b := slices.Clone(own)
				b[at] = byte(v)
				switch string(b[:4]) {
				case "\x00\x00\x00\x00", "\x00\x00\x00\x80", "\x00\x00\x02\x02":
					want, e := slowGet(b)
					wantGet(t, "one of a known kind", b, want, e)
				default:
					wantGet(t, "one of no kind", b, Msg{}, api.ErrForm)
					wantGet(t, "a short one of no kind", b[:4], Msg{}, api.ErrForm)
					wantGet(t, "a long one of no kind", slices.Concat(b, make([]byte, 40)), Msg{}, api.ErrForm)
				}
			}
		}
	}
	for _, first := range [][]byte{{0, 0, 2, 0x80}, {0, 0, 0, 2}, {0, 0, 2, 0}, {0, 0, 0x80, 0}, {2, 2, 0, 0}, {0x80, 0, 0, 0}, {0, 0, 3, 2}} {
		wantGet(t, "one of no kind", slices.Concat(first, form(each(Config))[4:], []byte{0}), Msg{}, api.ErrForm)
		wantGet(t, "four bytes of no kind", first, Msg{}, api.ErrForm)
	}
}

// P10.1, P10.2: Age is below MaxAge, or it may not be.
func TestAge(t *testing.T) {
	rows := []struct {
		age, most uint16
		may       bool
	}{
		{0, 0, false}, {0, 1, true}, {1, 1, false}, {1, 0, false}, {1, 2, true}, {2, 1, false},
		{0x00ff, 0x0100, true}, {0x0100, 0x00ff, false}, {0x0100, 0x0100, false}, {0x0200, 0x0101, false}, {0x0101, 0x0200, true},
		{19 * 256, 20 * 256, true}, {20 * 256, 20 * 256, false}, {20*256 - 1, 20 * 256, true}, {20*256 + 1, 20 * 256, false},
		{0x7fff, 0x8000, true}, {0x8000, 0x7fff, false}, {65534, 65535, true}, {65535, 65535, false}, {65535, 0, false}, {0, 65535, true},
	}
	for _, kind := range []int{Config, Rapid} {
		for _, r := range rows {
			m := each(kind)
			m.Age, m.MaxAge = r.age, r.most
			b := form(m)
			if r.may {
				wantGet(t, "one that may be", b, m, api.OK)
				wantPut(t, "one that may be", m, b, api.OK)
			} else {
				wantGet(t, "an old one", b, Msg{}, api.ErrForm)
				wantGet(t, "an old one, and more", append(b, 0, 0), Msg{}, api.ErrForm)
				wantPut(t, "an old one", m, nil, api.ErrArg)
			}
		}
	}
}

// P10.1: only a Rapid has a byte more, and it is 0.
func TestRapidEnd(t *testing.T) {
	for v := range 256 {
		b := form(each(Rapid))
		b[35] = byte(v)
		if v == 0 {
			wantGet(t, "a Rapid", b, each(Rapid), api.OK)
		} else {
			wantGet(t, "a Rapid with another end", b, Msg{}, api.ErrForm)
			wantGet(t, "a Rapid with another end, and more", append(b, 0, 0), Msg{}, api.ErrForm)
		}
		wantGet(t, "a Config", append(form(each(Config)), byte(v)), each(Config), api.OK)
		wantGet(t, "a Change", []byte{0, 0, 0, 0x80, byte(v)}, Msg{Kind: Change}, api.OK)
	}
}

// P10.2: a Change that has anything may not be, nor may what is of no kind.
func TestPutArg(t *testing.T) {
	for name, m := range map[string]Msg{
		"Flags": {Flags: 1}, "Root": {Root: 1 << 63}, "Bridge": {Bridge: 1}, "Cost": {Cost: 1 << 31}, "Port": {Port: 1},
		"MaxAge": {MaxAge: 1}, "Hello": {Hello: 1}, "Delay": {Delay: 1}, "Age": {Age: 1}, "ages": {Age: 1, MaxAge: 2}, "all": each(0),
	} {
		m.Kind = Change
		wantPut(t, "a Change with "+name, m, nil, api.ErrArg)
	}
	wantPut(t, "a Change", Msg{Kind: Change}, []byte{0, 0, 0, 0x80}, api.OK)
	for _, kind := range []int{-1, 0, 4, 5, 0x80, 0x0202, 1 + 1<<32, -1 << 63} {
		wantPut(t, "kind "+strconv.Itoa(kind), each(kind), nil, api.ErrArg)
		wantPut(t, "kind "+strconv.Itoa(kind)+" alone", Msg{Kind: kind}, nil, api.ErrArg)
	}
	wantPut(t, "none", Msg{}, nil, api.ErrArg)
	wantPut(t, "a Config without ages", Msg{Kind: Config}, nil, api.ErrArg)
	wantPut(t, "a Rapid without ages", Msg{Kind: Rapid}, nil, api.ErrArg)
}

// P10.2: whoever it is from, the frame is to all bridges; it has no tag, no Oui, no type and no rest.
func TestFrame(t *testing.T) {
	for _, src := range []api.Mac{{}, there, all, {255, 255, 255, 255, 255, 255}} {
		for _, m := range []Msg{each(Config), each(Rapid), {Kind: Change}} {
			f, e := Frame(src, m)
			want := ether.Frame{Dst: all, Src: src, Kind: ether.Llc, Llc: stp, Body: form(m)}
			if e != api.OK || !sameFrame(f, want) || !Is(f) {
				t.Errorf("Frame from %x of %+v: %+v, %d", src, m, f, e)
			}
		}
		if f, e := Frame(src, Msg{Kind: Config}); e != api.ErrArg || !sameFrame(f, ether.Frame{}) {
			t.Errorf("Frame from %x of one that may not be: %+v, %d", src, f, e)
		}
	}
}

// P10.3: the Root decides ahead of the Cost, that ahead of the Bridge, that ahead of the Port, and nothing else does.
func TestCompare(t *testing.T) {
	own := Msg{Kind: Config, Root: 5, Cost: 5, Bridge: 5, Port: 5, MaxAge: 1}
	worse := []Msg{
		{Kind: Config, Root: 6, Cost: 4, Bridge: 4, Port: 4},
		{Kind: Config, Root: 6},
		{Kind: Config, Root: 5, Cost: 6, Bridge: 4, Port: 4},
		{Kind: Config, Root: 5, Cost: 6},
		{Kind: Config, Root: 5, Cost: 5, Bridge: 6, Port: 4},
		{Kind: Config, Root: 5, Cost: 5, Bridge: 6},
		{Kind: Config, Root: 5, Cost: 5, Bridge: 5, Port: 6},
		{Kind: Config, Root: 1 << 63, Cost: 5, Bridge: 5, Port: 5},
		{Kind: Config, Root: 5 + 1<<32, Cost: 5, Bridge: 5, Port: 5},
		{Kind: Config, Root: 5, Cost: 1 << 31, Bridge: 5, Port: 5},
		{Kind: Config, Root: 5, Cost: 5, Bridge: 1 << 63, Port: 5},
		{Kind: Config, Root: 5, Cost: 5, Bridge: 5 + 1<<32, Port: 5},
		{Kind: Config, Root: 5, Cost: 5, Bridge: 5, Port: 1 << 15},
		{Kind: Config, Root: 1<<64 - 1, Cost: 5, Bridge: 5, Port: 5},
	}
	for _, m := range worse {
		for _, kind := range []int{Config, Rapid} {
			m.Kind = kind
			wantCompare(t, own, m, -1)
			m.Flags, m.Age, m.MaxAge, m.Hello, m.Delay = 255, 255, 255, 255, 255
			wantCompare(t, own, m, -1)
		}
	}
	same := own
	same.Kind, same.Flags, same.Age, same.MaxAge, same.Hello, same.Delay = Rapid, 1, 2, 3, 4, 5
	wantCompare(t, own, same, 0)
	wantCompare(t, own, own, 0)
	wantCompare(t, Msg{}, Msg{}, 0)
}

// P10.3: a Change is as one with all noughts, whatever it has, against any.
func TestCompareChange(t *testing.T) {
	for _, change := range []Msg{{Kind: Change}, each(Change), {Kind: Change, Port: 9}, {Kind: Change, Root: 1<<64 - 1}} {
		wantCompare(t, change, Msg{Kind: Config, MaxAge: 1}, 0)
		wantCompare(t, change, Msg{Kind: Rapid, Flags: 5, MaxAge: 1, Delay: 5}, 0)
		wantCompare(t, change, Msg{Kind: Change}, 0)
		wantCompare(t, change, each(Change), 0)
		wantCompare(t, change, each(Config), -1)
		for _, m := range []Msg{{Root: 1}, {Cost: 1}, {Bridge: 1}, {Port: 1}} {
			for _, kind := range []int{Config, Rapid} {
				m.Kind = kind
				wantCompare(t, change, m, -1)
			}
		}
	}
}

// P10.3, P10.5: of messages of all sorts, those that may not be among them, it is an order.
func TestOrder(t *testing.T) {
	r := rand.New(rand.NewSource(10))
	told := map[int]int{}
	for range 30000 {
		a, b, c := nearMsg(r), nearMsg(r), nearMsg(r)
		wantCompare(t, a, b, slowCompare(a, b))
		told[slowCompare(a, b)]++
		ab, bc, ac := Compare(a, b), Compare(b, c), Compare(a, c)
		if ab < 0 && bc < 0 && ac >= 0 || ab <= 0 && bc <= 0 && ac > 0 || ab == 0 && bc == 0 && ac != 0 {
			t.Errorf("%+v, %+v, %+v: %d, %d, %d", a, b, c, ab, bc, ac)
		}
		x, y := randomMsg(r), randomMsg(r)
		wantCompare(t, x, y, slowCompare(x, y))
		wantCompare(t, x, x, 0)
	}
	for _, n := range []int{-1, 0, 1} {
		if told[n] < 1000 {
			t.Errorf("too few of them came: %v", told)
		}
	}
}

// P10.4: Get of Put, whatever stands behind, is the message; so is that of a frame of it, which is a bridge's, laid and read.
func TestThereAndBack(t *testing.T) {
	r := rand.New(rand.NewSource(11))
	for range 5000 {
		m := randomMsg(r)
		b, e := Put(m)
		if e != api.OK {
			t.Fatalf("Put of %+v: %d", m, e)
		}
		wantBytes(t, "Put", b, form(m))
		wantGet(t, "what was put", slices.Concat(b, randomFill(r, 60)), m, api.OK)
		var src api.Mac
		r.Read(src[:])
		f, e := Frame(src, m)
		if e != api.OK {
			t.Fatalf("Frame of %+v: %d", m, e)
		}
		laid, e := ether.Put(f)
		if e != api.OK || len(laid) != 17+len(b) {
			t.Fatalf("laid: % x, %d", laid, e)
		}
		read, e := ether.Get(slices.Concat(laid, randomFill(r, 30)))
		if e != api.OK || !Is(read) || read.Src != src || len(read.Tags) > 0 {
			t.Errorf("read: %+v, %d", read, e)
		}
		wantGet(t, "what a frame carries", read.Body, m, api.OK)
	}
	wantGet(t, "one far ahead of the end", slices.Concat(form(each(Rapid)), make([]byte, 1<<17)), each(Rapid), api.OK)
}

// P10.1, P10.4: bytes near to what may be are read as the chapter tells; Put of what is got are the first of them.
func TestBackAndThere(t *testing.T) {
	r := rand.New(rand.NewSource(12))
	told := map[api.Errno]int{}
	for range 30000 {
		b := randomFill(r, 60)
		if r.Intn(2) == 0 {
			b = append(form(randomMsg(r)), b...)
		}
		if r.Intn(8) > 0 {
			copy(b, [][]byte{{0, 0, 0, 0}, {0, 0, 0, 0x80}, {0, 0, 2, 2}}[r.Intn(3)])
		}
		if len(b) > 35 && r.Intn(2) == 0 {
			b[35] = byte(r.Intn(2))
		}
		if r.Intn(4) == 0 {
			b = b[:r.Intn(len(b)+1)]
		}
		want, wantErr := slowGet(b)
		told[wantErr]++
		wantGet(t, "random bytes", b, want, wantErr)
		if wantErr == api.OK {
			own := form(want)
			wantBytes(t, "its own bytes", b[:len(own)], own)
			wantPut(t, "what is got", want, own, api.OK)
		}
	}
	for _, e := range []api.Errno{api.OK, api.ErrShort, api.ErrForm} {
		if told[e] < 1000 {
			t.Errorf("too few of them came: %v", told)
		}
	}
}

// R3: what is told is new memory each time.
func TestSharesNothing(t *testing.T) {
	for _, m := range []Msg{each(Config), each(Rapid), {Kind: Change}} {
		b, _ := Put(m)
		f, _ := Frame(there, m)
		for i := range b {
			b[i] = 99
			f.Body[i] = 98
		}
		_ = append(b, 97)
		wantPut(t, "one put again", m, form(m), api.OK)
	}
}

// The rows of the chapter's section 'Examples'.
func TestExamples(t *testing.T) {
	if b, e := Put(Msg{Kind: Change}); e != api.OK || !bytes.Equal(b, []byte{0x00, 0x00, 0x00, 0x80}) {
		t.Errorf("% x, %d", b, e)
	}
	for kind, size := range map[int]int{Config: 35, Rapid: 36} {
		if b, e := Put(Msg{Kind: kind, MaxAge: 1}); e != api.OK || len(b) != size {
			t.Errorf("kind %d: %d bytes, %d", kind, len(b), e)
		}
	}
}
