package trans

import (
	"bytes"
	"math/rand"
	"slices"
	"strings"
	"testing"

	"toll/api"
)

const (
	here  = api.IP(0x0a000001)
	there = api.IP(0x0a000002)
)

// sameTcp holds heads against each other; nil and empty lists are one (R4).
func sameTcp(g, h Tcp) bool {
	return g.From == h.From && g.To == h.To && g.Seq == h.Seq && g.Ack == h.Ack && g.Odd == h.Odd && g.Flags == h.Flags &&
		g.Window == h.Window && g.Sum == h.Sum && g.Urgent == h.Urgent &&
		bytes.Equal(g.Options, h.Options) && bytes.Equal(g.Body, h.Body)
}

func sameUdp(g, h Udp) bool {
	return g.From == h.From && g.To == h.To && g.Length == h.Length && g.Sum == h.Sum && bytes.Equal(g.Body, h.Body)
}

// short keeps what a test tells of long bytes legible.
func short(b []byte) []byte { return b[:min(len(b), 70)] }

func wantBytes(t *testing.T, name string, got, want []byte) {
	t.Helper()
	if !bytes.Equal(got, want) {
		t.Errorf("%s: %d bytes % x, want %d: % x", name, len(got), short(got), len(want), short(want))
	}
}

// wantTcp asks GetTcp for want, or, by R2, for nothing beside an error; by R3 b stays.
func wantTcp(t *testing.T, b []byte, want Tcp, wantErr api.Errno) {
	t.Helper()
	before := slices.Clone(b)
	if h, e := GetTcp(b); e != wantErr || !sameTcp(h, want) {
		t.Errorf("GetTcp of %d bytes % x: %+v, %d; want %+v, %d", len(b), short(b), h, e, want, wantErr)
	}
	wantBytes(t, "what was handed in", b, before)
}

func wantUdp(t *testing.T, b []byte, want Udp, wantErr api.Errno) {
	t.Helper()
	before := slices.Clone(b)
	if h, e := GetUdp(b); e != wantErr || !sameUdp(h, want) {
		t.Errorf("GetUdp of %d bytes % x: %+v, %d; want %+v, %d", len(b), short(b), h, e, want, wantErr)
	}
	wantBytes(t, "what was handed in", b, before)
}

// wantLaid asks one of the heads' Bytes.
func wantLaid(t *testing.T, name string, lay func() ([]byte, api.Errno), want []byte, wantErr api.Errno) {
	t.Helper()
	b, e := lay()
	if e != wantErr {
		t.Errorf("Bytes of %s: %d, want %d", name, e, wantErr)
	}
	wantBytes(t, "Bytes of "+name, b, want)
}

func wantSeal(t *testing.T, src, dst api.IP, proto uint8, b, want []byte, wantErr api.Errno) {
	t.Helper()
	before := slices.Clone(b)
	got, e := Seal(src, dst, proto, b)
	if e != wantErr {
		t.Errorf("Seal of %d bytes % x of %d: %d, want %d", len(b), short(b), proto, e, wantErr)
	}
	wantBytes(t, "Seal", got, want)
	wantBytes(t, "what was handed in", b, before)
}

func wantRight(t *testing.T, src, dst api.IP, proto uint8, b []byte, want bool) {
	t.Helper()
	before := slices.Clone(b)
	if is := Right(src, dst, proto, b); is != want {
		t.Errorf("Right from %x to %x, of %d, %d bytes % x: %v", src, dst, proto, len(b), short(b), is)
	}
	wantBytes(t, "what was handed in", b, before)
}

func wantParse(t *testing.T, s string, want uint8, wantErr api.Errno) {
	t.Helper()
	if f, e := Parse(s); f != want || e != wantErr {
		t.Errorf("Parse of %.60q: %d, %d; want %d, %d", s, f, e, want, wantErr)
	}
}

// with is b with other bytes from a place on.
func with(b []byte, at int, v ...byte) []byte {
	b = slices.Clone(b)
	copy(b[at:], v)
	return b
}

// fill is n bytes, each its place's.
func fill(n int) []byte {
	b := make([]byte, n)
	for i := range b {
		b[i] = byte(i + 1)
	}
	return b
}

// plain is n bytes that begin with a head of five words.
func plain(n int) []byte { return with(make([]byte, n), 12, 0x50) }

// udp is n bytes that say that there are so many.
func udp(n int) []byte { return with(make([]byte, n), 4, byte(n>>8), byte(n)) }

func two(b []byte) uint16 { return uint16(b[0])*256 + uint16(b[1]) }

func four(b []byte) uint32 { return uint32(two(b))*65536 + uint32(two(b[2:])) }

// slowTcp asks one thing of the chapter after the other.
func slowTcp(b []byte) (Tcp, api.Errno) {
	if len(b) < 20 {
		return Tcp{}, api.ErrShort
	}
	words := int(b[12] / 16)
	if words < 5 {
		return Tcp{}, api.ErrForm
	}
	if len(b) < 4*words {
		return Tcp{}, api.ErrShort
	}
	return Tcp{
		From: two(b), To: two(b[2:]), Seq: four(b[4:]), Ack: four(b[8:]), Odd: b[12] % 16, Flags: b[13],
		Window: two(b[14:]), Sum: two(b[16:]), Urgent: two(b[18:]), Options: b[20 : 4*words], Body: b[4*words:],
	}, api.OK
}

func slowUdp(b []byte) (Udp, api.Errno) {
	if len(b) < 8 {
		return Udp{}, api.ErrShort
	}
	n := int(two(b[4:]))
	if n < 8 {
		return Udp{}, api.ErrForm
	}
	if n > len(b) {
		return Udp{}, api.ErrShort
	}
	return Udp{From: two(b), To: two(b[2:]), Length: two(b[4:]), Sum: two(b[6:]), Body: b[8:n]}, api.OK
}

// slowSum carries at once, word by word, over all that the sum is of.
func slowSum(src, dst api.IP, proto uint8, b []byte) uint16 {
	all := slices.Concat(address(src), address(dst), []byte{0, proto, byte(len(b) >> 8), byte(len(b))}, b)
	sum := 0
	for i, v := range all {
		if i%2 == 0 {
			sum += 256 * int(v)
		} else {
			sum += int(v)
		}
		for sum > 65535 {
			sum = sum/65536 + sum%65536
		}
	}
	return uint16(65535 - sum)
}

func address(ip api.IP) []byte {
	return []byte{byte(ip >> 24), byte(ip >> 16), byte(ip >> 8), byte(ip)}
}

func slowRight(src, dst api.IP, proto uint8, b []byte) bool {
	if len(b) > 65535 {
		return false
	}
	if proto == 17 && len(b) >= 8 && b[6] == 0 && b[7] == 0 {
		return true
	}
	return slowSum(src, dst, proto, b) == 0
}

// slowText goes through all flags by hand.
func slowText(flags uint8) string {
	s := ""
	for _, f := range []struct {
		flag uint8
		name string
	}{{1, ",fin"}, {2, ",syn"}, {4, ",rst"}, {8, ",psh"}, {16, ",ack"}, {32, ",urg"}, {64, ",ece"}, {128, ",cwr"}} {
		if flags/f.flag%2 == 1 {
			s += f.name
		}
	}
	if s == "" {
		return "-"
	}
	return s[1:]
}

func randomFill(r *rand.Rand, most int) []byte {
	b := make([]byte, r.Intn(most+1))
	r.Read(b)
	return b
}

func randomTcp(r *rand.Rand) Tcp {
	h := Tcp{
		From: uint16(r.Intn(65536)), To: uint16(r.Intn(65536)), Seq: r.Uint32(), Ack: r.Uint32(),
		Odd: uint8(r.Intn(16)), Flags: uint8(r.Intn(256)),
		Window: uint16(r.Intn(65536)), Sum: uint16(r.Intn(65536)), Urgent: uint16(r.Intn(65536)),
		Options: make([]byte, 4*r.Intn(11)), Body: randomFill(r, 70),
	}
	r.Read(h.Options)
	return h
}

func randomUdp(r *rand.Rand) Udp {
	body := randomFill(r, 70)
	return Udp{From: uint16(r.Intn(65536)), To: uint16(r.Intn(65536)), Length: uint16(8 + len(body)), Sum: uint16(r.Intn(65536)), Body: body}
}

// The numbers that the chapter tells.
func TestNumbers(t *testing.T) {
	if got := [8]int{Fin, Syn, Rst, Psh, Ack, Urg, Ece, Cwr}; got != [8]int{1, 2, 4, 8, 16, 32, 64, 128} {
		t.Error(got)
	}
	if TCP != 6 || UDP != 17 || ICMP != 1 {
		t.Error(TCP, UDP, ICMP)
	}
}

// P7.1, P7.2: each part of a head of TCP is read from its own place, and laid there.
func TestTcpParts(t *testing.T) {
	all := []byte{0x81, 2, 0x83, 4, 0x85, 6, 7, 8, 0x89, 10, 11, 12, 0x6d, 0x8e, 0x8f, 16, 0x91, 18, 0x93, 20, 21, 22, 23, 24, 25, 26, 27}
	rows := []struct {
		name string
		h    Tcp
		b    []byte
	}{
		{"one of which each byte is another one", Tcp{
			From: 0x8102, To: 0x8304, Seq: 0x85060708, Ack: 0x890a0b0c, Odd: 13, Flags: 0x8e,
			Window: 0x8f10, Sum: 0x9112, Urgent: 0x9314, Options: []byte{21, 22, 23, 24}, Body: []byte{25, 26, 27},
		}, all},
		{"zeros", Tcp{}, plain(20)},
		{"ones", Tcp{
			0xffff, 0xffff, 0xffffffff, 0xffffffff, 15, 255, 0xffff, 0xffff, 0xffff,
			bytes.Repeat([]byte{255}, 40), bytes.Repeat([]byte{255}, 40),
		}, bytes.Repeat([]byte{255}, 100)},
		{"a body without options", Tcp{Body: []byte{1}}, append(plain(20), 1)},
		{"options without a body", Tcp{Options: fill(8)}, slices.Concat(with(plain(20), 12, 0x70), fill(8))},
		{"options of nought", Tcp{Options: make([]byte, 4)}, with(make([]byte, 24), 12, 0x60)},
		{"a long body", Tcp{Body: fill(1 << 17)}, slices.Concat(plain(20), fill(1<<17))},
	}
	for _, r := range rows {
		wantTcp(t, r.b, r.h, api.OK)
		wantLaid(t, r.name, r.h.Bytes, r.b, api.OK)
	}
}

// P7.1, P7.2: likewise of UDP.
func TestUdpParts(t *testing.T) {
	rows := []struct {
		name string
		h    Udp
		b    []byte
	}{
		{"one of which each byte is another one", Udp{0x8102, 0x8304, 11, 0x8708, []byte{9, 10, 11}}, []byte{0x81, 2, 0x83, 4, 0, 11, 0x87, 8, 9, 10, 11}},
		{"one without a body", Udp{Length: 8}, []byte{0, 0, 0, 0, 0, 8, 0, 0}},
		{"ones", Udp{0xffff, 0xffff, 9, 0xffff, []byte{255}}, []byte{255, 255, 255, 255, 0, 9, 255, 255, 255}},
		{"a body of 256", Udp{1, 2, 264, 3, fill(256)}, slices.Concat([]byte{0, 1, 0, 2, 1, 8, 0, 3}, fill(256))},
		{"the longest", Udp{1, 2, 65535, 3, fill(65527)}, slices.Concat([]byte{0, 1, 0, 2, 255, 255, 0, 3}, fill(65527))},
	}
	for _, r := range rows {
		wantUdp(t, r.b, r.h, api.OK)
		wantUdp(t, append(slices.Clone(r.b), 99), r.h, api.OK)
		wantLaid(t, r.name, r.h.Bytes, r.b, api.OK)
	}
}

// P7.1: each value of the byte that says how many words there are, with as many bytes as any head may have, and with fewer.
func TestTcpWords(t *testing.T) {
	for v := range 256 {
		b := with(fill(64), 12, byte(v))
		for n := range len(b) + 1 {
			want, wantErr := slowTcp(b[:n])
			wantTcp(t, b[:n], want, wantErr)
		}
	}
	for words := range 16 {
		b := with(fill(20), 12, byte(16*words))
		switch {
		case words < 5:
			wantTcp(t, b, Tcp{}, api.ErrForm)
			wantTcp(t, slices.Concat(b, fill(100)), Tcp{}, api.ErrForm)
		case words > 5:
			wantTcp(t, b, Tcp{}, api.ErrShort)
			wantTcp(t, slices.Concat(b, fill(4*words-21)), Tcp{}, api.ErrShort)
		}
		wantTcp(t, b[:19], Tcp{}, api.ErrShort)
	}
	wantTcp(t, nil, Tcp{}, api.ErrShort)
	wantTcp(t, []byte{}, Tcp{}, api.ErrShort)
	wantTcp(t, make([]byte, 19), Tcp{}, api.ErrShort)
	wantTcp(t, make([]byte, 20), Tcp{}, api.ErrForm)
}

// P7.1: how many bytes there are said to be, around what there are.
func TestUdpLength(t *testing.T) {
	b := fill(40)
	for n := range len(b) + 1 {
		for _, high := range []byte{0, 1, 255} {
			for low := range 50 {
				c := with(b, 4, high, byte(low))[:n]
				want, wantErr := slowUdp(c)
				wantUdp(t, c, want, wantErr)
			}
		}
	}
	rows := []struct {
		there, said int
		want        api.Errno
	}{
		{7, 0, api.ErrShort}, {7, 7, api.ErrShort}, {7, 8, api.ErrShort},
		{8, 0, api.ErrForm}, {8, 7, api.ErrForm}, {8, 9, api.ErrShort}, {8, 65535, api.ErrShort},
		{100, 7, api.ErrForm}, {100, 101, api.ErrShort},
		{65534, 65535, api.ErrShort}, {65536, 0, api.ErrForm}, {65544, 7, api.ErrForm},
	}
	for _, r := range rows {
		wantUdp(t, with(fill(r.there), 4, byte(r.said>>8), byte(r.said)), Udp{}, r.want)
	}
	for n := range 8 {
		wantUdp(t, make([]byte, n), Udp{}, api.ErrShort)
	}
	wantUdp(t, nil, Udp{}, api.ErrShort)
	wantUdp(t, udp(70000), Udp{Length: 70000 - 65536, Body: make([]byte, 70000-65536-8)}, api.OK)
}

// P7.2: what a head of TCP may not be, and what is just enough.
func TestTcpBytesErrors(t *testing.T) {
	for odd := range 256 {
		h := Tcp{Odd: uint8(odd), Body: []byte{7}}
		if odd < 16 {
			wantLaid(t, "an Odd that may be", h.Bytes, slices.Concat(with(plain(20), 12, byte(0x50+odd)), []byte{7}), api.OK)
		} else {
			wantLaid(t, "an Odd that may not be", h.Bytes, nil, api.ErrArg)
		}
	}
	for n := range 300 {
		h := Tcp{Options: fill(n), Body: []byte{7}}
		if n <= 40 && n%4 == 0 {
			wantLaid(t, "options that may be", h.Bytes, slices.Concat(with(plain(20), 12, byte(0x50+n/4*16)), fill(n), []byte{7}), api.OK)
		} else {
			wantLaid(t, "options that may not be", h.Bytes, nil, api.ErrArg)
		}
		wantBytes(t, "the options that were handed in", h.Options, fill(n))
	}
	wantLaid(t, "both", Tcp{Odd: 16, Options: fill(3)}.Bytes, nil, api.ErrArg)
	wantLaid(t, "very long options", Tcp{Options: fill(1 << 16)}.Bytes, nil, api.ErrArg)
}

// P7.2: a Length that is not the body's.
func TestUdpBytesErrors(t *testing.T) {
	for n := range 20 {
		for length := range 40 {
			h := Udp{1, 2, uint16(length), 3, fill(n)}
			if length == 8+n {
				wantLaid(t, "a Length that is right", h.Bytes, slices.Concat([]byte{0, 1, 0, 2, 0, byte(length), 0, 3}, fill(n)), api.OK)
			} else {
				wantLaid(t, "a wrong Length", h.Bytes, nil, api.ErrArg)
			}
			wantBytes(t, "the body that was handed in", h.Body, fill(n))
		}
	}
	rows := []struct {
		length uint16
		n      int
	}{
		{0, 0}, {9, 0}, {264, 0}, {8, 256}, {65535, 65528}, {65535, 65526},
		{0, 65528}, {8, 65536}, {18, 65546}, {7, 65535},
	}
	for _, r := range rows {
		wantLaid(t, "a Length that is another one", Udp{Length: r.length, Body: make([]byte, r.n)}.Bytes, nil, api.ErrArg)
	}
	wantLaid(t, "none", Udp{}.Bytes, nil, api.ErrArg)
}

// wantPorts asks for what GetTcp or GetUdp tell, be they so kind.
func wantPorts(t *testing.T, proto uint8, b []byte, from, to uint16, is bool) {
	t.Helper()
	before := slices.Clone(b)
	if f, g, i := Ports(proto, b); f != from || g != to || i != is {
		t.Errorf("Ports of %d, %d bytes % x: %d, %d, %v; want %d, %d, %v", proto, len(b), short(b), f, g, i, from, to, is)
	}
	wantBytes(t, "what was handed in", b, before)
}

// P7.3: of both protocols, and of no other one, whatever the bytes.
func TestPorts(t *testing.T) {
	tcp := with(plain(24), 0, 0x81, 2, 0x83, 4)
	dgram := with(udp(12), 0, 0x81, 2, 0x83, 4)
	both := with(tcp, 4, 0, 20) // a head of either
	for proto := range 256 {
		p := uint8(proto)
		for _, b := range [][]byte{tcp, dgram, both} {
			from, to, is := uint16(0), uint16(0), false
			if _, e := slowTcp(b); p == 6 && e == api.OK {
				from, to, is = 0x8102, 0x8304, true
			}
			if _, e := slowUdp(b); p == 17 && e == api.OK {
				from, to, is = 0x8102, 0x8304, true
			}
			wantPorts(t, p, b, from, to, is)
		}
		wantPorts(t, p, nil, 0, 0, false)
		wantPorts(t, p, make([]byte, 100), 0, 0, false)
	}
	wantPorts(t, TCP, both, 0x8102, 0x8304, true)
	wantPorts(t, UDP, both, 0x8102, 0x8304, true)
	wantPorts(t, ICMP, both, 0, 0, false)
}

// P7.3: of a wrong head nothing is told, though its ports are there.
func TestNoPorts(t *testing.T) {
	rows := []struct {
		name  string
		proto uint8
		b     []byte
	}{
		{"TCP of 19 bytes", TCP, plain(20)[:19]},
		{"TCP of 4 bytes", TCP, fill(4)},
		{"TCP of 4 words", TCP, with(fill(40), 12, 0x40)},
		{"TCP of 6 words, not all there", TCP, with(fill(23), 12, 0x60)},
		{"UDP of 7 bytes", UDP, udp(8)[:7]},
		{"UDP of 4 bytes", UDP, fill(4)},
		{"UDP with a Length of 7", UDP, with(fill(20), 4, 0, 7)},
		{"UDP with a Length above what there is", UDP, with(fill(20), 4, 0, 21)},
	}
	for _, r := range rows {
		b := slices.Clone(r.b)
		copy(b, []byte{1, 2, 3, 4})
		if from, to, is := Ports(r.proto, b); from != 0 || to != 0 || is {
			t.Errorf("%s: %d, %d, %v", r.name, from, to, is)
		}
	}
	wantPorts(t, TCP, with(plain(20), 0, 1, 2, 3, 4), 0x0102, 0x0304, true)
	wantPorts(t, UDP, with(udp(8), 0, 1, 2, 3, 4), 0x0102, 0x0304, true)
	wantPorts(t, UDP, with(udp(8), 0, 0, 0, 0, 0), 0, 0, true)
	wantPorts(t, UDP, append(with(udp(8), 0, 1, 2, 3, 4), 9), 0x0102, 0x0304, true)
}

// sealRows have sums that can be worked out by hand.
func sealRows() []struct {
	name     string
	src, dst api.IP
	proto    uint8
	b, want  []byte
} {
	return []struct {
		name     string
		src, dst api.IP
		proto    uint8
		b, want  []byte
	}{
		{"TCP", here, there, TCP, plain(20), with(plain(20), 16, 0x9b, 0xe2)},
		{"TCP with a sum already", here, there, TCP, with(plain(20), 16, 0x12, 0x34), with(plain(20), 16, 0x9b, 0xe2)},
		{"TCP, an odd byte behind", here, there, TCP, append(plain(20), 1), append(with(plain(20), 16, 0x9a, 0xe1), 1)},
		{"TCP, 0", here, there, TCP, with(plain(20), 14, 0x9b, 0xe2), with(plain(20), 14, 0x9b, 0xe2)},
		{"TCP, 0, with a sum already", here, there, TCP, with(plain(20), 14, 0x9b, 0xe2, 0xff, 0xff), with(plain(20), 14, 0x9b, 0xe2)},
		{"TCP, all up to its sum", 0, 0, TCP, make([]byte, 18), with(make([]byte, 18), 16, 0xff, 0xe7)},
		{"TCP that is no head", 0, 0, TCP, with(make([]byte, 18), 12, 0xff), with(make([]byte, 18), 12, 0xff, 0, 0, 0, 0, 0xe7)},
		{"UDP", here, there, UDP, []byte{0, 1, 0, 2, 0, 8, 0, 0}, []byte{0, 1, 0, 2, 0, 8, 0xeb, 0xd8}},
		{"UDP with a sum already", here, there, UDP, []byte{0, 1, 0, 2, 0, 8, 0xff, 0xff}, []byte{0, 1, 0, 2, 0, 8, 0xeb, 0xd8}},
		{"UDP, ffff in place of 0", here, there, UDP, []byte{0, 1, 0, 2, 0, 10, 0, 0, 0xeb, 0xd4}, []byte{0, 1, 0, 2, 0, 10, 0xff, 0xff, 0xeb, 0xd4}},
		{"UDP, ffff in place of 0, with a sum already", here, there, UDP, []byte{0, 1, 0, 2, 0, 10, 1, 1, 0xeb, 0xd4}, []byte{0, 1, 0, 2, 0, 10, 0xff, 0xff, 0xeb, 0xd4}},
		{"UDP of a Length that is another one", 0, 0, UDP, make([]byte, 8), []byte{0, 0, 0, 0, 0, 0, 0xff, 0xe6}},
		{"UDP from an address of ones", 0xffffffff, 0xffffffff, UDP, make([]byte, 8), []byte{0, 0, 0, 0, 0, 0, 0xff, 0xe6}},
		{"UDP, each byte of the addresses", 0x01020304, 0x10203040, UDP, make([]byte, 8), []byte{0, 0, 0, 0, 0, 0, 0xbb, 0x80}},
	}
}

// P7.3, P7.6: what is sealed, and that it is right.
func TestSeal(t *testing.T) {
	for _, r := range sealRows() {
		t.Run(r.name, func(t *testing.T) {
			wantSeal(t, r.src, r.dst, r.proto, r.b, r.want, api.OK)
			wantRight(t, r.src, r.dst, r.proto, r.want, true)
			wantSeal(t, r.src, r.dst, r.proto, r.want, r.want, api.OK)
		})
	}
}

// P7.3: no other protocol, no more bytes than may be, no fewer than up to the sum; ErrArg is asked first.
func TestSealErrors(t *testing.T) {
	for proto := range 256 {
		if proto == 6 || proto == 17 {
			continue
		}
		for _, n := range []int{0, 1, 7, 8, 17, 18, 20, 40, 65535, 65536} {
			wantSeal(t, here, there, uint8(proto), make([]byte, n), nil, api.ErrArg)
		}
	}
	for n := range 18 {
		wantSeal(t, here, there, TCP, fill(n), nil, api.ErrShort)
	}
	for n := range 8 {
		wantSeal(t, here, there, UDP, fill(n), nil, api.ErrShort)
	}
	for _, n := range []int{65536, 65537, 65536 + 20, 1 << 17} {
		wantSeal(t, here, there, TCP, fill(n), nil, api.ErrArg)
		wantSeal(t, here, there, UDP, fill(n), nil, api.ErrArg)
	}
	wantSeal(t, here, there, TCP, nil, nil, api.ErrShort)
	wantSeal(t, here, there, UDP, nil, nil, api.ErrShort)
}

// P7.3: as many bytes as may be are sealed, and are right; one more is neither.
func TestMostBytes(t *testing.T) {
	b := bytes.Repeat([]byte{0xfe, 0xff, 0x81}, 21846)
	for _, at := range []struct {
		proto uint8
		sum   int
	}{{TCP, 16}, {UDP, 6}} {
		for _, n := range []int{65534, 65535} {
			c := with(b[:n], at.sum, 0, 0)
			s := slowSum(here, there, at.proto, c)
			want := with(c, at.sum, byte(s>>8), byte(s))
			wantSeal(t, here, there, at.proto, b[:n], want, api.OK)
			wantRight(t, here, there, at.proto, want, true)
			wantRight(t, there, here+1, at.proto, want, false)
		}
	}
	for proto := range 256 {
		wantRight(t, 0, 0, uint8(proto), make([]byte, 65536), false)
		long := bytes.Repeat([]byte{0xff}, 65536) // the sum of the words alone is 0
		wantRight(t, 0xffffffff, 0xffffffff, uint8(proto), long, false)
		wantRight(t, 0, 0, uint8(proto), with(make([]byte, 65536), 0, 0xff, byte(255-proto)), false)
	}
	wantRight(t, here, there, UDP, make([]byte, 65535), true)
	wantRight(t, here, there, TCP, make([]byte, 65535), false)
}

// P7.3: sums that are right of any protocol, worked out by hand.
func TestRight(t *testing.T) {
	rows := []struct {
		name     string
		src, dst api.IP
		proto    uint8
		b        []byte
		want     bool
	}{
		{"no bytes, that come to ffff", 0xffff0000, 0, 0, nil, true},
		{"no bytes, by the protocol", 0xfff90000, 0, TCP, nil, true},
		{"no bytes, by UDP", 0xffee0000, 0, UDP, nil, true},
		{"no bytes", 0, 0, 0, nil, false},
		{"no bytes, of UDP", 0, 0, UDP, nil, false},
		{"one byte, which is a high one", 0, 0, 255, []byte{0xff}, false},
		{"one byte, and its length", 0x00fe0000, 0, 0, []byte{0xff}, true},
		{"two bytes", 0, 0, ICMP, []byte{0xff, 0xfc}, true},
		{"two bytes of another protocol", 0, 0, 2, []byte{0xff, 0xfc}, false},
		{"two bytes, the addresses the other way round", here, there, ICMP, []byte{0xeb, 0xf9}, true},
		{"two bytes, the addresses the other way round", there, here, ICMP, []byte{0xeb, 0xf9}, true},
		{"a carry", 0xffff0001, 0, ICMP, []byte{0xff, 0xfb}, true},
		{"TCP without a sum", here, there, TCP, plain(20), false},
		{"TCP with ffff in place of 0", here, there, TCP, with(plain(20), 14, 0x9b, 0xe2, 0xff, 0xff), true},
		{"UDP with 7 bytes of nought", 0, 0, UDP, make([]byte, 7), false},
		{"UDP with 7 bytes, right as they stand", 0, 0, UDP, []byte{0xff, 0xe7, 0, 0, 0, 0, 0}, true},
		{"UDP with 6 bytes", 0, 0, UDP, make([]byte, 6), false},
		{"UDP with 8 bytes of nought", 0, 0, UDP, make([]byte, 8), true},
		{"UDP without a sum, of a Length that is another one", here, there, UDP, []byte{9, 9, 9, 9, 9, 9, 0, 0, 9}, true},
		{"UDP with half a sum", here, there, UDP, []byte{9, 9, 9, 9, 0, 9, 0, 1, 9}, false},
		{"UDP with half a sum", here, there, UDP, []byte{9, 9, 9, 9, 0, 9, 1, 0, 9}, false},
		{"TCP with a nought where UDP has its sum", here, there, TCP, with(plain(20), 0, 9), false},
		{"ICMP with a nought where UDP has its sum", here, there, ICMP, with(fill(20), 6, 0, 0), false},
		{"UDP that is sealed", here, there, UDP, []byte{0, 1, 0, 2, 0, 8, 0xeb, 0xd8}, true},
		{"the same of TCP", here, there, TCP, []byte{0, 1, 0, 2, 0, 8, 0xeb, 0xd8}, false},
		{"UDP that is sealed, and a nought behind", here, there, UDP, []byte{0, 1, 0, 2, 0, 8, 0xeb, 0xd8, 0}, false},
	}
	for _, r := range rows {
		t.Run(r.name, func(t *testing.T) { wantRight(t, r.src, r.dst, r.proto, r.b, r.want) })
	}
}

// P7.3: what is random, and what is then made right, of every protocol.
func TestRightOfMany(t *testing.T) {
	r := rand.New(rand.NewSource(1))
	for i := range 20000 {
		src, dst, proto := api.IP(r.Uint32()), api.IP(r.Uint32()), uint8(i)
		if i%3 == 0 {
			proto = UDP
		}
		b := randomFill(r, 40)
		if i%5 == 0 && len(b) >= 8 {
			b[6], b[7] = 0, byte(r.Intn(2))
		}
		wantRight(t, src, dst, proto, b, slowRight(src, dst, proto, b))
		if len(b) >= 2 {
			b[0], b[1] = 0, 0
			s := slowSum(src, dst, proto, b)
			b[0], b[1] = byte(s>>8), byte(s)
			wantRight(t, src, dst, proto, b, true)
		}
	}
}

// P7.3: whatever bytes are sealed, all but the sum stay, and the sum is the one that is told of them.
func TestSealOfMany(t *testing.T) {
	r := rand.New(rand.NewSource(2))
	for i := range 20000 {
		src, dst := api.IP(r.Uint32()), api.IP(r.Uint32())
		proto, at := uint8(TCP), 16
		if i%2 == 0 {
			proto, at = UDP, 6
		}
		b := randomFill(r, 60)
		if len(b) < at+2 {
			wantSeal(t, src, dst, proto, b, nil, api.ErrShort)
			continue
		}
		if i%16 < 2 { // so that the sum comes to 0
			b = with(b, at, 0, 0)
			s := slowSum(src, dst, proto, with(b, 0, 0, 0))
			b[0], b[1] = byte(s>>8), byte(s)
		}
		s := slowSum(src, dst, proto, with(b, at, 0, 0))
		if i%16 < 2 && s != 0 {
			t.Fatalf("%04x of % x", s, b)
		}
		if proto == UDP && s == 0 {
			s = 0xffff
		}
		wantSeal(t, src, dst, proto, b, with(b, at, byte(s>>8), byte(s)), api.OK)
	}
}

// wantChanged asks of sealed bytes each byte's each other value.
func wantChanged(t *testing.T, src, dst api.IP, proto uint8, sealed []byte) {
	t.Helper()
	wantRight(t, src, dst, proto, sealed, true)
	for at := range sealed {
		for v := range 256 {
			b := with(sealed, at, byte(v))
			unsummed := proto == UDP && b[6] == 0 && b[7] == 0
			wantRight(t, src, dst, proto, b, b[at] == sealed[at] || unsummed)
		}
	}
}

// P7.6: what is sealed is right; changed it is not.
func TestSealedAndChanged(t *testing.T) {
	for _, r := range sealRows() {
		wantChanged(t, r.src, r.dst, r.proto, r.want)
	}
	wantChanged(t, 0, 0, UDP, with(make([]byte, 9), 8, 0xe5, 0, 0)) // sealed by nobody: its Sum is 0
	r := rand.New(rand.NewSource(3))
	for range 30 {
		src, dst := api.IP(r.Uint32()), api.IP(r.Uint32())
		b, _ := randomTcp(r).Bytes()
		s, e := Seal(src, dst, TCP, b)
		if e != api.OK {
			t.Fatal(e)
		}
		wantChanged(t, src, dst, TCP, s)
		b, _ = randomUdp(r).Bytes()
		s, e = Seal(src, dst, UDP, b)
		if e != api.OK {
			t.Fatal(e)
		}
		wantChanged(t, src, dst, UDP, s)
	}
}

// P7.6: a sum of UDP of which one byte is changed so that both are 0 is as none.
func TestChangedToNone(t *testing.T) {
	for low := range 2 {
		for v := 1; v < 256; v++ {
			b := []byte{0, 1, 0, 2, 0, 10, 0, 0, 0, 0}
			b[6+low] = byte(v)
			s := slowSum(here, there, UDP, b)
			b[8], b[9] = byte(s>>8), byte(s)
			sealed, e := Seal(here, there, UDP, b)
			if e != api.OK {
				t.Fatal(e)
			}
			wantBytes(t, "sealed", sealed, b)
			wantRight(t, here, there, UDP, with(sealed, 6+low, 0), true)
			wantRight(t, here, there, UDP, with(sealed, 7-low, 1), false)
		}
	}
}

// P7.5: heads of TCP, there and back.
func TestTcpAndBack(t *testing.T) {
	r := rand.New(rand.NewSource(4))
	for range 5000 {
		h := randomTcp(r)
		b, e := h.Bytes()
		if e != api.OK || len(b) != 20+len(h.Options)+len(h.Body) {
			t.Fatalf("Bytes of %+v: %d bytes, %d", h, len(b), e)
		}
		wantTcp(t, b, h, api.OK)
		want, wantErr := slowTcp(b)
		wantTcp(t, b, want, wantErr)
	}
}

// P7.5: and of UDP, whatever stands behind.
func TestUdpAndBack(t *testing.T) {
	r := rand.New(rand.NewSource(5))
	for range 5000 {
		h := randomUdp(r)
		b, e := h.Bytes()
		if e != api.OK || len(b) != int(h.Length) {
			t.Fatalf("Bytes of %+v: %d bytes, %d", h, len(b), e)
		}
		wantUdp(t, b, h, api.OK)
		wantUdp(t, slices.Concat(b, randomFill(r, 40)), h, api.OK)
	}
}

// P7.5: back and there, of bytes that are near to what may be.
func TestBackAndThere(t *testing.T) {
	r := rand.New(rand.NewSource(6))
	tcps, udps := 0, 0
	for range 20000 {
		b := randomFill(r, 90)
		h, e := GetTcp(b)
		if want, wantErr := slowTcp(b); e != wantErr || !sameTcp(h, want) {
			t.Errorf("GetTcp of % x: %+v, %d; want %+v, %d", b, h, e, want, wantErr)
		}
		if e == api.OK {
			tcps++
			wantLaid(t, "what is got", h.Bytes, b, api.OK)
		}
		if len(b) > 5 {
			b[4], b[5] = 0, byte(r.Intn(100))
		}
		u, e := GetUdp(b)
		if want, wantErr := slowUdp(b); e != wantErr || !sameUdp(u, want) {
			t.Errorf("GetUdp of % x: %+v, %d; want %+v, %d", b, u, e, want, wantErr)
		}
		if e == api.OK {
			udps++
			wantLaid(t, "what is got", u.Bytes, b[:u.Length], api.OK)
		}
	}
	if tcps < 1000 || udps < 1000 {
		t.Errorf("too few were got: %d, %d", tcps, udps)
	}
}

// P7.4: all flags, and their texts read again.
func TestText(t *testing.T) {
	rows := []struct {
		flags uint8
		want  string
	}{
		{0, "-"}, {Fin, "fin"}, {Syn, "syn"}, {Rst, "rst"}, {Psh, "psh"}, {Ack, "ack"}, {Urg, "urg"}, {Ece, "ece"}, {Cwr, "cwr"},
		{Syn | Ack, "syn,ack"}, {Fin | Cwr, "fin,cwr"}, {Ece | Urg | Rst, "rst,urg,ece"},
		{255, "fin,syn,rst,psh,ack,urg,ece,cwr"},
	}
	for _, r := range rows {
		if s := Text(r.flags); s != r.want {
			t.Errorf("Text of %d: %q, want %q", r.flags, s, r.want)
		}
	}
	for flags := range 256 {
		s := Text(uint8(flags))
		if s != slowText(uint8(flags)) {
			t.Errorf("Text of %d: %q, want %q", flags, s, slowText(uint8(flags)))
		}
		wantParse(t, s, uint8(flags), api.OK)
	}
}

// P7.4: flags in any order, and one told twice among them.
func TestParseAnyOrder(t *testing.T) {
	r := rand.New(rand.NewSource(7))
	for flags := 1; flags < 256; flags++ {
		parts := strings.Split(slowText(uint8(flags)), ",")
		for range 20 {
			r.Shuffle(len(parts), func(i, j int) { parts[i], parts[j] = parts[j], parts[i] })
			wantParse(t, strings.Join(parts, ","), uint8(flags), api.OK)
			twice := slices.Insert(slices.Clone(parts), r.Intn(len(parts)+1), parts[r.Intn(len(parts))])
			wantParse(t, strings.Join(twice, ","), 0, api.ErrThere)
			wrong := slices.Insert(twice, r.Intn(len(twice)+1), "")
			wantParse(t, strings.Join(wrong, ","), 0, api.ErrName)
		}
	}
}

// P7.4: wrong texts; a part that is no name is told ahead of one told twice, wherever they stand.
func TestParseErrors(t *testing.T) {
	for _, s := range []string{
		"", ",", ",,", "-,", ",-", "-,-", "--", "- ", " -", "-,syn", "syn,-", "syn,", ",syn", "syn,,ack",
		"SYN", "Syn", "syN", "syn ", " syn", "syn, ack", "syn ,ack", "syn ack", "syn;ack", "syn|ack", "syn+ack", "syn.ack", "synack",
		"sy", "syns", "s", "y", "n", "none", "all", "any", "0", "2", "18", "fin,syn,rst,psh,ack,urg,ece,cwr,ns",
		"syn\x00", "\x00", "syn\n", "\nsyn", "syn,ack\n", "\xff", "sÿn", "ſyn", "syn\u200b", "syn\uff0cack", "syn\t",
		"syn,syn,", "syn,syn,foo", "foo,syn,syn", "syn,foo,syn", ",syn,syn", "syn,syn,-", "-,syn,syn", "syn,syn,SYN", "syn,SYN",
		"fin,fin,fin,", "!syn", "syn/ack", "syn/syn,ack", strings.Repeat("syn,", 9), strings.Repeat(",", 100000),
	} {
		wantParse(t, s, 0, api.ErrName)
	}
	for _, s := range []string{
		"syn,syn", "fin,fin,fin", "syn,ack,syn", "ack,syn,syn", "syn,syn,ack", "cwr,cwr", "fin,cwr,fin",
		"fin,syn,rst,psh,ack,urg,ece,cwr,fin", "syn,syn,syn,syn", strings.Repeat("ack,", 100000) + "ack",
	} {
		wantParse(t, s, 0, api.ErrThere)
	}
	for _, name := range strings.Split(slowText(255), ",") {
		wantParse(t, name+","+name, 0, api.ErrThere)
		wantParse(t, name[:2], 0, api.ErrName)
		wantParse(t, name+name[2:], 0, api.ErrName)
		wantParse(t, strings.ToUpper(name), 0, api.ErrName)
		for at := range name {
			wantParse(t, name[:at]+"x"+name[at+1:], 0, api.ErrName)
		}
	}
}

// R3: what is told is new memory; no two lists of one answer share any.
func TestTcpSharesNothing(t *testing.T) {
	h := Tcp{Options: fill(4), Body: fill(6)}
	b, _ := h.Bytes()
	want := slices.Clone(b)
	h.Options[0], h.Body[0] = 99, 99
	wantBytes(t, "what is laid, behind a change", b, want)
	g, _ := GetTcp(b)
	g.Options[1], g.Body[1] = 77, 77
	_, _ = append(g.Options, 66, 66), append(g.Body, 66, 66)
	wantBytes(t, "what was read, behind a change", b, want)
	wantBytes(t, "the body, behind a change of the options", g.Body, []byte{1, 77, 3, 4, 5, 6})
	g, _ = GetTcp(b)
	clear(b)
	wantBytes(t, "options, behind a change", g.Options, fill(4))
	wantBytes(t, "a body, behind a change", g.Body, fill(6))
	wide := append(make([]byte, 0, 50), 1, 2, 3, 4)
	b, _ = Tcp{Options: wide, Body: wide}.Bytes()
	_ = append(wide, 9)
	_ = append(b, 9)
	wantBytes(t, "options and a body with room", b[20:], []byte{1, 2, 3, 4, 1, 2, 3, 4})
	b, _ = Tcp{Body: wide}.Bytes()
	b[20] = 55
	wantBytes(t, "the body that was handed in", wide, []byte{1, 2, 3, 4})
}

// R3: likewise of UDP, and of what is sealed.
func TestUdpSharesNothing(t *testing.T) {
	h := Udp{Length: 12, Body: fill(4)}
	b, _ := h.Bytes()
	want := slices.Clone(b)
	h.Body[0] = 99
	wantBytes(t, "what is laid, behind a change", b, want)
	long := slices.Concat(b, fill(4))
	g, _ := GetUdp(long)
	g.Body[1] = 77
	_ = append(g.Body, 66, 66)
	wantBytes(t, "what was read, behind a change", long, slices.Concat(want, fill(4)))
	g, _ = GetUdp(b)
	clear(b)
	wantBytes(t, "a body, behind a change", g.Body, fill(4))
	b = slices.Clone(want)
	s, _ := Seal(here, there, UDP, b)
	sealed := slices.Clone(s)
	clear(b)
	wantBytes(t, "what is sealed, behind a change", s, sealed)
	again, _ := Seal(here, there, UDP, s)
	clear(again)
	wantBytes(t, "what was sealed, behind a change", s, sealed)
}

// The rows of the chapter's section 'Examples'.
func TestExamples(t *testing.T) {
	if s := Text(18); s != "syn,ack" {
		t.Error(s)
	}
	if s := Text(0); s != "-" {
		t.Error(s)
	}
	wantParse(t, "ack,syn", 18, api.OK)
	b := make([]byte, 20)
	b[12] = 0x50
	wantTcp(t, b, Tcp{}, api.OK)
	b[12] = 0x40
	wantTcp(t, b, Tcp{}, api.ErrForm)
	b[12] = 0x60
	wantTcp(t, b, Tcp{}, api.ErrShort)
}
