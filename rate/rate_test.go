package rate

import (
	"math"
	"math/big"
	"math/rand"
	"strings"
	"testing"

	"toll/api"
)

var (
	inf = math.Inf(1)
	nan = math.NaN()
	neg = math.Copysign(0, -1)
)

// ordered is rows of values that are alike, in the order of all values.
func ordered() [][]float64 {
	return [][]float64{
		{-inf}, {-math.MaxFloat64}, {-1}, {-math.SmallestNonzeroFloat64}, {0, neg}, {math.SmallestNonzeroFloat64}, {0.1},
		{math.Nextafter(1, 0)}, {1}, {math.Nextafter(1, 2)}, {1e21}, {math.MaxFloat64}, {inf},
		{nan, -nan, math.Float64frombits(0x7ff0000000000001), math.Float64frombits(0xfff8000000000123)},
	}
}

func values() []float64 {
	var l []float64
	for _, row := range ordered() {
		l = append(l, row...)
	}
	return l
}

// isRate tells whether x may be a rate: from 0 to +Inf, no NaN, no -0.
func isRate(x float64) bool { return x >= 0 && !math.Signbit(x) }

// wantBits holds the bits against each other, as == does not tell -0 from 0.
func wantBits(t *testing.T, what string, got, want float64) {
	t.Helper()
	if math.Float64bits(got) != math.Float64bits(want) {
		t.Errorf("%s: got %v, want %v", what, got, want)
	}
}

func wantBucket(t *testing.T, what string, got, want Bucket) {
	t.Helper()
	wantBits(t, what+": Rate", got.Rate, want.Rate)
	wantBits(t, what+": Burst", got.Burst, want.Burst)
	wantBits(t, what+": Level", got.Level, want.Level)
	if got.At != want.At {
		t.Errorf("%s: At: got %v, want %v", what, got.At, want.At)
	}
}

func wantParse(t *testing.T, s string, want float64, e api.Errno) {
	t.Helper()
	got, err := Parse(s)
	if err != e {
		t.Errorf("Parse %.50q: got error %v, want %v", s, err, e)
	}
	wantBits(t, "Parse "+s[:min(len(s), 50)], got, want)
}

func wantWait(t *testing.T, b Bucket, n float64, want int64, is bool) {
	t.Helper()
	was := b
	got, ok := b.Wait(n)
	if got != want || ok != is {
		t.Errorf("%v Wait %v: got %v %v, want %v %v", b, n, got, ok, want, is)
	}
	wantBucket(t, "Wait", b, was)
}

// P11.1: the order of all values.
func TestLessSame(t *testing.T) {
	rows := ordered()
	for i, as := range rows {
		for j, bs := range rows {
			for _, a := range as {
				for _, b := range bs {
					if Less(a, b) != (i < j) {
						t.Errorf("Less(%v, %v): got %v", a, b, Less(a, b))
					}
					if Same(a, b) != (i == j) {
						t.Errorf("Same(%v, %v): got %v", a, b, Same(a, b))
					}
				}
			}
		}
	}
}

// P11.1: Clean and Text.
func TestCleanText(t *testing.T) {
	for _, x := range []float64{nan, -nan, -inf, -1, -math.SmallestNonzeroFloat64, neg, 0} {
		wantBits(t, "Clean", Clean(x), 0)
		if Text(x) != "0" {
			t.Errorf("Text(%v): got %q", x, Text(x))
		}
	}
	for x, text := range map[float64]string{
		inf: "inf", 1: "1", 0.1: "0.1", 2.5: "2.5", 100: "100", 1e21: "1" + strings.Repeat("0", 21),
		1e-7: "0.0000001", 1.0 / 3: "0.3333333333333333", 123456789.125: "123456789.125", math.Nextafter(1, 2): "1.0000000000000002",
		math.SmallestNonzeroFloat64: "0." + strings.Repeat("0", 323) + "5",
		math.MaxFloat64:             "17976931348623157" + strings.Repeat("0", 292),
	} {
		wantBits(t, "Clean", Clean(x), x)
		if Text(x) != text {
			t.Errorf("Text(%v): got %q, want %q", x, Text(x), text)
		}
	}
}

// P11.2: what is no rate's text.
func TestParseForm(t *testing.T) {
	many := strings.Repeat("0", 400)
	for _, s := range []string{
		"", ".", "1.", ".5", "1.2.3", "1..2", "+1", "-1", "-0", "1e3", "1E3", "0x10", "0x1p4", "1_000", " 1", "1 ", "1. 5", "1,5",
		"Inf", "INF", "+inf", "-inf", "inf ", "infinity", "nan", "NaN", "1a", "a1", "1.a", "1/", "1:", "\u0661", "1\x00", "\xff",
		many + "1", "1" + many + ".0", "0." + many + "1", strings.Repeat("9", 401), many + "." + many + "0",
	} {
		wantParse(t, s, 0, api.ErrForm)
	}
}

// P11.2: the edges, in value and in length.
func TestParse(t *testing.T) {
	nines := strings.Repeat("9", 400)
	half := new(big.Int).Sub(new(big.Int).Lsh(big.NewInt(1), 1024), new(big.Int).Lsh(big.NewInt(1), 970))
	below := new(big.Int).Sub(half, big.NewInt(1)).String()
	for s, want := range map[string]float64{
		"inf": inf, "0": 0, "0.0": 0, "00": 0, "1": 1, "007.50": 7.5, "0.25": 0.25, "0.1": 0.1, "12": 12, "1000000000000000000000": 1e21,
		strings.Repeat("0", 399) + "7":        7,
		"3." + strings.Repeat("0", 400):       3,
		"0." + strings.Repeat("0", 399) + "1": 0,
		"0." + nines:                          1,
		// halves go to the value whose last bit is 0
		"9007199254740993": 9007199254740992, "9007199254740995": 9007199254740996,
		"9007199254740993.0": 9007199254740992, "9007199254740993." + strings.Repeat("0", 399) + "1": 9007199254740994,
		"9007199254740992." + nines: 9007199254740992,
		below:                       math.MaxFloat64,
		below + "." + nines:         math.MaxFloat64,
	} {
		wantParse(t, s, want, api.OK)
	}
	for _, s := range []string{half.String(), half.String() + ".0", "2" + strings.Repeat("0", 308), nines, nines + "." + nines, "1" + strings.Repeat("0", 399)} {
		wantParse(t, s, 0, api.ErrRange)
	}
}

// P11.2: whatever digits, the nearest value, as exact fractions tell it.
func TestParseNearest(t *testing.T) {
	r := rand.New(rand.NewSource(11))
	for range 4000 {
		s := digits(r, 1+r.Intn(1+r.Intn(400)))
		if r.Intn(3) > 0 {
			s += "." + strings.Repeat("0", r.Intn(40)) + digits(r, 1+r.Intn(1+r.Intn(360)))
		}
		exact, _ := new(big.Rat).SetString(s)
		if x, _ := exact.Float64(); math.IsInf(x, 1) {
			wantParse(t, s, 0, api.ErrRange)
		} else {
			wantParse(t, s, x, api.OK)
		}
	}
}

func digits(r *rand.Rand, n int) string {
	b := make([]byte, n)
	for i := range b {
		b[i] = '0' + byte(r.Intn(10))
	}
	return string(b)
}

// P11.3: New.
func TestNew(t *testing.T) {
	wantBucket(t, "New", New(2, 5, 10), Bucket{2, 5, 5, 10})
	wantBucket(t, "New", New(inf, inf, api.MaxTicks), Bucket{inf, inf, inf, api.MaxTicks})
	wantBucket(t, "New", New(0, 0, 0), Bucket{})
	for _, x := range []float64{nan, -1, -inf, neg} {
		wantBucket(t, "New", New(x, x, 3), Bucket{0, 0, 0, 3})
		wantBucket(t, "New", New(x, 4, 3), Bucket{0, 4, 4, 3})
		wantBucket(t, "New", New(4, x, 3), Bucket{4, 0, 0, 3})
	}
	wantBucket(t, "New at no time", New(1, 1, -7), Bucket{1, 1, 1, -7})
}

// P11.3: Take and Has, tick by tick.
func TestTakeHas(t *testing.T) {
	b := New(2, 5, 10)
	for i, step := range []struct {
		now  int64
		n    float64
		is   bool
		left Bucket
	}{
		{10, 5, true, Bucket{2, 5, 0, 10}},
		{10, 0.5, false, Bucket{2, 5, 0, 10}},
		{10, 0, true, Bucket{2, 5, 0, 10}},
		{10, nan, true, Bucket{2, 5, 0, 10}},
		{10, -3, true, Bucket{2, 5, 0, 10}},
		{11, 2.5, false, Bucket{2, 5, 2, 11}}, // brought to now, though nothing is taken
		{11, 2, true, Bucket{2, 5, 0, 11}},
		{13, 1, true, Bucket{2, 5, 3, 13}},
		{12, 1, true, Bucket{2, 5, 2, 13}}, // an earlier tick changes nothing
		{-1, 3, false, Bucket{2, 5, 2, 13}},
		{14, 3.5, true, Bucket{2, 5, 0.5, 14}},
		{100, inf, false, Bucket{2, 5, 5, 100}}, // full, and not more
		{101, 6, false, Bucket{2, 5, 5, 101}},
		{101, 5, true, Bucket{2, 5, 0, 101}},
	} {
		if is := b.Take(step.now, step.n); is != step.is {
			t.Errorf("step %d: got %v", i, is)
		}
		wantBucket(t, "Take", b, step.left)
	}
	wantBits(t, "Has at once", b.Has(101), 0)
	wantBits(t, "Has earlier", b.Has(0), 0)
	wantBits(t, "Has later", b.Has(103), 4)
	wantBucket(t, "Has", b, Bucket{2, 5, 4, 103})
}

// P11.3: +Inf is taken of +Inf, and stays; a Rate of +Inf fills at the next tick.
func TestInfinite(t *testing.T) {
	b := New(0, inf, 0)
	for _, n := range []float64{1, math.MaxFloat64, inf, inf} {
		if !b.Take(0, n) {
			t.Error("an endless bucket gives", n)
		}
		wantBucket(t, "endless", b, Bucket{0, inf, inf, 0})
	}
	b = New(inf, 3, 0)
	if !b.Take(0, 3) || b.Take(0, 1) || !b.Take(1, 3) || b.Take(1, 1) {
		t.Error("a Rate of +Inf", b)
	}
	b = Bucket{Rate: math.MaxFloat64, Burst: inf, Level: math.MaxFloat64}
	wantBits(t, "a sum beyond all numbers", b.Has(1), inf)
	b = Bucket{Rate: math.MaxFloat64, Burst: 7}
	wantBits(t, "a product beyond all numbers", b.Has(2), 7)
}

// P11.3: buckets made by hand are cleaned, whatever is called, at whatever tick.
func TestCleaned(t *testing.T) {
	bad := []float64{nan, -1, -inf, neg}
	for _, x := range bad {
		b := Bucket{x, x, x, 5}
		wantBits(t, "Has", b.Has(9), 0)
		wantBucket(t, "cleaned", b, Bucket{0, 0, 0, 9})
		b = Bucket{1, 9, x, 5}
		wantBits(t, "Has", b.Has(5), 0)
		wantBucket(t, "cleaned", b, Bucket{1, 9, 0, 5})
		b = Bucket{x, 9, 4, 5}
		wantBits(t, "Has", b.Has(100), 4)
		wantBucket(t, "cleaned", b, Bucket{0, 9, 4, 100})
		b = Bucket{1, x, 4, 5}
		if b.Take(1, 1) {
			t.Error("Take of nothing")
		}
		wantBucket(t, "cleaned though earlier", b, Bucket{1, 0, 0, 5})
	}
	b := Bucket{1, 3, 8, 5}
	if b.Take(5, 4) || !b.Take(5, 3) {
		t.Error("a Level is not above Burst")
	}
	b = Bucket{1, 3, inf, 5}
	wantBits(t, "Has", b.Has(5), 3)
}

// P11.3: ticks far apart, even those that are no times.
func TestFarApart(t *testing.T) {
	b := Bucket{1, inf, 0, math.MinInt64}
	wantBits(t, "all ticks", b.Has(math.MaxInt64), 0x1p64)
	b = Bucket{1, inf, 0, math.MinInt64}
	wantBits(t, "more than half of them", b.Has(1<<62), 0x1p63+0x1p62)
	b = Bucket{1, inf, 0, 0}
	wantBits(t, "all times", b.Has(api.MaxTicks), api.MaxTicks)
	b = Bucket{1, inf, 0, -2}
	wantBits(t, "across 0", b.Has(3), 5)
}

// P11.3: the product is rounded, and then the sum: at once would tell another number.
func TestRounding(t *testing.T) {
	found := 0
	r := rand.New(rand.NewSource(113))
	for range 2000 {
		b := Bucket{r.Float64(), inf, r.Float64(), 0}
		dt := 1 + r.Int63n(1000)
		exact := new(big.Float).SetPrec(53).SetFloat64(b.Rate)
		exact.Mul(exact, new(big.Float).SetInt64(dt))
		exact.Add(exact, new(big.Float).SetFloat64(b.Level))
		want, _ := exact.Float64()
		if math.FMA(b.Rate, float64(dt), b.Level) != want {
			found++
		}
		wantBits(t, "Has", b.Has(dt), want)
	}
	if found == 0 {
		t.Error("no product hangs on its rounding")
	}
}

// P11.3, P11.4: a bucket that is none.
func TestNone(t *testing.T) {
	var b *Bucket
	if b.Take(1, 0) || b.Has(1) != 0 {
		t.Error("none has nothing")
	}
	if n, is := b.Wait(0); n != 0 || is {
		t.Error("none waits for nothing")
	}
}

// P11.4: the edges.
func TestWait(t *testing.T) {
	wantWait(t, Bucket{0.5, 2, 0, 0}, 2, 4, true)
	wantWait(t, Bucket{0.5, 2, 0, 0}, 1.5, 3, true)
	wantWait(t, Bucket{0.5, 2, 0, 0}, 0.1, 1, true)
	wantWait(t, Bucket{0.5, 2, 0, 0}, 2.5, 0, false)
	wantWait(t, Bucket{0.5, 2, 1, 7}, 1, 0, true)
	wantWait(t, Bucket{0.5, 2, 1, 7}, math.Nextafter(1, 2), 1, true)
	wantWait(t, Bucket{0, 2, 1, 7}, 1, 0, true)
	wantWait(t, Bucket{0, 2, 1, 7}, 1.5, 0, false)
	wantWait(t, Bucket{inf, 3, 0, 0}, 3, 1, true)
	wantWait(t, Bucket{inf, 3, 0, 0}, 0, 0, true)
	wantWait(t, Bucket{inf, 3, 0, 0}, 4, 0, false)
	wantWait(t, Bucket{inf, inf, 0, 0}, inf, 1, true)
	wantWait(t, Bucket{0, inf, inf, 0}, inf, 0, true)
	wantWait(t, Bucket{1, inf, 0, 0}, inf, 0, false)
	wantWait(t, Bucket{math.MaxFloat64, inf, 0, 0}, inf, 2, true)
	for _, n := range []float64{nan, -1, neg, -inf} {
		wantWait(t, Bucket{0, 0, 0, 0}, n, 0, true)
	}
	// all ticks there are, and one more
	wantWait(t, Bucket{1, inf, 0, 0}, api.MaxTicks, api.MaxTicks, true)
	wantWait(t, Bucket{1, inf, 0, 0}, api.MaxTicks+0.5, 0, false)
	wantWait(t, Bucket{1, inf, 0, 0}, api.MaxTicks-1, api.MaxTicks-1, true)
	wantWait(t, Bucket{1, inf, 1, 0}, api.MaxTicks+1, api.MaxTicks, true)
	// a bucket like it, clean
	wantWait(t, Bucket{1, 4, -3, 0}, 2, 2, true)
	wantWait(t, Bucket{1, 4, nan, 0}, 2, 2, true)
	wantWait(t, Bucket{1, 4, 9, 0}, 4, 0, true)
	wantWait(t, Bucket{1, 4, 9, 0}, 5, 0, false)
	wantWait(t, Bucket{nan, 4, 1, 0}, 2, 0, false)
	wantWait(t, Bucket{1, nan, 1, 0}, 0.5, 0, false)
	// ticks are counted from At on, wherever that is
	wantWait(t, Bucket{1, 4, 0, math.MaxInt64}, 3, 3, true)
	wantWait(t, Bucket{1, 4, 0, math.MinInt64}, 3, 3, true)
	wantWait(t, Bucket{1, inf, 0, api.MaxTicks}, 50, 50, true)
}

// P11.4: at once is not tick by tick: what is less than rounding adds stays out, but of a product it counts.
func TestWaitAtOnce(t *testing.T) {
	b := Bucket{0.5, inf, 0x1p53, 0}
	wantWait(t, b, 0x1p53+2, 3, true) // 1.5 is rounded up; 0.5 and 1 are not
	for now := range int64(10) {
		b.Has(now)
	}
	wantBits(t, "tick by tick", b.Level, 0x1p53)
}

// P11.4: no fewer ticks are enough, these are, and the bucket at that tick gives it.
func TestWaitLeast(t *testing.T) {
	r := rand.New(rand.NewSource(114))
	some := func() float64 {
		switch r.Intn(8) {
		case 0:
			return inf
		case 1:
			return 0
		}
		return r.Float64() * math.Pow(2, float64(r.Intn(30)-10))
	}
	never := 0
	for range 3000 {
		b := Bucket{some(), some(), some(), r.Int63n(1000)}
		n := some()
		has := func(t int64) bool {
			c := b
			return c.Take(b.At+t, n)
		}
		k, is := b.Wait(n)
		switch {
		case !is:
			never++
			if k != 0 || has(api.MaxTicks) {
				t.Errorf("%v has %v at last, Wait tells %v", b, n, k)
			}
		case !has(k) || k > 0 && (has(k-1) || has(0) || has(r.Int63n(k))):
			t.Errorf("%v Wait %v: got %v", b, n, k)
		}
	}
	if never == 0 || never == 3000 {
		t.Error("nothing waited for", never)
	}
}

// P11.5: an order: just one of three; and from value to value.
func TestOrder(t *testing.T) {
	l := values()
	r := rand.New(rand.NewSource(115))
	for range 20 {
		l = append(l, math.Float64frombits(r.Uint64()), r.NormFloat64())
	}
	for _, a := range l {
		for _, b := range l {
			n := 0
			for _, is := range []bool{Less(a, b), Same(a, b), Less(b, a)} {
				if is {
					n++
				}
			}
			if n != 1 {
				t.Errorf("%v, %v: %d of three", a, b, n)
			}
			for _, c := range l {
				if Less(a, b) && Less(b, c) && !Less(a, c) || Same(a, b) && Same(b, c) && !Same(a, c) || Same(a, b) && Less(b, c) != Less(a, c) {
					t.Errorf("%v, %v, %v: not from value to value", a, b, c)
				}
			}
		}
	}
}

// P11.6: whatever calls come, the Level keeps its bounds.
func TestBounds(t *testing.T) {
	r := rand.New(rand.NewSource(116))
	l := append(values(), 2, 3.5, 1e300)
	some := func() float64 { return l[r.Intn(len(l))] }
	when := func() int64 {
		return []int64{0, 1, -1, 5, 100, api.MaxTicks, math.MaxInt64, math.MinInt64, r.Int63n(1000)}[r.Intn(9)]
	}
	for range 3000 {
		b := New(some(), some(), when())
		for range 10 {
			switch r.Intn(5) {
			case 0:
				b = Bucket{some(), some(), some(), when()}
				b.Has(when())
			case 1, 2:
				b.Take(when(), some())
			case 3:
				if x := b.Has(when()); !Same(x, b.Level) {
					t.Errorf("Has %v of %v", x, b)
				}
			case 4:
				was := b
				if n, is := b.Wait(some()); n < 0 || n > api.MaxTicks || !is && n != 0 {
					t.Errorf("%v waits %v %v", b, n, is)
				}
				wantBucket(t, "Wait", b, was)
			}
			if !isRate(b.Rate) || !isRate(b.Burst) || !isRate(b.Level) || b.Level > b.Burst {
				t.Fatalf("out of bounds: %v", b)
			}
		}
	}
}

// P11.6: no more is taken than what it had and what the ticks gave.
func TestTakenAtMost(t *testing.T) {
	r := rand.New(rand.NewSource(1160))
	for range 300 {
		rate, burst := r.Float64()*3, r.Float64()*20
		b := New(rate, burst, 0)
		now, taken := int64(0), 0.0
		for range 100 {
			now += r.Int63n(4)
			if n := r.Float64() * 5; b.Take(now, n) {
				taken += n
			}
			if most := burst + rate*float64(now); taken > most*(1+1e-12) {
				t.Fatalf("%v taken of %v", taken, most)
			}
		}
	}
}

// P11.7: Parse of Text is Clean of the value.
func TestThereAndBack(t *testing.T) {
	l := values()
	r := rand.New(rand.NewSource(117))
	for range 5000 {
		l = append(l, math.Float64frombits(r.Uint64()), math.Float64frombits(r.Uint64()>>12), r.ExpFloat64())
	}
	for _, x := range l {
		wantParse(t, Text(x), Clean(x), api.OK)
	}
}

// The chapter's rows of examples.
func TestExamples(t *testing.T) {
	if !Less(inf, nan) || !Same(neg, 0) || Less(nan, nan) {
		t.Error("the order")
	}
	if Text(0.1) != "0.1" || Text(nan) != "0" || Text(1e21) != "1000000000000000000000" {
		t.Error("texts")
	}
	b := New(0.5, 2, 0)
	if !b.Take(0, 2) || b.Take(1, 1) || !b.Take(2, 1) {
		t.Error("half a tick")
	}
	wantWait(t, b, 2, 4, true)
	c := New(inf, 3, 0)
	if !c.Take(0, 3) || c.Take(0, 1) || !c.Take(1, 3) {
		t.Error("endless")
	}
}
