package alarm

import (
	"cmp"
	"math"
	"math/rand"
	"slices"
	"strconv"
	"strings"
	"testing"

	"toll/api"
)

func wantErr(t *testing.T, what string, got, want api.Errno) {
	t.Helper()
	if got != want {
		t.Errorf("%s: got error %v, want %v", what, got, want)
	}
}

func wantAt(t *testing.T, a *Alarms, key string, want int64, is bool) {
	t.Helper()
	if at, ok := a.At(key); at != want || ok != is {
		t.Errorf("At %q: got %v %v, want %v %v", key, at, ok, want, is)
	}
}

func wantNext(t *testing.T, a *Alarms, want Alarm, is bool) {
	t.Helper()
	if next, ok := a.Next(); next != want || ok != is {
		t.Errorf("Next: got %v %v, want %v %v", next, ok, want, is)
	}
}

func wantList(t *testing.T, what string, got []Alarm, want ...Alarm) {
	t.Helper()
	if !slices.Equal(got, want) {
		t.Errorf("%s: got %v, want %v", what, got, want)
	}
}

// wantAlarms asks all that can be told without a change; want is in order.
func wantAlarms(t *testing.T, a *Alarms, want ...Alarm) {
	t.Helper()
	wantList(t, "All", a.All(), want...)
	if a.Len() != len(want) {
		t.Errorf("Len: got %v, want %v", a.Len(), len(want))
	}
	if len(want) == 0 {
		wantNext(t, a, Alarm{}, false)
	} else {
		wantNext(t, a, want[0], true)
	}
	for _, x := range want {
		wantAt(t, a, x.Key, x.At, true)
	}
}

// with makes alarms of what is listed, that may be.
func with(t *testing.T, l ...Alarm) *Alarms {
	t.Helper()
	a := New()
	for _, x := range l {
		wantErr(t, "Set "+x.Key, a.Set(x.Key, x.At), api.OK)
	}
	return a
}

// P12.1: a new key, an old one at another time, at the same one; others stay.
func TestSet(t *testing.T) {
	a := New()
	wantAlarms(t, a)
	wantAt(t, a, "a", 0, false)
	for _, step := range []struct {
		key  string
		at   int64
		want []Alarm
	}{
		{"b", 5, []Alarm{{"b", 5}}},
		{"a", 7, []Alarm{{"b", 5}, {"a", 7}}},
		{"a", 7, []Alarm{{"b", 5}, {"a", 7}}},
		{"a", 3, []Alarm{{"a", 3}, {"b", 5}}},
		{"a", 9, []Alarm{{"b", 5}, {"a", 9}}},
		{"c", 0, []Alarm{{"c", 0}, {"b", 5}, {"a", 9}}},
		{"c", 5, []Alarm{{"b", 5}, {"c", 5}, {"a", 9}}},
		{"a", 5, []Alarm{{"a", 5}, {"b", 5}, {"c", 5}}},
		{"b", api.MaxTicks, []Alarm{{"a", 5}, {"c", 5}, {"b", api.MaxTicks}}},
	} {
		wantErr(t, "Set "+step.key, a.Set(step.key, step.at), api.OK)
		wantAlarms(t, a, step.want...)
	}
	wantAt(t, a, "d", 0, false)
	wantAt(t, a, "", 0, false)
	wantAt(t, a, "a ", 0, false)
}

// P12.1: 1 to 64 bytes, whatever bytes; bytes, not runes, are counted.
func TestKeys(t *testing.T) {
	good := []string{"a", "\x00", "\xff", " ", strings.Repeat("k", MaxKey), strings.Repeat("\u00e9", 32), strings.Repeat("\x00", 64), strings.Repeat("\xff", 64)}
	bad := []string{"", strings.Repeat("k", MaxKey+1), strings.Repeat("\u00e9", 33), strings.Repeat("\u00e9", 64), strings.Repeat("\x00", 65), strings.Repeat("k", 1<<16)}
	for i, key := range good {
		a := with(t, Alarm{key, int64(i)})
		wantAlarms(t, a, Alarm{key, int64(i)})
		wantErr(t, "Drop", a.Drop(key), api.OK)
		wantAlarms(t, a)
	}
	a := with(t, Alarm{"k", 4})
	for _, key := range bad {
		wantErr(t, "Set of no key", a.Set(key, 4), api.ErrArg)
		wantErr(t, "Drop of no key", a.Drop(key), api.ErrNone)
		wantAt(t, a, key, 0, false)
		wantAlarms(t, a, Alarm{"k", 4})
	}
	if MaxKey != 64 {
		t.Error("MaxKey", MaxKey)
	}
}

// P12.1: 0 to MaxTicks; with an error the key keeps its time, or has none.
func TestTimes(t *testing.T) {
	a := with(t, Alarm{"a", 4})
	for _, at := range []int64{-1, math.MinInt64, api.MaxTicks + 1, math.MaxInt64} {
		wantErr(t, "Set at no time", a.Set("a", at), api.ErrArg)
		wantErr(t, "Set at no time", a.Set("b", at), api.ErrArg)
		wantErr(t, "Set of no key at no time", a.Set("", at), api.ErrArg)
		wantAlarms(t, a, Alarm{"a", 4})
	}
	for _, at := range []int64{0, 1, api.MaxTicks - 1, api.MaxTicks} {
		wantErr(t, "Set", a.Set("a", at), api.OK)
		wantAlarms(t, a, Alarm{"a", at})
	}
}

// P12.1: Drop of the first, the last, one between; it is gone, and may be set anew.
func TestDrop(t *testing.T) {
	l := []Alarm{{"a", 1}, {"b", 2}, {"c", 3}, {"d", 4}, {"e", 5}}
	for i, x := range l {
		a := with(t, l...)
		rest := slices.Delete(slices.Clone(l), i, i+1)
		wantErr(t, "Drop", a.Drop(x.Key), api.OK)
		wantAlarms(t, a, rest...)
		wantAt(t, a, x.Key, 0, false)
		wantErr(t, "Drop again", a.Drop(x.Key), api.ErrNone)
		wantErr(t, "Drop of another", a.Drop("f"), api.ErrNone)
		wantAlarms(t, a, rest...)
		wantErr(t, "Set again", a.Set(x.Key, 9), api.OK)
		wantAlarms(t, a, append(rest, Alarm{x.Key, 9})...)
	}
	wantErr(t, "Drop of none", New().Drop("a"), api.ErrNone)
}

// P12.1, P12.2: alarms that New did not make, or none.
func TestNotMade(t *testing.T) {
	for _, a := range []*Alarms{nil, {}, new(Alarms)} {
		wantErr(t, "Set", a.Set("a", 1), api.ErrNil)
		wantErr(t, "Set of no key", a.Set("", 1), api.ErrNil)
		wantErr(t, "Set at no time", a.Set("a", -1), api.ErrNil)
		wantErr(t, "Drop", a.Drop("a"), api.ErrNil)
		wantErr(t, "Drop of no key", a.Drop(""), api.ErrNil)
		wantAt(t, a, "a", 0, false)
		wantList(t, "Due", a.Due(api.MaxTicks))
		wantAlarms(t, a)
		if a.Copy() != nil {
			t.Error("Copy of none")
		}
	}
}

// P12.1: what New makes lives apart from all that it made before.
func TestNew(t *testing.T) {
	a, b := New(), New()
	a.Set("a", 1)
	wantAlarms(t, b)
	b.Set("a", 2)
	wantAlarms(t, a, Alarm{"a", 1})
	wantAlarms(t, b, Alarm{"a", 2})
}

// P12.2: by times; of equal ones by the bytes of keys.
func TestOrder(t *testing.T) {
	l := []Alarm{
		{"z", 0}, {"y", 1},
		{"\x00", 2}, {"\x00\x00", 2}, {"10", 2}, {"9", 2}, {"A", 2}, {"Z", 2}, {"a", 2}, {"a\x00", 2}, {"aa", 2}, {"b", 2},
		{"\u00e9", 2}, {"\uffee", 2}, {"\U0001f600", 2}, {"\xff", 2},
		{"\x01", 3}, {"b2", 1 << 31}, {"a2", 1 << 32}, {"X", api.MaxTicks},
	}
	r := rand.New(rand.NewSource(12))
	for range 50 {
		mixed := slices.Clone(l)
		r.Shuffle(len(mixed), func(i, j int) { mixed[i], mixed[j] = mixed[j], mixed[i] })
		a := with(t, mixed...)
		wantAlarms(t, a, l...)
		for i, x := range l {
			wantNext(t, a, x, true)
			wantErr(t, "Drop", a.Drop(x.Key), api.OK)
			wantList(t, "All", a.All(), l[i+1:]...)
		}
		wantNext(t, a, Alarm{}, false)
	}
}

// P12.2: at most now; what was told is gone, what was not stays.
func TestDue(t *testing.T) {
	l := []Alarm{{"c", 0}, {"a", 3}, {"b", 3}, {"d", 4}, {"e", api.MaxTicks}}
	for now, n := range map[int64]int{
		math.MinInt64: 0, -1: 0, 0: 1, 1: 1, 2: 1, 3: 3, 4: 4, 5: 4,
		api.MaxTicks - 1: 4, api.MaxTicks: 5, api.MaxTicks + 1: 5, math.MaxInt64: 5,
	} {
		a := with(t, l...)
		wantList(t, "Due", a.Due(now), l[:n]...)
		wantAlarms(t, a, l[n:]...)
		wantList(t, "Due again", a.Due(now))
		wantAlarms(t, a, l[n:]...)
		for _, x := range l[:n] {
			wantAt(t, a, x.Key, 0, false)
			wantErr(t, "Drop of what is gone", a.Drop(x.Key), api.ErrNone)
			wantErr(t, "Set of what is gone", a.Set(x.Key, x.At), api.OK)
		}
		wantAlarms(t, a, l...)
	}
	wantList(t, "Due of none", New().Due(api.MaxTicks))
}

// P12.2: a copy lives apart, whichever of both changes, and however.
func TestCopy(t *testing.T) {
	l := []Alarm{{"a", 1}, {"b", 2}, {"c", 3}, {"d", 4}}
	for _, change := range []func(a *Alarms){
		func(a *Alarms) { a.Set("a", 9) },
		func(a *Alarms) { a.Set("d", 0) },
		func(a *Alarms) { a.Set("e", 0) },
		func(a *Alarms) { a.Set("e", 9) },
		func(a *Alarms) { a.Drop("a") },
		func(a *Alarms) { a.Drop("d") },
		func(a *Alarms) { a.Due(2) },
		func(a *Alarms) { a.Due(9); a.Set("b", 7) },
	} {
		a := with(t, l...)
		b := a.Copy()
		wantAlarms(t, b, l...)
		change(b)
		wantAlarms(t, a, l...)
		b = a.Copy()
		change(a)
		wantAlarms(t, b, l...)
		wantList(t, "Due of a copy", b.Due(3), l[:3]...)
	}
	b := New().Copy()
	if b == nil {
		t.Fatal("there are alarms, if not one")
	}
	wantErr(t, "Set in a copy", b.Set("a", 1), api.OK)
	wantAlarms(t, b, Alarm{"a", 1})
}

// P12.2: what is told is new memory.
func TestNewMemory(t *testing.T) {
	l := []Alarm{{"a", 1}, {"b", 2}, {"c", 3}}
	a := with(t, l...)
	spoil := func(told []Alarm) {
		told = told[:cap(told)]
		for i := range told {
			told[i] = Alarm{"spoilt", 99}
		}
	}
	spoil(a.All())
	wantAlarms(t, a, l...)
	due := a.Due(1)
	a.Set("a", 5)
	wantList(t, "Due, after a Set", due, l[0])
	spoil(due)
	wantAlarms(t, a, l[1], l[2], Alarm{"a", 5})
}

// model is alarms told the plain way.
type model map[string]int64

func (m model) all() []Alarm {
	var l []Alarm
	for key, at := range m {
		l = append(l, Alarm{key, at})
	}
	slices.SortFunc(l, func(x, y Alarm) int { return cmp.Or(cmp.Compare(x.At, y.At), strings.Compare(x.Key, y.Key)) })
	return l
}

func (m model) due(now int64) []Alarm {
	var l []Alarm
	for _, x := range m.all() {
		if x.At <= now {
			l = append(l, x)
			delete(m, x.Key)
		}
	}
	return l
}

// P12.1, P12.2, P12.3: whatever is set, moved and dropped, it is as the model tells it, and goes in order.
func TestAsModel(t *testing.T) {
	r := rand.New(rand.NewSource(123))
	for round := range 300 {
		a, m := New(), model{}
		keys := 1 + r.Intn(40)
		times := 1 + r.Int63n(30)
		for range 120 {
			key := strconv.Itoa(r.Intn(keys))
			switch r.Intn(8) {
			case 0, 1, 2, 3:
				at := r.Int63n(times)
				wantErr(t, "Set", a.Set(key, at), api.OK)
				m[key] = at
			case 4, 5:
				want := api.ErrNone
				if _, is := m[key]; is {
					want = api.OK
				}
				wantErr(t, "Drop", a.Drop(key), want)
				delete(m, key)
			case 6:
				if r.Intn(4) == 0 {
					now := r.Int63n(times)
					wantList(t, "Due", a.Due(now), m.due(now)...)
				}
			case 7:
				a = a.Copy()
			}
			wantAlarms(t, a, m.all()...)
			_, is := m[key]
			wantAt(t, a, key, m[key], is)
		}
		wantList(t, "till nothing is left", drain(a, r), m.all()...)
		wantAlarms(t, a)
		if t.Failed() {
			t.Fatal("round", round)
		}
	}
}

// drain asks what is due at rising times, up to those above all of the model's.
func drain(a *Alarms, r *rand.Rand) []Alarm {
	var l []Alarm
	for now := int64(0); now < 40; now += 1 + r.Int63n(5) {
		l = append(l, a.Due(now)...)
	}
	return l
}

// P12.4: first at one time, then at a later one, or at the later one at once.
func TestTwice(t *testing.T) {
	r := rand.New(rand.NewSource(124))
	for range 500 {
		a := New()
		for range r.Intn(40) {
			a.Set(strconv.Itoa(r.Intn(30)), r.Int63n(20))
		}
		b, all := a.Copy(), a.All()
		first := r.Int63n(22) - 1
		later := first + r.Int63n(8)
		once := b.Due(later)
		wantList(t, "Due twice", append(a.Due(first), a.Due(later)...), once...)
		wantAlarms(t, a, all[len(once):]...)
		wantAlarms(t, b, all[len(once):]...)
		if n := len(once); n > 0 && once[n-1].At > later || n < len(all) && all[n].At <= later {
			t.Errorf("Due at %v: got %v of %v", later, once, all)
		}
	}
}

// The chapter's rows of examples.
func TestExamples(t *testing.T) {
	a := with(t, Alarm{"b", 5}, Alarm{"a", 5}, Alarm{"c", 3})
	wantList(t, "Due", a.Due(5), Alarm{"c", 3}, Alarm{"a", 5}, Alarm{"b", 5})
	a = with(t, Alarm{"a", 5}, Alarm{"a", 9})
	wantList(t, "Due", a.Due(6))
	wantNext(t, a, Alarm{"a", 9}, true)
}
