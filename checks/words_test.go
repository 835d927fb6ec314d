package checks_test

import (
	"fmt"
	"math/rand/v2"
	"reflect"
	"slices"
	"testing"

	"foliot/api"
	"foliot/checks"
	"foliot/code"
	"foliot/network"
	"foliot/typed"
)

// told is what Check returns.
type told struct {
	at int
	e  api.Errno
}

// broken returns all rules that a model breaks, in order, by the chapter's words.
func broken(m api.Model) []told {
	if e := network.Form(m); e != api.OK {
		return []told{{0, e}}
	}
	var l []told
	at := -1
	rule := func(holds bool, e api.Errno) {
		if !holds {
			l = append(l, told{at, e})
		}
	}
	var names, vars []string
	declare := func(name string) { rule(!slices.Contains(names, name), api.ErrName); names = append(names, name) }
	for _, x := range m.Clocks {
		declare(x)
	}
	for _, v := range m.Vars {
		declare(v.Name)
		vars = append(vars, v.Name)
	}
	for _, c := range m.Chans {
		declare(c.Name)
	}
	for _, f := range m.Funcs {
		declare(f.Name)
	}
	for _, p := range m.Procs {
		declare(p.Name)
	}
	for _, v := range m.Vars {
		rule(v.Low <= v.Init && v.Init <= v.High, api.ErrRule)
	}
	_, e := typed.Funcs(m.Funcs, vars)
	rule(e == api.OK, e)
	rule(len(m.Procs) != 0, api.ErrRule)
	for k, p := range m.Procs {
		at = k
		brokenInProcess(m, vars, p, rule)
	}
	return l
}

func brokenInProcess(m api.Model, vars []string, p api.Proc, rule func(holds bool, e api.Errno)) {
	rule(len(p.Locs) != 0, api.ErrRule)
	var locs []string
	for _, x := range p.Locs {
		rule(!slices.Contains(locs, x.Name), api.ErrName)
		locs = append(locs, x.Name)
	}
	rule(slices.Contains(locs, p.Init), api.ErrName)
	between := func(n, low, high int64) { rule(low <= n && n <= high, api.ErrRule) }
	exp := func(x api.Exp) { e := typed.Exp(x, vars, m.Funcs); rule(e == api.OK, e) }
	for _, x := range p.Locs {
		for _, c := range x.Inv {
			rule(slices.Contains(m.Clocks, c.Clock), api.ErrName)
			rule(!c.Lower, api.ErrRule)
			between(c.C, 0, 1<<20)
			rule(!c.Strict || c.C != 0, api.ErrRule)
		}
		between(x.Rate, 0, 1000)
	}
	for _, x := range p.Edges {
		rule(slices.Contains(locs, x.From), api.ErrName)
		rule(slices.Contains(locs, x.To), api.ErrName)
		for _, c := range x.Tests {
			rule(slices.Contains(m.Clocks, c.Clock), api.ErrName)
			between(c.C, 0, 1<<20)
		}
		if x.Cond.Kind != 0 {
			exp(x.Cond)
		}
		channel := slices.IndexFunc(m.Chans, func(c api.Chan) bool { return c.Name == x.Chan })
		rule(x.Chan == "" || channel >= 0, api.ErrName)
		for _, a := range x.Sets {
			rule(slices.Contains(vars, a.Name), api.ErrName)
			exp(a.Val)
		}
		for _, c := range x.Clears {
			rule(slices.Contains(m.Clocks, c.Clock), api.ErrName)
			between(c.To, 0, 1<<20)
		}
		between(x.Cost, 0, 1000)
		rule(x.Kind == 0 || x.Kind == 1, api.ErrRule)
		if channel >= 0 && len(x.Tests) > 0 {
			rule(!m.Chans[channel].Urgent, api.ErrRule)
			rule(x.Send || !m.Chans[channel].Broadcast, api.ErrRule)
		}
	}
}

// validity is what Valid has to return, by the chapter's words.
func validity(n api.Net) api.Errno {
	good := n.Clocks >= 0 && n.Clocks <= 8 && len(n.Vars) <= 16 && len(n.Chans) <= 16 && len(n.Procs) >= 1 && len(n.Procs) <= 6
	rule := func(holds bool) { good = good && holds }
	var names, vars []string
	declare := func(name string) {
		rule(code.Name(name) && !slices.Contains(names, name))
		names = append(names, name)
	}
	between := func(n, low, high int64) { rule(low <= n && n <= high) }
	number := func(n, count int) { rule(n >= 0 && n < count) }
	for _, v := range n.Vars {
		declare(v.Name)
		vars = append(vars, v.Name)
		rule(v.Low >= -1<<31 && v.Low <= v.Init && v.Init <= v.High && v.High <= 1<<31)
	}
	for _, c := range n.Chans {
		declare(c.Name)
	}
	for _, f := range n.Funcs {
		declare(f.Name)
	}
	_, e := typed.Funcs(n.Funcs, vars)
	rule(e == api.OK)
	con := func(c api.Con) { number(c.Clock-1, n.Clocks); between(c.C, 0, 1<<20) }
	for _, p := range n.Procs {
		number(p.Init, len(p.Locs))
		rule(len(p.Locs) <= 20 && len(p.Edges) <= 60)
		for _, l := range p.Locs {
			between(int64(l.Kind), 0, 2)
			between(l.Rate, 0, 1000)
			rule(len(l.Inv) <= 16)
			for _, c := range l.Inv {
				con(c)
				rule(!c.Lower && (c.C > 0 || !c.Strict))
			}
		}
		for _, x := range p.Edges {
			number(x.From, len(p.Locs))
			number(x.To, len(p.Locs))
			rule(len(x.Guard) <= 16 && len(x.Sets) <= 16 && len(x.Resets) <= 16)
			for _, c := range x.Guard {
				con(c)
			}
			if x.Cond.Kind != 0 || x.Cond.Name != "" || x.Cond.Int != 0 || len(x.Cond.Args) > 0 {
				rule(typed.Exp(x.Cond, vars, n.Funcs) == api.OK)
			}
			if x.Chan == -1 {
				rule(!x.Send)
			} else if number(x.Chan, len(n.Chans)); good && len(x.Guard) > 0 {
				rule(!n.Chans[x.Chan].Urgent && (x.Send || !n.Chans[x.Chan].Broadcast))
			}
			for _, s := range x.Sets {
				number(s.Var, len(n.Vars))
				rule(typed.Exp(s.Val, vars, n.Funcs) == api.OK)
			}
			for _, r := range x.Resets {
				number(r.Clock-1, n.Clocks)
				between(r.To, 0, 1<<20)
			}
			between(x.Cost, 0, 1000)
			between(int64(x.Kind), 0, 1)
		}
	}
	if !good {
		return api.ErrArg
	}
	return api.OK
}

// maker makes models, of which many are right.
type maker struct{ *rand.Rand }

func newMaker(seed uint64) maker { return maker{rand.New(rand.NewPCG(seed, 12))} }

func (r maker) one(l ...string) string { return l[r.IntN(len(l))] }

// some returns up to most elements that make makes; none if there is nothing to name.
func some[T any](r maker, names []string, most int, make func() T) []T {
	if len(names) == 0 {
		return nil
	}
	var l []T
	for range r.IntN(most + 1) {
		l = append(l, make())
	}
	return l
}

func (r maker) model() api.Model {
	m := api.Model{Name: "m", Clocks: []string{"x", "y", "z"}[:r.IntN(4)]}
	var vars, chans []string
	for _, name := range []string{"v", "w"}[:r.IntN(3)] {
		vars = append(vars, name)
		m.Vars = append(m.Vars, api.Var{Name: name, Low: -1, High: int64(r.IntN(3)), Init: int64(r.IntN(2) - 1)})
	}
	for _, name := range []string{"a", "b", "c"}[:r.IntN(4)] {
		chans = append(chans, name)
		m.Chans = append(m.Chans, api.Chan{Name: name, Broadcast: r.IntN(3) == 0, Urgent: r.IntN(5) == 0})
	}
	m.Funcs = funcsOf(r.one("", "func f(p) { return p; }", "func f(p) { return p; } func g() { return f(1); }"))
	for _, name := range []string{"P", "Q", "R"}[:1+r.IntN(3)] {
		m.Procs = append(m.Procs, r.proc(name, m.Clocks, vars, chans, len(m.Funcs) > 0))
	}
	return m
}

func (r maker) proc(name string, clocks, vars, chans []string, calls bool) api.Proc {
	locs := []string{"L", "M", "N"}[:1+r.IntN(3)]
	exp := func() api.Exp {
		switch {
		case calls && r.IntN(2) == 0:
			return expOf("f(1)")
		case len(vars) > 0:
			return expOf(r.one(vars...) + r.one("", " + 1", " > 0"))
		}
		return expOf(r.one("0", "1"))
	}
	p := api.Proc{Name: name, Init: r.one(locs...)}
	for _, l := range locs {
		p.Locs = append(p.Locs, api.Loc{Name: l, Kind: r.IntN(3), Rate: int64(r.IntN(3)), Inv: some(r, clocks, 2, func() api.Test {
			return api.Test{Clock: r.one(clocks...), Strict: r.IntN(2) == 0, C: int64(1 + r.IntN(9))}
		})})
	}
	for range r.IntN(4) {
		x := api.Edge{From: r.one(locs...), To: r.one(locs...), Cost: int64(r.IntN(3)), Kind: r.IntN(2)}
		x.Tests = some(r, clocks, 1, func() api.Test {
			return api.Test{Clock: r.one(clocks...), Lower: r.IntN(2) == 0, Strict: r.IntN(2) == 0, C: int64(r.IntN(9))}
		})
		if r.IntN(2) == 0 {
			x.Cond = exp()
		}
		if len(chans) > 0 && r.IntN(2) == 0 {
			x.Chan, x.Send = r.one(chans...), r.IntN(2) == 0
		}
		x.Sets = some(r, vars, 2, func() api.Assign { return api.Assign{Name: r.one(vars...), Val: exp()} })
		x.Clears = some(r, clocks, 2, func() api.Clear { return api.Clear{Clock: r.one(clocks...), To: int64(r.IntN(9))} })
		p.Edges = append(p.Edges, x)
	}
	return p
}

// spoil changes a part to something that may be wrong.
func (r maker) spoil(v reflect.Value) {
	numbers := []int64{-1 << 31, -2, -1, 0, 1, 2, 3, 4, 8, 9, 1000, 1001, 1 << 20, 1<<20 + 1, 1 << 31, 1<<31 + 1}
	switch v.Kind() {
	case reflect.String:
		v.SetString(r.one("x", "y", "v", "w", "a", "b", "f", "g", "p", "P", "Q", "L", "M", "q", "", "if", "?"))
	case reflect.Int, reflect.Int64:
		v.SetInt(numbers[r.IntN(len(numbers))])
	case reflect.Bool:
		v.SetBool(!v.Bool())
	case reflect.Slice:
		if n := v.Len(); n > 0 && r.IntN(2) == 0 {
			v.Set(reflect.AppendSlice(reflect.MakeSlice(v.Type(), 0, n), v.Slice(0, n-1)))
		} else if n > 0 {
			v.Set(reflect.AppendSlice(v.Slice3(0, n, n), v.Slice(r.IntN(n), n)))
		}
	}
}

// spoilSome changes up to two parts of what x points to; mostly those that are texts or numbers.
func spoilSome[T any](r maker, x *T) {
	for range r.IntN(3) {
		count := 0
		partsOf(x, func(string, reflect.Value) { count++ })
		changeOne(x, r.IntN(count), r.spoil)
	}
}

// P12.1 to P12.5: random models, many of them with errors.
func TestModelsByTheWords(t *testing.T) {
	r := newMaker(1)
	counts := map[told]int{}
	for range 12000 {
		m := r.model()
		spoilSome(r, &m)
		want := told{}
		if l := broken(m); len(l) > 0 {
			want = l[0]
		}
		counts[want]++
		checkCheck(t, plain(m), m, want.at, want.e)
		if n, e := checks.Compile(m); e == api.OK {
			if v := checks.Valid(n); v != api.OK || validity(n) != api.OK {
				t.Errorf("the net of %s: Valid is %d, and should be %d", plain(m), v, validity(n))
			}
			if got, want := plain(n), plain(netByWords(m)); got != want {
				t.Errorf("the net of %s is %s, want %s", plain(m), got, want)
			}
		}
		if t.Failed() {
			return
		}
	}
	for _, c := range []told{{0, api.OK}, {-1, api.ErrName}, {-1, api.ErrRule}, {-1, api.ErrCount}, {0, api.ErrArg}, {0, api.ErrName}, {0, api.ErrRule}, {0, api.ErrCount}, {1, api.ErrName}, {1, api.ErrRule}, {2, api.ErrName}, {2, api.ErrRule}} {
		if counts[c] < 4 {
			t.Errorf("only %d times %+v", counts[c], c)
		}
	}
}

// netByWords is the net of a model without errors, by the chapter's words.
func netByWords(m api.Model) api.Net {
	clock := func(name string) int { return slices.Index(m.Clocks, name) + 1 }
	n := api.Net{Clocks: len(m.Clocks), Vars: m.Vars, Chans: m.Chans, Funcs: m.Funcs}
	for _, p := range m.Procs {
		loc := func(name string) int { return slices.IndexFunc(p.Locs, func(l api.Loc) bool { return l.Name == name }) }
		made := api.NProc{Init: loc(p.Init)}
		for _, l := range p.Locs {
			x := api.NLoc{Kind: l.Kind, Rate: l.Rate}
			for _, c := range l.Inv {
				x.Inv = append(x.Inv, api.Con{Clock: clock(c.Clock), Lower: c.Lower, Strict: c.Strict, C: c.C})
			}
			made.Locs = append(made.Locs, x)
		}
		for _, l := range p.Edges {
			x := api.NEdge{From: loc(l.From), To: loc(l.To), Cond: l.Cond, Send: l.Send, Cost: l.Cost, Kind: l.Kind}
			x.Chan = slices.IndexFunc(m.Chans, func(c api.Chan) bool { return c.Name == l.Chan })
			for _, c := range l.Tests {
				x.Guard = append(x.Guard, api.Con{Clock: clock(c.Clock), Lower: c.Lower, Strict: c.Strict, C: c.C})
			}
			for _, a := range l.Sets {
				x.Sets = append(x.Sets, api.NSet{Var: slices.IndexFunc(m.Vars, func(v api.Var) bool { return v.Name == a.Name }), Val: a.Val})
			}
			for _, c := range l.Clears {
				x.Resets = append(x.Resets, api.Reset{Clock: clock(c.Clock), To: c.To})
			}
			made.Edges = append(made.Edges, x)
		}
		n.Procs = append(n.Procs, made)
	}
	return n
}

// P12.3, P12.4: random nets, many of them with errors.
func TestNetsByTheWords(t *testing.T) {
	r := newMaker(2)
	counts := map[api.Errno]int{}
	for range 12000 {
		n, e := checks.Compile(r.model())
		if e != api.OK {
			continue
		}
		spoilSome(r, &n)
		want := validity(n)
		counts[want]++
		checkValid(t, plain(n), n, want)
		if want == api.OK {
			checkGreatest(t, n, greatestByWords(n)...)
		}
		if t.Failed() {
			return
		}
	}
	if counts[api.OK] < 1000 || counts[api.ErrArg] < 1000 {
		t.Errorf("valid or not: %v", counts)
	}
}

func greatestByWords(n api.Net) []int64 {
	var l []int64
	for clock := 1; clock <= n.Clocks; clock++ {
		most := int64(-1)
		partsOf(&n, func(_ string, v reflect.Value) {
			switch x := v.Interface().(type) {
			case api.Con:
				if x.Clock == clock {
					most = max(most, x.C)
				}
			case api.Reset:
				if x.Clock == clock {
					most = max(most, x.To)
				}
			}
		})
		l = append(l, most)
	}
	return l
}

// P12.3: each part of a full net, changed to each of some values.
func TestEachPartOfANet(t *testing.T) {
	for k := 0; ; k++ {
		n := fullNet()
		path, ok := changeOne(&n, k, func(reflect.Value) {})
		if !ok {
			break
		}
		r := newMaker(uint64(k))
		for range 15 {
			n := fullNet()
			changeOne(&n, k, r.spoil)
			checkValid(t, fmt.Sprint(path, ": ", short(n)), n, validity(n))
		}
	}
}
