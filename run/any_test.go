package run_test

import (
	"math"
	"slices"
	"testing"

	"bobbin/api"
	"bobbin/run"
)

// programs are many that were made: of instructions that jump wherever they like, and of texts.
func programs(t *testing.T, seed uint64, count int) []api.Prog {
	t.Helper()
	m := &maker{seed: seed}
	var out []api.Prog
	for range count {
		out = append(out, m.program(t), made(t, m.text(1+m.next(4))))
	}
	return out
}

// list makes picks, or a row: numbers of threads most of all, seldom others.
func (m *maker) list(most int) []int {
	var out []int
	for range m.next(most + 1) {
		out = append(out, pick(m, m.next(4), m.next(4), m.next(6), m.next(6), m.next(16), int(m.bits()), pick(m, far()...)))
	}
	return out
}

// some asks that runs of each kind were met often enough.
func some(t *testing.T, met map[uint8]int) {
	t.Helper()
	for _, ending := range []uint8{api.Running, api.Done, api.Trapped, api.Stuck} {
		if met[ending] < 30 {
			t.Errorf("only %d runs end by %d", met[ending], ending)
		}
	}
}

// P10.1: what comes of whatever runs is what comes of their steps, done one by one.
func TestAnyRun(t *testing.T) {
	m := &maker{seed: 1}
	played, turned, rowed := map[uint8]int{}, map[uint8]int{}, map[uint8]int{}
	for _, p := range programs(t, 11, 700) {
		l, fuel := m.list(150), m.next(150)
		r := play(t, p, l)
		expect(t, "Play", r, trailed(t, p).play(t, l).all())
		played[r.Ending]++
		r = turns(t, p, fuel)
		expect(t, "ByTurns", r, trailed(t, p).turns(t, fuel).all())
		turned[r.Ending]++
		l = slices.Concat(l, m.list(200))
		r = like(t, p, l)
		expect(t, "Like", r, trailed(t, p).like(t, l).all())
		rowed[r.Ending]++
	}
	some(t, played)
	some(t, turned)
	some(t, rowed)
}

// P10.2, P10.6: the first state in which two threads race is the first one of all states whose threads do; the picks up to there tell it, and none fewer.
func TestAnyRacing(t *testing.T) {
	m := &maker{seed: 2}
	raced, none := map[bool]int{}, 0
	for _, p := range programs(t, 12, 500) {
		picks := m.list(90)
		l := trailed(t, p).play(t, picks)
		want := l.race()
		expect(t, "Racing", racing(t, p, picks), want)
		if want < 0 {
			none++
			continue
		}
		raced[want > 0]++
		for n := range picks {
			if n < want {
				expect(t, "Racing of fewer", racing(t, p, picks[:n]), -1)
			} else {
				expect(t, "Racing of the first ones", racing(t, p, picks[:n]), want)
			}
		}
		other := append(slices.Clone(picks[:want]), m.list(9)...)
		expect(t, "Racing of others behind", racing(t, p, other), want)
	}
	if raced[true] < 80 || raced[false] < 10 || none < 80 {
		t.Error("only so many race, later and at first, and none:", raced[true], raced[false], none)
	}
}

// P10.3: a run by the row of another one comes to the same; by its first numbers to what that had come to.
func TestRowAgain(t *testing.T) {
	m := &maker{seed: 3}
	met := map[uint8]int{}
	for _, p := range programs(t, 13, 170) {
		picks, fuel, row := m.list(90), m.next(90), m.list(90)
		for _, l := range []*trail{trailed(t, p).play(t, picks), trailed(t, p).turns(t, fuel), trailed(t, p).like(t, row)} {
			met[l.last().Ending()]++
			for n := range len(l.row) + 1 {
				expect(t, "Like of the first ones", like(t, p, l.row[:n]), l.come(n))
			}
		}
		for _, r := range []run.Result{play(t, p, picks), turns(t, p, fuel), like(t, p, row)} {
			again := like(t, p, r.Row)
			expect(t, "Like of a row", again, r)
			expect(t, "Like of that one's row", like(t, p, again.Row), r)
		}
	}
	some(t, met)
}

// P10.4: a run by turns that ended is the same with more fuel; one of which fuel ran out has done as many steps as fuel says.
func TestOn(t *testing.T) {
	m := &maker{seed: 4}
	met := map[uint8]int{}
	for _, p := range programs(t, 14, 200) {
		l := trailed(t, p).turns(t, 120)
		met[l.last().Ending()]++
		for fuel := range 125 {
			r := turns(t, p, fuel)
			if fuel <= len(l.row) {
				expect(t, "ByTurns", r, l.come(fuel))
			}
			if r.Ending == api.Running && r.Steps != fuel || r.Steps > fuel {
				t.Fatalf("ByTurns(%d): %+v of %+v", fuel, r, p)
			}
			if r.Ending == api.Running {
				continue
			}
			for _, more := range []int{fuel + 1, fuel + m.next(1000), api.MaxFuel} {
				expect(t, "ByTurns with more fuel", turns(t, p, more), r)
			}
		}
	}
	some(t, met)
}

// P10.5: a run by the first ones of some picks is the beginning of the run by all.
func TestFirstPicks(t *testing.T) {
	m := &maker{seed: 5}
	met := map[uint8]int{}
	for _, p := range programs(t, 15, 300) {
		picks := m.list(120)
		l, whole := trailed(t, p).play(t, picks), play(t, p, picks)
		met[whole.Ending]++
		for n := range len(picks) + 1 {
			r := play(t, p, picks[:n])
			expect(t, "Play of the first ones", r, l.come(min(n, len(l.row))))
			expect(t, "Steps", r.Steps, min(n, whole.Steps))
			expect(t, "Row", r.Row, whole.Row[:r.Steps])
			expect(t, "Out", r.Out, whole.Out[:len(r.Out)])
			if n >= whole.Steps {
				expect(t, "Play of all that are needed", r, whole)
			}
		}
	}
	some(t, met)
}

// P10.1 to P10.6: all runs of small programs, by all picks there are, up to some length.
func TestAllPicks(t *testing.T) {
	for _, x := range []struct {
		text    string
		endings []uint8
	}{
		{"global x = 1; thread t { x = x + 2; } thread u { x = 5; }", []uint8{api.Running, api.Done}},
		{"lock l; thread t { with l { print 1; } } thread u { with l { } }", []uint8{api.Running, api.Done}},
		{"lock k; lock l; thread t { with k { with l { } } } thread u { with l { with k { } } }", []uint8{api.Running, api.Stuck}},
		{"global x = 1; array a[2]; thread t { x = 2; } thread u { print a[x]; }", []uint8{api.Running, api.Done, api.Trapped}},
		{"func f(p) { print p; return p + 1; } thread t { var v = call f(1); } thread u { print 1 / 0; }", []uint8{api.Running, api.Trapped}},
	} {
		p := made(t, x.text)
		met := map[uint8]int{}
		for most := range 12 {
			for bits := range 1 << most {
				picks := make([]int, most)
				for i := range picks {
					picks[i] = bits >> i & 1
				}
				l := trailed(t, p).play(t, picks)
				r := play(t, p, picks)
				met[r.Ending]++
				expect(t, "Play of "+x.text, r, l.all())
				expect(t, "Like of "+x.text, like(t, p, r.Row), r)
				expect(t, "Racing of "+x.text, racing(t, p, picks), l.race())
			}
		}
		for _, ending := range x.endings {
			if met[ending] == 0 {
				t.Errorf("no run of %s ends by %d: %v", x.text, ending, met)
			}
		}
	}
}

// P10.1: picks of whatever numbers choose as the least ones that leave the same.
func TestAnyNumbers(t *testing.T) {
	m := &maker{seed: 6}
	// What all numbers of threads that can go on divide: so the same is left of a number as of one that is so much greater.
	const all = 720720
	for _, p := range programs(t, 16, 100) {
		var small, great []int
		for range m.next(80) {
			n := m.next(all)
			small = append(small, n)
			great = append(great, n+all*pick(m, 0, 1, 1<<40, (math.MaxInt-all)/all))
		}
		expect(t, "Play", play(t, p, great), play(t, p, small))
		expect(t, "Racing", racing(t, p, great), racing(t, p, small))
	}
}
