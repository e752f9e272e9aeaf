package mem_test

import (
	"math"
	"math/big"
	"testing"

	"bobbin/api"
	"bobbin/mem"
)

// kinds are all Kinds that Binary has an operation of.
var kinds = []uint8{api.Add, api.Sub, api.Mul, api.Div, api.Mod, api.Less, api.LessEq, api.Equal, api.Unlike, api.And, api.Or}

// edges are numbers at which something may go round, or turn about.
func edges() []int64 {
	l := []int64{math.MinInt64, math.MinInt64 + 1, math.MinInt64 + 2, math.MaxInt64 - 2, math.MaxInt64 - 1, math.MaxInt64}
	for _, shift := range []int{7, 8, 15, 16, 31, 32, 33, 53, 62} {
		n := int64(1) << shift
		l = append(l, -n-1, -n, -n+1, n-1, n, n+1)
	}
	for n := int64(-12); n <= 12; n++ {
		l = append(l, n)
	}
	return append(l, 3037000499, 3037000500, -3037000500, 1000000007, -1000000007, 0x0123456789abcdef, -0x0123456789abcdef)
}

// some are numbers of any size that are made, always the same ones.
func some(count int) []int64 {
	m := &maker{seed: 77}
	var l []int64
	for range count {
		l = append(l, m.number())
	}
	return l
}

// round is what a whole number of any size is as a number: it goes round at 2^64.
func round(n *big.Int) int64 {
	whole := new(big.Int).Lsh(big.NewInt(1), 64)
	left := new(big.Int).Mod(n, whole)
	if left.Cmp(big.NewInt(math.MaxInt64)) > 0 {
		left.Sub(left, whole)
	}
	return left.Int64()
}

func one(holds bool) int64 { return map[bool]int64{true: 1}[holds] }

// judge2 is what an operation of two makes, reckoned without any bound.
func judge2(kind uint8, a, b int64) (int64, bool) {
	x, y, z := big.NewInt(a), big.NewInt(b), new(big.Int)
	none := a == 0
	switch kind {
	case api.Add:
		return round(z.Add(x, y)), true
	case api.Sub:
		return round(z.Sub(x, y)), true
	case api.Mul:
		return round(z.Mul(x, y)), true
	case api.Div, api.Mod:
		if b == 0 {
			return 0, false
		}
		z.Quo(x, y) // cut towards 0
		if kind == api.Div {
			return round(z), true
		}
		return round(new(big.Int).Sub(x, z.Mul(z, y))), true
	case api.Less:
		return one(x.Cmp(y) < 0), true
	case api.LessEq:
		return one(x.Cmp(y) <= 0), true
	case api.Equal:
		return one(x.Cmp(y) == 0), true
	case api.Unlike:
		return one(x.Cmp(y) != 0), true
	case api.And:
		return one(!none && b != 0), true
	case api.Or:
		return one(!none || b != 0), true
	}
	return 0, false
}

// judge1 is judge2 of an operation of one.
func judge1(kind uint8, a int64) (int64, bool) {
	switch kind {
	case api.Neg:
		return round(new(big.Int).Neg(big.NewInt(a))), true
	case api.Not:
		return one(a == 0), true
	}
	return 0, false
}

// P8.2: what operations make, written out.
func TestMade(t *testing.T) {
	const least, most = math.MinInt64, math.MaxInt64
	for _, x := range []struct {
		kind       uint8
		a, b, want int64
	}{
		{api.Mod, -7, 2, -1}, // the chapter's example
		{api.Mod, 7, 2, 1}, {api.Mod, 7, -2, 1}, {api.Mod, -7, -2, -1}, {api.Mod, 6, 3, 0}, {api.Mod, 0, 5, 0}, {api.Mod, 2, 7, 2}, {api.Mod, -2, 7, -2},
		{api.Mod, least, -1, 0}, {api.Mod, least, 1, 0}, {api.Mod, most, -1, 0}, {api.Mod, least, 2, 0}, {api.Mod, least, most, -1}, {api.Mod, most, least, most}, {api.Mod, least, least, 0},
		{api.Div, -7, 2, -3}, {api.Div, 7, 2, 3}, {api.Div, 7, -2, -3}, {api.Div, -7, -2, 3}, {api.Div, 0, 5, 0}, {api.Div, 2, 7, 0}, {api.Div, -2, 7, 0},
		{api.Div, least, -1, least}, {api.Div, least, 1, least}, {api.Div, most, -1, -most}, {api.Div, least, 2, least / 2}, {api.Div, least, most, -1}, {api.Div, most, least, 0}, {api.Div, least, least, 1}, {api.Div, most, most, 1},
		{api.Add, 2, 3, 5}, {api.Add, most, 1, least}, {api.Add, least, -1, most}, {api.Add, least, least, 0}, {api.Add, most, most, -2}, {api.Add, least, most, -1},
		{api.Sub, 2, 3, -1}, {api.Sub, least, 1, most}, {api.Sub, most, -1, least}, {api.Sub, 0, least, least}, {api.Sub, least, least, 0}, {api.Sub, least, most, 1}, {api.Sub, most, least, -1},
		{api.Mul, 2, -3, -6}, {api.Mul, least, -1, least}, {api.Mul, least, least, 0}, {api.Mul, most, most, 1}, {api.Mul, least, most, least}, {api.Mul, 1 << 32, 1 << 32, 0}, {api.Mul, 1 << 32, 1 << 31, least}, {api.Mul, 3037000500, 3037000500, -9223372036709301616},
		{api.Less, 2, 3, 1}, {api.Less, 3, 3, 0}, {api.Less, 4, 3, 0}, {api.Less, -1, 0, 1}, {api.Less, least, most, 1}, {api.Less, most, least, 0}, {api.Less, least, least, 0},
		{api.LessEq, 2, 3, 1}, {api.LessEq, 3, 3, 1}, {api.LessEq, 4, 3, 0}, {api.LessEq, 0, -1, 0}, {api.LessEq, least, most, 1}, {api.LessEq, most, least, 0}, {api.LessEq, most, most, 1},
		{api.Equal, 3, 3, 1}, {api.Equal, 3, -3, 0}, {api.Equal, 0, 1 << 32, 0}, {api.Equal, least, most, 0}, {api.Equal, least, least, 1},
		{api.Unlike, 3, 3, 0}, {api.Unlike, 3, -3, 1}, {api.Unlike, 0, 1 << 32, 1}, {api.Unlike, least, most, 1}, {api.Unlike, most, most, 0},
		{api.And, 1, 1, 1}, {api.And, 1, 0, 0}, {api.And, 0, 1, 0}, {api.And, 0, 0, 0}, {api.And, 2, 1, 1}, {api.And, -1, least, 1}, {api.And, 1 << 32, most, 1}, {api.And, least, 0, 0},
		{api.Or, 1, 1, 1}, {api.Or, 1, 0, 1}, {api.Or, 0, 1, 1}, {api.Or, 0, 0, 0}, {api.Or, 2, 4, 1}, {api.Or, -1, 0, 1}, {api.Or, 0, 1 << 32, 1}, {api.Or, 0, least, 1},
	} {
		if n, ok := mem.Binary(x.kind, x.a, x.b); n != x.want || !ok {
			t.Errorf("Binary(%d, %d, %d): %d, %v, not %d", x.kind, x.a, x.b, n, ok, x.want)
		}
	}
	for _, x := range []struct {
		kind    uint8
		a, want int64
	}{
		{api.Neg, 0, 0}, {api.Neg, 5, -5}, {api.Neg, -5, 5}, {api.Neg, most, -most}, {api.Neg, least, least}, {api.Neg, least + 1, most},
		{api.Not, 0, 1}, {api.Not, 1, 0}, {api.Not, 2, 0}, {api.Not, -1, 0}, {api.Not, 1 << 32, 0}, {api.Not, least, 0}, {api.Not, most, 0},
	} {
		if n, ok := mem.Unary(x.kind, x.a); n != x.want || !ok {
			t.Errorf("Unary(%d, %d): %d, %v, not %d", x.kind, x.a, n, ok, x.want)
		}
	}
}

// P8.2: nothing is divided by 0.
func TestByNothing(t *testing.T) {
	for _, a := range append(edges(), some(100)...) {
		for _, kind := range []uint8{api.Div, api.Mod} {
			if n, ok := mem.Binary(kind, a, 0); n != 0 || ok {
				t.Errorf("Binary(%d, %d, 0): %d, %v", kind, a, n, ok)
			}
		}
	}
}

// P8.2: each Kind from 0 to 255, also those that an expression of another count of Args has, or none.
func TestKinds(t *testing.T) {
	l := append(edges(), some(20)...)
	for kind := range 256 {
		kind := uint8(kind)
		for _, a := range l {
			n, ok := mem.Unary(kind, a)
			if want, is := judge1(kind, a); n != want || ok != is {
				t.Fatalf("Unary(%d, %d): %d, %v, not %d, %v", kind, a, n, ok, want, is)
			}
			for _, b := range l {
				n, ok := mem.Binary(kind, a, b)
				if want, is := judge2(kind, a, b); n != want || ok != is {
					t.Fatalf("Binary(%d, %d, %d): %d, %v, not %d, %v", kind, a, b, n, ok, want, is)
				}
			}
		}
	}
}

// P8.2: numbers of any size.
func TestAnyNumbers(t *testing.T) {
	l := some(10000)
	for i := 1; i < len(l); i++ {
		a, b := l[i-1], l[i]
		for _, kind := range kinds {
			n, ok := mem.Binary(kind, a, b)
			if want, is := judge2(kind, a, b); n != want || ok != is {
				t.Fatalf("Binary(%d, %d, %d): %d, %v, not %d, %v", kind, a, b, n, ok, want, is)
			}
		}
	}
}

// two is what an operation of two makes, where it makes something.
func two(t *testing.T, kind uint8, a, b int64) int64 {
	t.Helper()
	n, ok := mem.Binary(kind, a, b)
	if !ok {
		t.Fatalf("Binary(%d, %d, %d) makes nothing", kind, a, b)
	}
	return n
}

func single(t *testing.T, kind uint8, a int64) int64 {
	t.Helper()
	n, ok := mem.Unary(kind, a)
	if !ok {
		t.Fatalf("Unary(%d, %d) makes nothing", kind, a)
	}
	return n
}

// pairs goes through pairs of numbers.
func pairs(do func(a, b int64)) {
	l := append(edges(), some(60)...)
	for _, a := range l {
		for _, b := range l {
			do(a, b)
		}
	}
}

// triples goes through triples of numbers.
func triples(do func(a, b, c int64)) {
	l := []int64{math.MinInt64, math.MinInt64 + 1, -1 << 32, -3, -2, -1, 0, 1, 2, 3, 1 << 31, 1 << 32, 1<<62 + 5, math.MaxInt64 - 1, math.MaxInt64}
	l = append(l, some(25)...)
	for _, a := range l {
		for _, b := range l {
			for _, c := range l {
				do(a, b, c)
			}
		}
	}
}

// P8.4: Div and Mod together, Sub, Less, Unlike, each by what the chapter says that it is.
func TestNumbers(t *testing.T) {
	pairs(func(a, b int64) {
		if b != 0 {
			whole, left := two(t, api.Div, a, b), two(t, api.Mod, a, b)
			if n := two(t, api.Add, two(t, api.Mul, whole, b), left); n != a {
				t.Fatalf("%d by %d: %d, and %d is left: %d", a, b, whole, left, n)
			}
			within(t, a, b, left)
		}
		hold := func(what string, got, want int64) {
			t.Helper()
			if got != want {
				t.Fatalf("%s of %d and %d: %d, not %d", what, a, b, got, want)
			}
		}
		hold("Sub", two(t, api.Sub, a, b), two(t, api.Add, a, single(t, api.Neg, b)))
		hold("Less", two(t, api.Less, a, b), single(t, api.Not, two(t, api.LessEq, b, a)))
		hold("Unlike", two(t, api.Unlike, a, b), single(t, api.Not, two(t, api.Equal, a, b)))
	})
}

// within asks what is left of a number to be nearer to 0 than what it was divided by, and on the number's side.
func within(t *testing.T, a, b, left int64) {
	t.Helper()
	size := func(n int64) *big.Int { return new(big.Int).Abs(big.NewInt(n)) }
	if size(left).Cmp(size(b)) >= 0 || left < 0 && a > 0 || left > 0 && a < 0 {
		t.Fatalf("of %d by %d is left %d", a, b, left)
	}
}

// P8.6: any row and any brackets; products over sums.
func TestSumsAndProducts(t *testing.T) {
	pairs(func(a, b int64) {
		for _, kind := range []uint8{api.Add, api.Mul} {
			if x, y := two(t, kind, a, b), two(t, kind, b, a); x != y {
				t.Fatalf("the Kind %d of %d and %d: %d, turned about %d", kind, a, b, x, y)
			}
		}
	})
	triples(func(a, b, c int64) {
		for _, kind := range []uint8{api.Add, api.Mul} {
			if x, y := two(t, kind, two(t, kind, a, b), c), two(t, kind, a, two(t, kind, b, c)); x != y {
				t.Fatalf("the Kind %d of %d, %d, %d: %d, in other brackets %d", kind, a, b, c, x, y)
			}
		}
		over := two(t, api.Mul, a, two(t, api.Add, b, c))
		if sum := two(t, api.Add, two(t, api.Mul, a, b), two(t, api.Mul, a, c)); over != sum {
			t.Fatalf("%d by the sum of %d and %d: %d, not %d", a, b, c, over, sum)
		}
	})
}

// P8.7: just one of less, equal, more; what is less is handed on.
func TestLess(t *testing.T) {
	pairs(func(a, b int64) {
		less, equal, more := two(t, api.Less, a, b), two(t, api.Equal, a, b), two(t, api.Less, b, a)
		if less+equal+more != 1 || less < 0 || equal < 0 || more < 0 {
			t.Fatalf("%d and %d: less %d, equal %d, more %d", a, b, less, equal, more)
		}
		if n := two(t, api.LessEq, a, b); n != less+equal {
			t.Fatalf("%d and %d: less %d, equal %d, but LessEq %d", a, b, less, equal, n)
		}
	})
	triples(func(a, b, c int64) {
		for _, kind := range []uint8{api.Less, api.LessEq, api.Equal} {
			if two(t, kind, a, b) == 1 && two(t, kind, b, c) == 1 && two(t, kind, a, c) != 1 {
				t.Fatalf("the Kind %d is not handed on from %d by %d to %d", kind, a, b, c)
			}
		}
	})
}

// P8.2: And and Or are what the truths of their two are.
func TestTruths(t *testing.T) {
	pairs(func(a, b int64) {
		x, y := single(t, api.Not, a), single(t, api.Not, b)
		if n := two(t, api.And, a, b); n != single(t, api.Not, two(t, api.Or, x, y)) {
			t.Fatalf("And of %d and %d: %d", a, b, n)
		}
		if n := two(t, api.Or, a, b); n != single(t, api.Not, two(t, api.And, x, y)) {
			t.Fatalf("Or of %d and %d: %d", a, b, n)
		}
	})
}
