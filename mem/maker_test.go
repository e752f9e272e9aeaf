package mem_test

import (
	"math"
	"strconv"

	"bobbin/api"
)

// maker makes things out of a number, always the same ones.
type maker struct{ seed uint64 }

func (m *maker) bits() uint64 {
	m.seed = m.seed*6364136223846793005 + 1442695040888963407
	high := m.seed >> 32
	m.seed = m.seed*6364136223846793005 + 1442695040888963407
	return high<<32 | m.seed>>32
}

func (m *maker) next(n int) int { return int(m.bits() >> 1 % uint64(n)) }

// number makes a number of any size.
func (m *maker) number() int64 {
	shift := m.next(64)
	return int64(m.bits()) >> shift
}

func pick[T any](m *maker, l ...T) T { return l[m.next(len(l))] }

// globals makes globals that may be.
func (m *maker) globals() []api.Mem {
	var l []api.Mem
	for i := range m.next(6) {
		l = append(l, api.Mem{Name: "x" + strconv.Itoa(i), Size: pick(m, 1, 1, 2, 3, 9), First: pick(m, 0, m.number())})
	}
	return l
}

// index makes an index: mostly one of as many things, else one that is none of them.
func (m *maker) index(count int) int {
	if count > 0 && m.next(8) > 0 {
		return m.next(count)
	}
	return pick(m, -1, count, count+1, math.MinInt, math.MaxInt, -count, math.MinInt32, 1<<32, count+1<<32)
}

// somebody makes a number of who holds something.
func (m *maker) somebody() int { return pick(m, 0, 1, 2, -1, math.MinInt, math.MaxInt, 1<<32) }
