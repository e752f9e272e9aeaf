package front_test

import "slices"

// maker makes graphs out of a number, always the same ones.
type maker struct{ seed uint64 }

func (m *maker) next(n int) int {
	m.seed = m.seed*6364136223846793005 + 1442695040888963407
	return int(m.seed >> 33 % uint64(n))
}

// wild makes a graph of n blocks, each of which goes to at most most others, wherever they are.
func (m *maker) wild(n, most int) [][]int {
	to := make([][]int, n)
	for b := range to {
		for range m.next(most + 1) {
			to[b] = append(to[b], m.next(n))
		}
	}
	return to
}

// near makes a graph of n blocks like those of programs: a row, with ways some blocks on, and some blocks back; some blocks don't go on.
func (m *maker) near(n int) [][]int {
	to := make([][]int, n)
	for b := range to {
		if b+1 < n && m.next(8) > 0 {
			to[b] = append(to[b], b+1)
		}
		switch m.next(4) {
		case 0:
			to[b] = append(to[b], min(n-1, b+2+m.next(5)))
		case 1:
			to[b] = append(to[b], max(0, b-m.next(6)))
		}
	}
	return to
}

// any makes a graph of n blocks at most.
func (m *maker) any(n int) [][]int {
	n = 1 + m.next(n)
	if m.next(2) == 0 {
		return m.mixed(m.near(n))
	}
	return m.wild(n, 1+m.next(3))
}

// mixed gives the blocks other numbers, but block 0, and each one's ways another row.
func (m *maker) mixed(to [][]int) [][]int {
	number := upTo(len(to))
	m.mix(number[1:])
	out := make([][]int, len(to))
	for b, l := range to {
		for _, next := range l {
			out[number[b]] = append(out[number[b]], number[next])
		}
		m.mix(out[number[b]])
	}
	return out
}

// mix puts a list in another row.
func (m *maker) mix(l []int) {
	for at := range l {
		other := at + m.next(len(l)-at)
		l[at], l[other] = l[other], l[at]
	}
}

// upTo are the numbers from 0 on to n, without that.
func upTo(n int) []int {
	out := make([]int, n)
	for at := range out {
		out[at] = at
	}
	return out
}

// clone is a graph that shares nothing with another one.
func clone(to [][]int) [][]int {
	out := slices.Clone(to)
	for b := range out {
		out[b] = slices.Clone(out[b])
	}
	return out
}

// some are some of the numbers from 0 on to n, without that, in any row, some of them more than once.
func (m *maker) some(n int) []int {
	var out []int
	for range m.next(n + 1) {
		out = append(out, m.next(n))
	}
	return out
}

// again are the numbers of a list in another row, some of them more than once.
func (m *maker) again(l []int) []int {
	out := slices.Clone(l)
	for range m.next(4) * min(1, len(l)) {
		out = append(out, l[m.next(len(l))])
	}
	m.mix(out)
	return out
}
