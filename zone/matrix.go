package zone

import (
	"slices"

	"foliot/api"
	"foliot/limit"
)

// atMostZero is the limit "at most 0".
const atMostZero api.Limit = 1

// maxWidth is the number of clocks of the greatest dimension, with the clock 0.
const maxWidth = api.MaxDim + 1

// matrix is a matrix of the dimension n. While an operation changes it, its
// elements may have constants that no valid limit has; zone tells so in the end.
// They stay far below NoLimit: a path of at most MaxDim bounds is below 2^36.
type matrix struct {
	n     int
	cells [maxWidth * maxWidth]api.Limit
}

// read returns the matrix with these elements, and whether it is one of the dimension n.
func read(n int, l []api.Limit) (matrix, bool) {
	if !isDimension(n) || len(l) != places(n) {
		return matrix{}, false
	}
	for _, bound := range l {
		if !limit.Valid(bound) {
			return matrix{}, false
		}
	}
	m := matrix{n: n}
	copy(m.cells[:], l)
	return m, true
}

// open returns the matrix of a zone, and whether the zone is valid.
func open(z api.Zone) (matrix, bool) {
	m, ok := read(z.N, z.M)
	if !ok {
		return matrix{}, false
	}
	closed := m
	return m, closed.shorten() && closed == m
}

func isDimension(n int) bool { return 0 <= n && n <= api.MaxDim }

// places returns the number of elements of a matrix of the dimension n.
func places(n int) int { return (n + 1) * (n + 1) }

// row returns the elements (i, 0) to (i, n); an append to it cannot reach the next row.
func (m *matrix) row(i int) []api.Limit {
	width := m.n + 1
	return m.cells[i*width : (i+1)*width : (i+1)*width]
}

// tighten lets the clock i minus the clock j meet l as well.
func (m *matrix) tighten(i, j int, l api.Limit) {
	row := m.row(i)
	row[j] = min(row[j], l)
}

// release forgets all about the clock i. In a canonical matrix the bounds of
// the other clocks say already what they have to meet because of it.
func (m *matrix) release(i int) {
	for j := range m.n + 1 {
		m.row(i)[j], m.row(j)[i] = api.NoLimit, api.NoLimit
	}
}

// shorten makes each element the length of a shortest path, so that the matrix
// is canonical, and tells whether its set has a valuation. Otherwise it stops at
// the first cycle that is too short: beyond that, lengths would double each turn.
func (m *matrix) shorten() bool {
	for i := range m.n + 1 {
		m.tighten(i, i, atMostZero)
		m.tighten(0, i, atMostZero)
	}
	for k := range m.n + 1 {
		behind := m.row(k)
		for i := range m.n + 1 {
			row := m.row(i)
			before := row[k]
			for j := range m.n + 1 {
				row[j] = min(row[j], sum(before, behind[j]))
			}
			if row[i] < atMostZero {
				return false
			}
		}
	}
	return true
}

// zone returns the set of the matrix.
func (m *matrix) zone() (api.Zone, api.Errno) {
	if !m.shorten() {
		return api.Zone{}, api.ErrNone
	}
	bounds := m.cells[:places(m.n)]
	for _, bound := range bounds {
		if !limit.Valid(bound) {
			return api.Zone{}, api.ErrRange
		}
	}
	return api.Zone{N: m.n, M: slices.Clone(bounds)}, api.OK
}

// sum returns the sum of two limits. Unlike limit.Add it has no range: whether a
// set is empty has to be found out with bounds that are out of range, too.
func sum(a, b api.Limit) api.Limit {
	if a == api.NoLimit || b == api.NoLimit {
		return api.NoLimit
	}
	// 2 c + 1 and 2 d + 1 add up to one more than the weak limit of c + d, and
	// 2 c + 1 and 2 d to one more than the strict one.
	return a + b - (a|b)&1
}
