package field

import "muniment/api"

// MaxSide is how many rows, and how many columns, a matrix may have.
const MaxSide = 64

// cauchy is the least of the numbers of a Cauchy matrix's rows: above those of all columns, so that no sum of both is 0.
const cauchy = 128

// row is one of a matrix, with 0 behind its end.
type row [MaxSide]uint8

// pair is a row, and another one to which is done whatever is done to it.
type pair struct {
	left, right row
}

// Check says how many rows and columns a matrix has.
func Check(m []string) (rows, columns int, e api.Errno) {
	if !side(len(m)) || !side(len(m[0])) {
		return 0, 0, api.ErrArg
	}
	for _, r := range m {
		if len(r) != len(m[0]) {
			return 0, 0, api.ErrArg
		}
	}
	return len(m), len(m[0]), api.OK
}

// Unit is the matrix that changes nothing.
func Unit(n int) ([]string, api.Errno) {
	if !side(n) {
		return nil, api.ErrArg
	}
	rows := make([]row, n)
	for i := range rows {
		rows[i] = unit(i)
	}
	return texts(rows, n), api.OK
}

// Product is that of two matrices.
func Product(a, b []string) ([]string, api.Errno) {
	count, inner, e := Check(a)
	if e != api.OK {
		return nil, e
	}
	many, columns, e := Check(b)
	if e != api.OK {
		return nil, e
	}
	if inner != many {
		return nil, api.ErrArg
	}
	rows := make([]row, count)
	others := arrays(b)
	for i, r := range arrays(a) {
		for k, other := range others {
			rows[i] = sum(rows[i], other, r[k])
		}
	}
	return texts(rows, columns), api.OK
}

// Inverse is a matrix's.
func Inverse(m []string) ([]string, api.Errno) {
	count, columns, e := Check(m)
	if e != api.OK {
		return nil, e
	}
	if count != columns {
		return nil, api.ErrArg
	}
	rows := make([]row, count)
	for _, p := range reduced(m) {
		if p.left == (row{}) {
			return nil, api.ErrSingular
		}
		// The left rows are the Unit's by now, in some other order: that of the inverse's rows.
		rows[first(p.left)] = p.right
	}
	return texts(rows, columns), api.OK
}

// Rank is how many rows of a matrix are not made of others.
func Rank(m []string) (int, api.Errno) {
	if _, _, e := Check(m); e != api.OK {
		return 0, e
	}
	rank := 0
	for _, p := range reduced(m) {
		if p.left != (row{}) {
			rank++
		}
	}
	return rank, api.OK
}

// Cauchy is a matrix all of whose square parts have an inverse.
func Cauchy(rows, columns int) ([]string, api.Errno) {
	if !side(rows) || !side(columns) {
		return nil, api.ErrArg
	}
	all := make([]row, rows)
	for i := range all {
		for j := range columns {
			all[i][j] = inverse(Plus(uint8(cauchy+i), uint8(j)))
		}
	}
	return texts(all, columns), api.OK
}

// side says whether a matrix may have so many rows, or columns.
func side(n int) bool { return n >= 1 && n <= MaxSide }

// reduced lays each row of a matrix beside the Unit's and takes rows from one another, until each is 0, or has a 1 in a column in which all others have 0.
func reduced(m []string) []pair {
	pairs := make([]pair, len(m))
	for i, r := range arrays(m) {
		pairs[i] = pair{r, unit(i)}
	}
	for i := range pairs {
		p := pairs[i]
		if p.left == (row{}) {
			continue
		}
		column := first(p.left)
		pairs[i] = added(pair{}, p, inverse(p.left[column]))
		for j := range pairs {
			if j != i {
				pairs[j] = added(pairs[j], pairs[i], pairs[j].left[column])
			}
		}
	}
	return pairs
}

// added is a pair with so many times another one.
func added(to, p pair, times uint8) pair {
	return pair{sum(to.left, p.left, times), sum(to.right, p.right, times)}
}

// sum is a row with so many times another one.
func sum(to, r row, times uint8) row {
	if times == 0 {
		return to
	}
	for j := range r {
		to[j] ^= Times(r[j], times)
	}
	return to
}

// unit is the Unit's row of that number.
func unit(i int) row {
	r := row{}
	r[i] = 1
	return r
}

// first is the column of a row's first number but 0.
func first(r row) int {
	for j, n := range r {
		if n != 0 {
			return j
		}
	}
	return 0
}

// arrays is a matrix's rows, by their bytes.
func arrays(m []string) []row {
	rows := make([]row, len(m))
	for i, r := range m {
		copy(rows[i][:], r)
	}
	return rows
}

// texts is a matrix of rows with so many columns.
func texts(rows []row, columns int) []string {
	m := make([]string, len(rows))
	for i, r := range rows {
		m[i] = string(r[:columns])
	}
	return m
}
