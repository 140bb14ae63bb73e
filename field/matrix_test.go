package field_test

import (
	"math"
	"math/rand"
	"slices"
	"strings"
	"testing"

	"muniment/api"
	"muniment/field"
)

// known makes a matrix that must be made.
func known(t *testing.T, m []string, e api.Errno) []string {
	t.Helper()
	if e != api.OK {
		t.Fatalf("no matrix: %v", e)
	}
	return m
}

func unit(t *testing.T, n int) []string {
	t.Helper()
	m, e := field.Unit(n)
	return known(t, m, e)
}

func product(t *testing.T, a, b []string) []string {
	t.Helper()
	m, e := field.Product(a, b)
	return known(t, m, e)
}

func inverse(t *testing.T, m []string) []string {
	t.Helper()
	i, e := field.Inverse(m)
	return known(t, i, e)
}

func cauchy(t *testing.T, rows, columns int) []string {
	t.Helper()
	m, e := field.Cauchy(rows, columns)
	return known(t, m, e)
}

func rank(t *testing.T, m []string) int {
	t.Helper()
	n, e := field.Rank(m)
	if e != api.OK {
		t.Fatalf("Rank(%q): %v", m, e)
	}
	return n
}

// filled has at each place what at says.
func filled(rows, columns int, at func(i, j int) uint8) []string {
	m := make([]string, rows)
	for i := range m {
		r := make([]byte, columns)
		for j := range r {
			r[j] = at(i, j)
		}
		m[i] = string(r)
	}
	return m
}

// some is a matrix of numbers below so many.
func some(r *rand.Rand, rows, columns, below int) []string {
	return filled(rows, columns, func(i, j int) uint8 { return uint8(r.Intn(below)) })
}

func turned(m []string) []string {
	return filled(len(m[0]), len(m), func(i, j int) uint8 { return m[j][i] })
}

// multiplied is the product by the chapter's words.
func multiplied(a, b []string) []string {
	return filled(len(a), len(b[0]), func(i, j int) uint8 {
		sum := uint8(0)
		for k := range b {
			sum ^= times(a[i][k], b[k][j])
		}
		return sum
	})
}

// part is the numbers at which those rows and columns meet.
func part(m []string, rows, columns []int) []string {
	return filled(len(rows), len(columns), func(i, j int) uint8 { return m[rows[i]][columns[j]] })
}

// others are the numbers below n but one.
func others(n, but int) []int {
	l := []int{}
	for i := range n {
		if i != but {
			l = append(l, i)
		}
	}
	return l
}

// determinant is told by the first row's numbers and the parts without it; signs are one here.
func determinant(m []string) uint8 {
	if len(m) == 0 {
		return 1
	}
	sum := uint8(0)
	for j := range m {
		if m[0][j] != 0 {
			sum ^= times(m[0][j], determinant(part(m, others(len(m), 0), others(len(m), j))))
		}
	}
	return sum
}

// chosen are all ways to choose k of the numbers below n, in order.
func chosen(n, k int) [][]int {
	if k == 0 {
		return [][]int{{}}
	}
	l := [][]int{}
	for last := k - 1; last < n; last++ {
		for _, c := range chosen(last, k-1) {
			l = append(l, append(slices.Clone(c), last))
		}
	}
	return l
}

// ranked is the rank by the chapter's words: square parts are sought that have an inverse, the greatest first.
func ranked(m []string) int {
	for n := min(len(m), len(m[0])); n > 0; n-- {
		for _, rows := range chosen(len(m), n) {
			for _, columns := range chosen(len(m[0]), n) {
				if determinant(part(m, rows, columns)) != 0 {
					return n
				}
			}
		}
	}
	return 0
}

// noMatrices are lists that are none, each in one way.
func noMatrices() [][]string {
	many := slices.Repeat([]string{"a"}, field.MaxSide+1)
	wide := strings.Repeat("a", field.MaxSide+1)
	return [][]string{nil, {}, {""}, {"", ""}, {"ab", "c"}, {"a", "bc"}, {"a", ""}, {"", "a"}, {"ab", "cd", "e"}, {"ab", "cd", "efg"},
		many, {wide}, {wide, wide}, slices.Repeat([]string{wide}, field.MaxSide+1), slices.Repeat([]string{""}, field.MaxSide+1),
		{wide[1:], wide}, {wide, wide[1:]}, slices.Repeat(many, 100), {strings.Repeat("a", 1<<16)}, {strings.Repeat("a", 256)}, {strings.Repeat("a", 257)}}
}

func TestExamplesOfMatrices(t *testing.T) {
	upper := []string{"\x01\x02", "\x00\x01"}
	ones := []string{"\x01\x01", "\x01\x01"}
	if p := product(t, upper, []string{"\x03", "\x04"}); !slices.Equal(p, []string{"\x0b", "\x04"}) {
		t.Errorf("the Product is %q", p)
	}
	if i := inverse(t, upper); !slices.Equal(i, upper) {
		t.Errorf("the Inverse is %q", i)
	}
	if i, e := field.Inverse(ones); len(i) != 0 || e != api.ErrSingular {
		t.Errorf("the Inverse of ones is %q, %v", i, e)
	}
	if n := rank(t, ones); n != 1 {
		t.Errorf("the Rank of ones is %d", n)
	}
	if c := cauchy(t, 1, 2); !slices.Equal(c, []string{string([]byte{over(t, 1, 128), over(t, 1, 129)})}) {
		t.Errorf("Cauchy(1, 2) is %q", c)
	}
	for _, m := range [][]string{{"ab", "c"}, nil, {""}} {
		if rows, columns, e := field.Check(m); rows != 0 || columns != 0 || e != api.ErrArg {
			t.Errorf("Check(%q) is %d, %d, %v", m, rows, columns, e)
		}
	}
}

func TestSides(t *testing.T) {
	if field.MaxSide != 64 {
		t.Errorf("MaxSide is %d", field.MaxSide)
	}
	for n := 1; n <= field.MaxSide; n++ {
		for k := 1; k <= field.MaxSide; k++ {
			m := filled(n, k, func(i, j int) uint8 { return uint8(i ^ j) })
			if rows, columns, e := field.Check(m); rows != n || columns != k || e != api.OK {
				t.Errorf("Check of %d rows of %d: %d, %d, %v", n, k, rows, columns, e)
			}
		}
	}
}

func TestNoMatrices(t *testing.T) {
	fine := []string{"a"}
	for i, m := range noMatrices() {
		if rows, columns, e := field.Check(m); rows != 0 || columns != 0 || e != api.ErrArg {
			t.Errorf("number %d: Check is %d, %d, %v", i, rows, columns, e)
		}
		if n, e := field.Rank(m); n != 0 || e != api.ErrArg {
			t.Errorf("number %d: Rank is %d, %v", i, n, e)
		}
		if l, e := field.Inverse(m); len(l) != 0 || e != api.ErrArg {
			t.Errorf("number %d: Inverse is %q, %v", i, l, e)
		}
		for _, both := range [][2][]string{{m, m}, {m, fine}, {fine, m}} {
			if l, e := field.Product(both[0], both[1]); len(l) != 0 || e != api.ErrArg {
				t.Errorf("number %d: Product is %q, %v", i, l, e)
			}
		}
	}
}

// noSides are numbers of rows that no matrix has.
func noSides() []int {
	return []int{0, -1, 65, -64, 66, 128, 255, 256, 257, 320, 1 << 16, 1<<32 + 1, math.MaxInt32, math.MinInt32, math.MaxInt, math.MinInt}
}

func TestUnit(t *testing.T) {
	for n := 1; n <= field.MaxSide; n++ {
		want := filled(n, n, func(i, j int) uint8 {
			if i == j {
				return 1
			}
			return 0
		})
		if m := unit(t, n); !slices.Equal(m, want) {
			t.Errorf("Unit(%d) is %q", n, m)
		}
	}
	for _, n := range noSides() {
		if m, e := field.Unit(n); len(m) != 0 || e != api.ErrArg {
			t.Errorf("Unit(%d) is %q, %v", n, m, e)
		}
	}
}

func TestCauchy(t *testing.T) {
	inverse := inverses()
	for rows := 1; rows <= field.MaxSide; rows++ {
		for columns := 1; columns <= field.MaxSide; columns++ {
			want := filled(rows, columns, func(i, j int) uint8 { return inverse[(128+i)^j] })
			if m := cauchy(t, rows, columns); !slices.Equal(m, want) {
				t.Fatalf("Cauchy(%d, %d) is %q", rows, columns, m)
			}
		}
	}
	for _, n := range noSides() {
		for _, both := range [][2]int{{n, n}, {n, 1}, {1, n}, {n, 64}, {64, n}} {
			if m, e := field.Cauchy(both[0], both[1]); len(m) != 0 || e != api.ErrArg {
				t.Errorf("Cauchy(%d, %d) is %q, %v", both[0], both[1], m, e)
			}
		}
	}
}

func TestProduct(t *testing.T) {
	r := rand.New(rand.NewSource(1))
	sides := []int{1, 2, 3, 5, 31, 63, 64}
	for _, rows := range sides {
		for _, inner := range sides {
			for _, columns := range sides {
				a, b := some(r, rows, inner, 256), some(r, inner, columns, 256)
				if p := product(t, a, b); !slices.Equal(p, multiplied(a, b)) {
					t.Fatalf("the Product of %q and %q is %q", a, b, p)
				}
			}
		}
	}
}

// TestNotAsMany asks for products of matrices whose sides do not go together, though each is one.
func TestNotAsMany(t *testing.T) {
	r := rand.New(rand.NewSource(2))
	for _, x := range [][4]int{{1, 1, 2, 1}, {1, 2, 1, 1}, {2, 3, 2, 3}, {3, 2, 3, 2}, {64, 64, 63, 64}, {64, 63, 64, 64}, {2, 1, 2, 1}, {1, 64, 1, 64}} {
		a, b := some(r, x[0], x[1], 256), some(r, x[2], x[3], 256)
		if p, e := field.Product(a, b); len(p) != 0 || e != api.ErrArg {
			t.Errorf("Product of sides %v: %q, %v", x, p, e)
		}
	}
}

func TestThree(t *testing.T) {
	r := rand.New(rand.NewSource(3))
	for range 100 {
		side := func() int { return 1 + r.Intn(12) }
		k, l, m, n := side(), side(), side(), side()
		a, b, c := some(r, k, l, 256), some(r, l, m, 256), some(r, m, n, 256)
		if !slices.Equal(product(t, product(t, a, b), c), product(t, a, product(t, b, c))) {
			t.Fatalf("%q, %q, %q: the Product hangs on which two go first", a, b, c)
		}
		if !slices.Equal(product(t, unit(t, k), a), a) || !slices.Equal(product(t, a, unit(t, l)), a) {
			t.Fatalf("the Unit changes %q", a)
		}
	}
}

// checkInverse asks all that tells of a square matrix whether it has an inverse, and whether that undoes.
func checkInverse(t *testing.T, m []string, has bool) {
	t.Helper()
	i, e := field.Inverse(m)
	if !has {
		if len(i) != 0 || e != api.ErrSingular || rank(t, m) >= len(m) {
			t.Fatalf("Inverse(%q) is %q, %v; the Rank is %d", m, i, e, rank(t, m))
		}
		return
	}
	if e != api.OK || rank(t, m) != len(m) {
		t.Fatalf("Inverse(%q): %v; the Rank is %d", m, e, rank(t, m))
	}
	one := unit(t, len(m))
	if !slices.Equal(multiplied(m, i), one) || !slices.Equal(multiplied(i, m), one) || !slices.Equal(inverse(t, i), m) {
		t.Fatalf("Inverse(%q) is %q, which does not undo it", m, i)
	}
}

// TestInverseBySmall holds it against determinants, by numbers so small that many have none.
func TestInverseBySmall(t *testing.T) {
	r := rand.New(rand.NewSource(4))
	met := [2]int{}
	for n := 1; n <= 6; n++ {
		for _, below := range []int{2, 3, 4, 256} {
			for range 100 {
				m := some(r, n, n, below)
				has := determinant(m) != 0
				checkInverse(t, m, has)
				if has {
					met[1]++
				} else {
					met[0]++
				}
			}
		}
	}
	if met[0] < 300 || met[1] < 300 {
		t.Errorf("%d without an inverse and %d with one are too few", met[0], met[1])
	}
}

// TestInverseOfAllSmall asks of every matrix of bits of up to 3 rows.
func TestInverseOfAllSmall(t *testing.T) {
	for n := 1; n <= 3; n++ {
		for all := range 1 << (n * n) {
			m := filled(n, n, func(i, j int) uint8 { return uint8(all >> (i*n + j) & 1) })
			checkInverse(t, m, determinant(m) != 0)
		}
	}
}

// TestInverseOfAllSides takes matrices that have one by their making: exchanged rows, and numbers on one side of the middle.
func TestInverseOfAllSides(t *testing.T) {
	r := rand.New(rand.NewSource(5))
	for n := 1; n <= field.MaxSide; n++ {
		order := r.Perm(n)
		mixed := filled(n, n, func(i, j int) uint8 {
			if order[i] == j {
				return uint8(1 + r.Intn(255))
			}
			return 0
		})
		lower := filled(n, n, func(i, j int) uint8 {
			if i == j {
				return uint8(1 + r.Intn(255))
			}
			if i > j {
				return uint8(r.Intn(256))
			}
			return 0
		})
		checkInverse(t, mixed, true)
		checkInverse(t, lower, true)
		checkInverse(t, turned(lower), true)
		m := multiplied(multiplied(lower, mixed), turned(lower))
		checkInverse(t, m, true)
		checkInverse(t, cauchy(t, n, n), true)
		checkInverse(t, made(r, m, r.Intn(n)), false)
		checkInverse(t, turned(made(r, m, r.Intn(n))), false)
	}
}

// made is a matrix one of whose rows is made of the others.
func made(r *rand.Rand, m []string, which int) []string {
	m = slices.Clone(m)
	sum := make([]byte, len(m[0]))
	for i := range m {
		factor := uint8(r.Intn(256))
		for j := range sum {
			if i != which {
				sum[j] ^= times(m[i][j], factor)
			}
		}
	}
	m[which] = string(sum)
	return m
}

// TestNotSquare asks for the order: what has not as many rows as columns is ErrArg, also if it has no rank.
func TestNotSquare(t *testing.T) {
	for _, x := range [][2]int{{1, 2}, {2, 1}, {63, 64}, {64, 63}, {1, 64}, {64, 1}} {
		for _, n := range []uint8{0, 1} {
			m := filled(x[0], x[1], func(i, j int) uint8 { return n })
			if i, e := field.Inverse(m); len(i) != 0 || e != api.ErrArg {
				t.Errorf("Inverse of sides %v: %q, %v", x, i, e)
			}
		}
	}
}

func TestNothing(t *testing.T) {
	for _, n := range []int{1, 2, 63, 64} {
		m := filled(n, n, func(i, j int) uint8 { return 0 })
		checkInverse(t, m, false)
		if rank(t, m) != 0 || rank(t, m[:1]) != 0 {
			t.Errorf("of %d rows of 0 the Rank is %d", n, rank(t, m))
		}
		m[n-1] = m[n-1][1:] + "\x01"
		if rank(t, m) != 1 {
			t.Errorf("of one number at the end of %d rows the Rank is %d", n, rank(t, m))
		}
	}
}

func TestRankBySmall(t *testing.T) {
	r := rand.New(rand.NewSource(6))
	met := [6]int{}
	for rows := 1; rows <= 5; rows++ {
		for columns := 1; columns <= 5; columns++ {
			for _, below := range []int{2, 3, 256} {
				for range 20 {
					m := some(r, rows, columns, below)
					want := ranked(m)
					met[want]++
					if n := rank(t, m); n != want {
						t.Fatalf("Rank(%q) is %d, want %d", m, n, want)
					}
				}
			}
		}
	}
	if slices.Min(met[:]) < 5 {
		t.Errorf("of the ranks 0 to 5 there were %v", met)
	}
}

// TestRankOfAll makes matrices of each rank, of all sides.
func TestRankOfAll(t *testing.T) {
	r := rand.New(rand.NewSource(7))
	for range 200 {
		rows, columns := 1+r.Intn(field.MaxSide), 1+r.Intn(field.MaxSide)
		want := 1 + r.Intn(min(rows, columns))
		m := multiplied(cauchy(t, rows, want), cauchy(t, want, columns))
		if n := rank(t, m); n != want {
			t.Fatalf("Rank is %d, want %d, of %q", n, want, m)
		}
		if n := rank(t, turned(m)); n != want {
			t.Fatalf("Rank is %d, want %d, of %q turned", n, want, m)
		}
		r.Shuffle(rows, func(i, j int) { m[i], m[j] = m[j], m[i] })
		if n := rank(t, m); n != want {
			t.Fatalf("Rank is %d, want %d, of %q", n, want, m)
		}
	}
}

func TestRankOfProduct(t *testing.T) {
	r := rand.New(rand.NewSource(8))
	for range 300 {
		rows, inner, columns := 1+r.Intn(8), 1+r.Intn(8), 1+r.Intn(8)
		a, b := some(r, rows, inner, 2), some(r, inner, columns, 2)
		if n := rank(t, product(t, a, b)); n > min(rank(t, a), rank(t, b)) {
			t.Fatalf("the Rank of the Product of %q and %q is %d", a, b, n)
		}
	}
}

// TestEverySquarePart asks P6.5: of small ones every part, of the greatest one some of each size.
func TestEverySquarePart(t *testing.T) {
	small := cauchy(t, 5, 6)
	for n := 1; n <= 5; n++ {
		for _, rows := range chosen(5, n) {
			for _, columns := range chosen(6, n) {
				checkInverse(t, part(small, rows, columns), true)
			}
		}
	}
	r := rand.New(rand.NewSource(9))
	great := cauchy(t, field.MaxSide, field.MaxSide)
	for n := 1; n <= field.MaxSide; n++ {
		for range 2 {
			rows, columns := r.Perm(field.MaxSide)[:n], r.Perm(field.MaxSide)[:n]
			slices.Sort(rows)
			slices.Sort(columns)
			checkInverse(t, part(great, rows, columns), true)
		}
	}
	for i := range field.MaxSide {
		for j := range i {
			if determinant(part(great, []int{j, i}, []int{j, i})) == 0 {
				t.Fatalf("the rows and columns %d and %d have no inverse", j, i)
			}
		}
	}
}

// TestApart asks R2 and R3: what is handed in stays, and what stands behind its end is not read; what is handed out is the caller's.
func TestApart(t *testing.T) {
	r := rand.New(rand.NewSource(10))
	behind := append(some(r, 3, 3, 256), "x", "yz", "")
	m, kept := behind[:3], slices.Clone(behind)
	calls := map[string]func() ([]string, api.Errno){
		"Unit":    func() ([]string, api.Errno) { return field.Unit(3) },
		"Product": func() ([]string, api.Errno) { return field.Product(m, m) },
		"Inverse": func() ([]string, api.Errno) { return field.Inverse(m) },
		"Cauchy":  func() ([]string, api.Errno) { return field.Cauchy(3, 3) },
	}
	for name, call := range calls {
		first, e := call()
		if e != api.OK || len(first) != 3 {
			t.Fatalf("%s: %q, %v", name, first, e)
		}
		want := slices.Clone(first)
		for i := range first[:cap(first)] {
			first[:cap(first)][i] = "written"
		}
		if second, e := call(); !slices.Equal(second, want) || e != api.OK {
			t.Errorf("%s: %q behind %q", name, second, want)
		}
	}
	if rank(t, m) != 3 || !slices.Equal(behind, kept) {
		t.Errorf("%q is %q by now", kept, behind)
	}
}

// FuzzMatrix asks of any list what holds of all matrices.
func FuzzMatrix(f *testing.F) {
	f.Add("\x01\x02\x00\x01", uint8(2), uint8(2))
	f.Add("\x01\x01\x01\x01", uint8(2), uint8(2))
	f.Add("abcdef", uint8(2), uint8(3))
	f.Add("", uint8(0), uint8(0))
	f.Fuzz(func(t *testing.T, s string, rows, columns uint8) {
		m := []string{}
		for range rows {
			n := min(int(columns), len(s))
			m, s = append(m, s[:n]), s[n:]
		}
		n, k, e := field.Check(m)
		number, other := field.Rank(m)
		if e != other || e == api.OK && (n != len(m) || k != len(m[0]) || number < 0 || number > min(n, k)) {
			t.Fatalf("Check %d, %d, %v; Rank %d, %v", n, k, e, number, other)
		}
		if e != api.OK {
			return
		}
		if rank(t, turned(m)) != number {
			t.Fatalf("Rank %d, turned %d", number, rank(t, turned(m)))
		}
		if !slices.Equal(product(t, m, turned(m)), multiplied(m, turned(m))) {
			t.Fatalf("the Product of %q with itself turned", m)
		}
		if n == k {
			checkInverse(t, m, number == n)
		}
	})
}
