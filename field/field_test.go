package field_test

import (
	"math"
	"math/bits"
	"testing"

	"muniment/api"
	"muniment/field"
)

// products are those of every two numbers, reckoned once.
var products = func() (l [256][256]uint8) {
	for a := range l {
		for b := range l[a] {
			l[a][b] = reckoned(uint8(a), uint8(b))
		}
	}
	return l
}()

func times(a, b uint8) uint8 { return products[a][b] }

// reckoned is the product by the chapter's words: polynomials are multiplied, and then the rest by 11D is taken.
func reckoned(a, b uint8) uint8 {
	product := uint(0)
	for bit := range 8 {
		if b>>bit&1 == 1 {
			product ^= uint(a) << bit
		}
	}
	for bits.Len(product) > 8 {
		product ^= 0x11d << (bits.Len(product) - 9)
	}
	return uint8(product)
}

// inverses are sought, not reckoned.
func inverses() [256]uint8 {
	var l [256]uint8
	for a := range 256 {
		for b := range 256 {
			if times(uint8(a), uint8(b)) == 1 {
				l[a] = uint8(b)
			}
		}
	}
	return l
}

func over(t *testing.T, a, b uint8) uint8 {
	t.Helper()
	q, e := field.Over(a, b)
	if e != api.OK {
		t.Fatalf("Over(%d, %d): %v", a, b, e)
	}
	return q
}

func power(t *testing.T, a uint8, n int) uint8 {
	t.Helper()
	p, e := field.Power(a, n)
	if e != api.OK {
		t.Fatalf("Power(%d, %d): %v", a, n, e)
	}
	return p
}

func TestExamplesOfNumbers(t *testing.T) {
	if p := field.Times(2, 128); p != 29 {
		t.Errorf("Times(2, 128) is %d", p)
	}
	if q := over(t, 1, 2); q != 142 {
		t.Errorf("Over(1, 2) is %d", q)
	}
	if q, e := field.Over(1, 0); q != 0 || e != api.ErrArg {
		t.Errorf("Over(1, 0) is %d, %v", q, e)
	}
	for _, x := range []struct {
		a    uint8
		n    int
		want uint8
	}{{2, 8, 29}, {2, -1, 142}, {0, 0, 1}} {
		if p := power(t, x.a, x.n); p != x.want {
			t.Errorf("Power(%d, %d) is %d, want %d", x.a, x.n, p, x.want)
		}
	}
	if p, e := field.Power(0, -1); p != 0 || e != api.ErrArg {
		t.Errorf("Power(0, -1) is %d, %v", p, e)
	}
}

// TestTwoNumbers asks every two.
func TestTwoNumbers(t *testing.T) {
	inverse := inverses()
	for i := range 256 {
		for j := range 256 {
			a, b := uint8(i), uint8(j)
			if s := field.Plus(a, b); s != a^b {
				t.Fatalf("Plus(%d, %d) is %d", a, b, s)
			}
			if p := field.Times(a, b); p != times(a, b) {
				t.Fatalf("Times(%d, %d) is %d, want %d", a, b, p, times(a, b))
			}
			q, e := field.Over(a, b)
			if b == 0 && (q != 0 || e != api.ErrArg) {
				t.Fatalf("Over(%d, 0) is %d, %v", a, q, e)
			}
			if b != 0 && (q != times(a, inverse[b]) || e != api.OK) {
				t.Fatalf("Over(%d, %d) is %d, %v", a, b, q, e)
			}
		}
	}
}

// TestPowers goes on from one power to the next, upward and downward.
func TestPowers(t *testing.T) {
	inverse := inverses()
	for i := 1; i < 256; i++ {
		a, up, down := uint8(i), uint8(1), uint8(1)
		for n := range 1200 {
			if p := power(t, a, n); p != up {
				t.Fatalf("Power(%d, %d) is %d, want %d", a, n, p, up)
			}
			if p := power(t, a, -n); p != down {
				t.Fatalf("Power(%d, %d) is %d, want %d", a, -n, p, down)
			}
			up, down = times(up, a), times(down, inverse[a])
		}
	}
}

// farthest are numbers at the ends of int, and some between.
func farthest() []int {
	return []int{math.MinInt, math.MinInt + 1, math.MinInt32, -256, -255, -254, 254, 255, 256, math.MaxInt32, math.MaxInt - 1, math.MaxInt}
}

func TestFarPowers(t *testing.T) {
	for _, n := range farthest() {
		near := (n%255 + 255) % 255
		for a := 1; a < 256; a++ {
			if p, want := power(t, uint8(a), n), power(t, uint8(a), near); p != want {
				t.Errorf("Power(%d, %d) is %d, want %d", a, n, p, want)
			}
		}
	}
}

func TestPowersOfZero(t *testing.T) {
	for _, n := range append(farthest(), -2, -1, 0, 1, 2, 510) {
		p, e := field.Power(0, n)
		if n < 0 && (p != 0 || e != api.ErrArg) || n == 0 && (p != 1 || e != api.OK) || n > 0 && (p != 0 || e != api.OK) {
			t.Errorf("Power(0, %d) is %d, %v", n, p, e)
		}
	}
}

// TestField asks P6.3 of every two numbers and of every three.
func TestField(t *testing.T) {
	var all [256][256]uint8
	for a := range all {
		for b := range all[a] {
			all[a][b] = field.Times(uint8(a), uint8(b))
		}
	}
	for i := range 256 {
		for j := range 256 {
			a, b := uint8(i), uint8(j)
			product := field.Times(a, b)
			if field.Plus(a, b) != field.Plus(b, a) || product != field.Times(b, a) {
				t.Fatalf("%d and %d: the order is seen", a, b)
			}
			if b != 0 && over(t, product, b) != a {
				t.Fatalf("Over does not undo %d times %d", a, b)
			}
			if b != 0 && field.Times(over(t, a, b), b) != a {
				t.Fatalf("Over(%d, %d), times %d, is not %d", a, b, b, a)
			}
			for k := range 256 {
				c := uint8(k)
				if all[product][c] != all[a][all[b][c]] {
					t.Fatalf("%d, %d, %d: Times hangs on which two go first", a, b, c)
				}
				if all[field.Plus(a, b)][c] != field.Plus(all[a][c], all[b][c]) {
					t.Fatalf("%d, %d, %d: Times does not go over Plus", a, b, c)
				}
			}
		}
	}
}

func TestPowersTogether(t *testing.T) {
	for a := 1; a < 256; a++ {
		for n := -300; n <= 300; n += 17 {
			for m := -300; m <= 300; m += 31 {
				if power(t, uint8(a), n+m) != field.Times(power(t, uint8(a), n), power(t, uint8(a), m)) {
					t.Fatalf("Power of %d by %d and %d together", a, n, m)
				}
			}
		}
	}
}

// TestRound asks P6.6.
func TestRound(t *testing.T) {
	for a := 1; a < 256; a++ {
		if p := power(t, uint8(a), 255); p != 1 {
			t.Errorf("Power(%d, 255) is %d", a, p)
		}
		for n := -260; n < 260; n++ {
			if power(t, uint8(a), n) != power(t, uint8(a), n+255) {
				t.Fatalf("the powers of %d do not go round from %d on", a, n)
			}
		}
	}
	var met [256]int
	for n := range 255 {
		met[power(t, 2, n)]++
	}
	for a, times := range met {
		if times != min(a, 1) {
			t.Errorf("of the powers of 2, %d are %d", times, a)
		}
	}
}

func TestPowersOfSums(t *testing.T) {
	for i := range 256 {
		for j := range 256 {
			a, b := uint8(i), uint8(j)
			for n := 2; n <= 128; n *= 2 {
				if power(t, a^b, n) != power(t, a, n)^power(t, b, n) {
					t.Fatalf("the power %d of %d and %d", n, a, b)
				}
			}
		}
	}
}
