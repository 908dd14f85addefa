package fixed_test

import (
	"math"
	"math/big"
	"testing"

	"gauntlet/fixed"
)

const (
	one      = 65536
	greatest = math.MaxInt32
	least    = math.MinInt32
)

// edges are the ends, and what lies beside 0, the powers of two and some whole numbers.
func edges() []int32 {
	l := []int32{least, least + 1, greatest - 1, greatest, 0}
	for k := range 31 {
		for d := int32(-1); d <= 1; d++ {
			l = append(l, 1<<k+d, -(1<<k + d))
		}
	}
	for _, n := range []int32{3, 5, 7, 10, 181, 182, 1000, 32767} {
		l = append(l, n, -n, n*one, -n*one, n*one-1, 1-n*one, n*one+1, -1-n*one)
	}
	return l
}

// drawn is a row of numbers that look drawn by chance, the same each time.
type drawn uint64

// next has as many great numbers as small ones.
func (d *drawn) next() int32 {
	*d = *d*6364136223846793005 + 1442695040888963407
	return int32(*d>>32) >> (uint64(*d) >> 27 % 32)
}

func (d *drawn) below(n int) int {
	*d = *d*6364136223846793005 + 1442695040888963407
	return int(uint64(*d)>>33) % n
}

func held(n *big.Int) int32 {
	switch {
	case n.Cmp(big.NewInt(greatest)) > 0:
		return greatest
	case n.Cmp(big.NewInt(least)) < 0:
		return least
	}
	return int32(n.Int64())
}

// way is one of the four, and what P8.1 says of it in numbers that have no end.
type way struct {
	name string
	do   func(a, b int32) int32
	want func(a, b *big.Int) *big.Int
}

func ways() []way {
	return []way{
		{"Add", fixed.Add, func(a, b *big.Int) *big.Int { return new(big.Int).Add(a, b) }},
		{"Sub", fixed.Sub, func(a, b *big.Int) *big.Int { return new(big.Int).Sub(a, b) }},
		{"Mul", fixed.Mul, wantMul},
		{"Div", fixed.Div, wantDiv},
	}
}

// wantMul: big's Div by a number above 0 goes towards the lesser one.
func wantMul(a, b *big.Int) *big.Int {
	n := new(big.Int).Mul(a, b)
	return n.Div(n, big.NewInt(one))
}

// wantDiv: big's Quo goes towards 0.
func wantDiv(a, b *big.Int) *big.Int {
	if b.Sign() == 0 {
		return big.NewInt(int64(a.Sign()) << 40)
	}
	n := new(big.Int).Mul(a, big.NewInt(one))
	return n.Quo(n, b)
}

func (w way) try(t *testing.T, a, b int32) {
	t.Helper()
	want := held(w.want(big.NewInt(int64(a)), big.NewInt(int64(b))))
	if got := w.do(a, b); got != want {
		t.Fatalf("%s(%d, %d): got %d, want %d", w.name, a, b, got, want)
	}
}

// P8.1

func TestTheFourByHand(t *testing.T) {
	for _, x := range []struct {
		name       string
		do         func(a, b int32) int32
		a, b, want int32
	}{
		{"Add", fixed.Add, 98304, -32768, one},
		{"Add", fixed.Add, -5, -7, -12},
		{"Add, to the greatest", fixed.Add, greatest - 1, 1, greatest},
		{"Add, 1 beyond it", fixed.Add, greatest, 1, greatest},
		{"Add, of the greatest", fixed.Add, greatest, greatest, greatest},
		{"Add, to the least", fixed.Add, least + 1, -1, least},
		{"Add, 1 beyond it", fixed.Add, least, -1, least},
		{"Add, of the least", fixed.Add, least, least, least},
		{"Add, of both ends", fixed.Add, least, greatest, -1},
		{"Sub", fixed.Sub, 98304, -32768, 131072},
		{"Sub", fixed.Sub, 3, 10, -7},
		{"Sub, of the least from 0", fixed.Sub, 0, least, greatest},
		{"Sub, of the least from -1", fixed.Sub, -1, least, greatest},
		{"Sub, of the greatest from 0", fixed.Sub, 0, greatest, least + 1},
		{"Sub, to the least", fixed.Sub, -1, greatest, least},
		{"Sub, 1 beyond it", fixed.Sub, -2, greatest, least},
		{"Sub, of both ends", fixed.Sub, greatest, least, greatest},
		{"Sub, of both ends", fixed.Sub, least, greatest, least},
		{"Sub, of the least", fixed.Sub, least, least, 0},
		{"Mul of the example", fixed.Mul, 98304, 98304, 147456},
		{"Mul by one", fixed.Mul, least, one, least},
		{"Mul by one below 0", fixed.Mul, greatest, -one, least + 1},
		{"Mul, beyond the greatest by 1", fixed.Mul, least, -one, greatest},
		{"Mul by 0", fixed.Mul, least, 0, 0},
		{"Mul, just below 1", fixed.Mul, 1, one - 1, 0},
		{"Mul, just below 0", fixed.Mul, 1, -1, -1},
		{"Mul, just above -1", fixed.Mul, -1, one - 1, -1},
		{"Mul, just -1", fixed.Mul, -1, one, -1},
		{"Mul, just below -1", fixed.Mul, -1, one + 1, -2},
		{"Mul, of two below 0", fixed.Mul, -3, -one + 1, 2},
		{"Mul, of the least", fixed.Mul, least, least, greatest},
		{"Mul, of the greatest", fixed.Mul, greatest, greatest, greatest},
		{"Mul, of both ends", fixed.Mul, greatest, least, least},
		{"Div", fixed.Div, 147456, 98304, 98304},
		{"Div, not whole", fixed.Div, 2 * one, 3 * one, 43690},
		{"Div, not whole, below 0", fixed.Div, -2 * one, 3 * one, -43690},
		{"Div, not whole, by one below 0", fixed.Div, 2 * one, -3 * one, -43690},
		{"Div, not whole, both below 0", fixed.Div, -2 * one, -3 * one, 43690},
		{"Div, between 0 and 1", fixed.Div, 1, one + 1, 0},
		{"Div, between -1 and 0", fixed.Div, -1, one + 1, 0},
		{"Div by one", fixed.Div, least, one, least},
		{"Div by one below 0", fixed.Div, least, -one, greatest},
		{"Div, beyond the greatest by 1", fixed.Div, 32768, 1, greatest},
		{"Div, just the least", fixed.Div, -32768, 1, least},
		{"Div, beyond the least", fixed.Div, -32769, 1, least},
		{"Div, of both ends", fixed.Div, greatest, least, -65535},
		{"Div, of both ends", fixed.Div, least, greatest, -65536},
		{"Div, 0 by something", fixed.Div, 0, -7, 0},
		{"Div by 0, 1", fixed.Div, 1, 0, greatest},
		{"Div by 0, the greatest", fixed.Div, greatest, 0, greatest},
		{"Div by 0, -1", fixed.Div, -1, 0, least},
		{"Div by 0, the least", fixed.Div, least, 0, least},
		{"Div by 0, 0", fixed.Div, 0, 0, 0},
	} {
		if got := x.do(x.a, x.b); got != x.want {
			t.Errorf("%s (%d, %d): got %d, want %d", x.name, x.a, x.b, got, x.want)
		}
	}
}

func TestTheFourAtEdges(t *testing.T) {
	for _, w := range ways() {
		for _, a := range edges() {
			for _, b := range edges() {
				w.try(t, a, b)
			}
		}
	}
}

func TestTheFourOfSmallNumbers(t *testing.T) {
	for _, w := range ways() {
		for a := int32(-40); a <= 40; a++ {
			for b := int32(-40); b <= 40; b++ {
				w.try(t, a, b)
				w.try(t, a*one/8, b*one/8)
				w.try(t, a, b*one/8)
				w.try(t, a*one/8, b)
			}
		}
	}
}

func TestTheFourOfDrawnNumbers(t *testing.T) {
	d := drawn(8)
	for range 50000 {
		a, b := d.next(), d.next()
		for _, w := range ways() {
			w.try(t, a, b)
		}
	}
}

func root(t *testing.T, a int32) {
	t.Helper()
	want := new(big.Int)
	if a > 0 {
		want.Sqrt(big.NewInt(int64(a) * one))
	}
	if got := fixed.Root(a); int64(got) != want.Int64() {
		t.Fatalf("Root(%d): got %d, want %d", a, got, want)
	}
}

func TestRootByHand(t *testing.T) {
	for a, want := range map[int32]int32{
		least: 0, -one: 0, -1: 0, 0: 0,
		1: 256, 2: 362, 3: 443, 4: 512,
		one - 1: one - 1, one: one, one + 1: one,
		2 * one: 92681, 4*one - 1: 2*one - 1, 4 * one: 2 * one, 9 * one: 3 * one,
		181 * 181: 181 * 256, greatest - 1: 11863283, greatest: 11863283,
	} {
		if got := fixed.Root(a); got != want {
			t.Errorf("Root(%d): got %d, want %d", a, got, want)
		}
	}
}

func TestRoot(t *testing.T) {
	for _, a := range edges() {
		root(t, a)
	}
	for n := int32(1); n <= 46340; n++ { // squares, and what lies beside them
		root(t, n*n-1)
		root(t, n*n)
		root(t, min(n*n, greatest-1)+1)
	}
	d := drawn(9)
	for range 50000 {
		root(t, d.next())
	}
}

// P8.3

func TestAddAndMulTurnedRound(t *testing.T) {
	turned := func(a, b int32) {
		t.Helper()
		if x, y := fixed.Add(a, b), fixed.Add(b, a); x != y {
			t.Fatalf("Add of %d, %d: %d; turned round %d", a, b, x, y)
		}
		if x, y := fixed.Mul(a, b), fixed.Mul(b, a); x != y {
			t.Fatalf("Mul of %d, %d: %d; turned round %d", a, b, x, y)
		}
	}
	for _, a := range edges() {
		for _, b := range edges() {
			turned(a, b)
		}
	}
	d := drawn(10)
	for range 200000 {
		turned(d.next(), d.next())
	}
}
