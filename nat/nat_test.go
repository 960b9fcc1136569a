package nat

import (
	"math"
	"math/big"
	"slices"
	"testing"

	"sieveholes/api"
)

const most = math.MaxUint64

// asBig is what limbs mean, reckoned by the library.
func asBig(limbs []uint64) *big.Int {
	sum := new(big.Int)
	for i := len(limbs) - 1; i >= 0; i-- {
		sum.Lsh(sum, 64)
		sum.Or(sum, new(big.Int).SetUint64(limbs[i]))
	}
	return sum
}

// fromBig are the limbs of a number, as nat tells them.
func fromBig(n *big.Int) []uint64 {
	var limbs []uint64
	low := new(big.Int).SetUint64(most)
	for n = new(big.Int).Set(n); n.Sign() > 0; n.Rsh(n, 64) {
		limbs = append(limbs, new(big.Int).And(n, low).Uint64())
	}
	return limbs
}

// repeated are n limbs that are all the same.
func repeated(limb uint64, n int) []uint64 { return slices.Repeat([]uint64{limb}, n) }

// samples are all rows of up to three limbs at the edges, and some long ones.
func samples() [][]uint64 {
	rows := [][]uint64{nil}
	for from, length := 0, 0; length < 3; length++ {
		upTo := len(rows)
		for _, row := range rows[from:upTo] {
			for _, limb := range []uint64{0, 1, 1 << 63, most} {
				rows = append(rows, append(slices.Clone(row), limb))
			}
		}
		from = upTo
	}
	return append(rows, repeated(most, 40), append(repeated(0, 40), 1), []uint64{3, 1 << 32, 5, 7, 0, 11, 1<<32 - 1}, repeated(0, 9))
}

// few are enough of the samples to go over them by threes.
func few() []Nat {
	return []Nat{{}, Of(1), Of(2), Of(1 << 32), Of(most), Limbs(0, 1), Limbs(most, most), Limbs(5, 0, 1<<63), Limbs(repeated(most, 7)...)}
}

func hasLimbs(t *testing.T, what string, n Nat, want []uint64) {
	t.Helper()
	if !slices.Equal(n.All(), want) || n.Len() != len(want) {
		t.Errorf("%s: limbs %v, Len %d; want %v", what, n.All(), n.Len(), want)
	}
	if len(want) == 0 && n.limbs != nil {
		t.Errorf("%s: a 0 that is not the zero value", what)
	}
}

// P1.1

func TestOf(t *testing.T) {
	hasLimbs(t, "0", Of(0), nil)
	for _, n := range []uint64{1, 2, 255, 1 << 32, 1 << 63, most} {
		hasLimbs(t, "Of", Of(n), []uint64{n})
		if s, ok := Of(n).Small(); s != n || !ok {
			t.Errorf("Of(%d): Small %d, %v", n, s, ok)
		}
	}
}

func TestLimbs(t *testing.T) {
	for _, x := range []struct{ given, want []uint64 }{
		{nil, nil},
		{[]uint64{}, nil},
		{[]uint64{0}, nil},
		{repeated(0, 100), nil},
		{[]uint64{7}, []uint64{7}},
		{[]uint64{7, 0, 0}, []uint64{7}},
		{[]uint64{0, 0, 7}, []uint64{0, 0, 7}},
		{[]uint64{1, 0, 2, 0, 3, 0}, []uint64{1, 0, 2, 0, 3}},
		{append(repeated(most, 50), 0), repeated(most, 50)},
	} {
		hasLimbs(t, "Limbs", Limbs(x.given...), x.want)
	}
	hasLimbs(t, "Limbs of nothing", Limbs(), nil)
}

func TestSmall(t *testing.T) {
	for _, x := range []struct {
		n    Nat
		want uint64
		ok   bool
	}{
		{Nat{}, 0, true},
		{Limbs(0, 0), 0, true},
		{Limbs(most), most, true},
		{Limbs(9, 0), 9, true},
		{Limbs(0, 1), 0, false},
		{Limbs(5, 1), 0, false},
		{Limbs(5, 0, 1), 0, false},
	} {
		if s, ok := x.n.Small(); s != x.want || ok != x.ok {
			t.Errorf("Small of %v: %d, %v", x.n.All(), s, ok)
		}
	}
}

// P1.2

func TestCmp(t *testing.T) {
	for _, a := range samples() {
		for _, b := range samples() {
			if got, want := Cmp(Limbs(a...), Limbs(b...)), asBig(a).Cmp(asBig(b)); got != want {
				t.Errorf("Cmp of %v, %v: %d", a, b, got)
			}
		}
	}
	for _, x := range []struct {
		a, b Nat
		want int
	}{
		{Nat{}, Nat{}, 0},
		{Nat{}, Of(1), -1},
		{Limbs(0, 1), Of(most), 1},
		{Limbs(9, 1), Limbs(1, 2), -1},
		{Limbs(9, 1, 5), Limbs(1, 2, 5), -1},
		{Limbs(2, 2), Limbs(1, 2), 1},
		{Limbs(5, 0, 0), Of(5), 0},
	} {
		if got := Cmp(x.a, x.b); got != x.want {
			t.Errorf("Cmp of %v, %v: %d", x.a.All(), x.b.All(), got)
		}
	}
}

func TestMax(t *testing.T) {
	small, middle, great := Of(most), Limbs(7, 1), Limbs(0, 2)
	for _, l := range [][]Nat{{small, middle, great}, {small, great, middle}, {great, small, middle}, {great, great}, {{}, great, {}}, {great}} {
		hasLimbs(t, "Max", Max(l...), []uint64{0, 2})
	}
	hasLimbs(t, "Max of none", Max(), nil)
	hasLimbs(t, "Max of noughts", Max(Nat{}, Limbs(0, 0)), nil)
	hasLimbs(t, "Max of 0 and 1", Max(Nat{}, Of(1)), []uint64{1})
}

// P1.3

func TestAddAndMulAndSub(t *testing.T) {
	for _, x := range samples() {
		for _, y := range samples() {
			a, b := Limbs(x...), Limbs(y...)
			hasLimbs(t, "Add", Add(a, b), fromBig(new(big.Int).Add(asBig(x), asBig(y))))
			hasLimbs(t, "Mul", Mul(a, b), fromBig(new(big.Int).Mul(asBig(x), asBig(y))))
			difference := new(big.Int).Sub(asBig(x), asBig(y))
			want := api.OK
			if difference.Sign() < 0 {
				difference, want = new(big.Int), api.ErrLess
			}
			d, e := Sub(a, b)
			hasLimbs(t, "Sub", d, fromBig(difference))
			if e != want {
				t.Errorf("Sub of %v, %v: error %d", x, y, e)
			}
		}
	}
}

func TestExamples(t *testing.T) {
	hasLimbs(t, "2^64 - 1 and 1", Add(Of(most), Of(1)), []uint64{0, 1})
	hasLimbs(t, "(2^64 - 1)^2", Mul(Of(most), Of(most)), []uint64{1, most - 1})
	if d, e := Sub(Of(5), Of(7)); d.Len() != 0 || e != api.ErrLess {
		t.Errorf("5 less 7: %v, %d", d.All(), e)
	}
	if s, ok := Cap(1).Add(Of(most), Of(1)); s.Len() != 0 || ok {
		t.Errorf("2^64 - 1 and 1, cap 1: %v, %v", s.All(), ok)
	}
}

func TestCarriesThroughManyLimbs(t *testing.T) {
	long, next := Limbs(repeated(most, 1000)...), Limbs(append(repeated(0, 1000), 1)...)
	hasLimbs(t, "Add", Add(long, Of(1)), next.All())
	hasLimbs(t, "Add", Add(Of(1), long), next.All())
	d, e := Sub(next, Of(1))
	hasLimbs(t, "Sub", d, long.All())
	if e != api.OK {
		t.Errorf("Sub: error %d", e)
	}
	square := append(append(append([]uint64{1}, repeated(0, 999)...), most-1), repeated(most, 999)...)
	hasLimbs(t, "Mul", Mul(long, long), square)
}

func TestSubBelowNought(t *testing.T) {
	for _, x := range [][2]Nat{{{}, Of(1)}, {Of(6), Of(7)}, {Of(most), Limbs(0, 1)}, {Limbs(most, 1), Limbs(0, 2)}, {Limbs(4, 2), Limbs(5, 2)}} {
		if d, e := Sub(x[0], x[1]); d.limbs != nil || e != api.ErrLess {
			t.Errorf("%v less %v: %v, %d", x[0].All(), x[1].All(), d.All(), e)
		}
		if _, e := Sub(x[1], x[0]); e != api.OK {
			t.Errorf("%v less %v: %d", x[1].All(), x[0].All(), e)
		}
	}
	if d, e := Sub(Limbs(3, 4), Limbs(3, 4)); d.limbs != nil || e != api.OK {
		t.Errorf("a number less itself: %v, %d", d.All(), e)
	}
}

func TestSum(t *testing.T) {
	hasLimbs(t, "Sum of none", Sum(), nil)
	hasLimbs(t, "Sum of noughts", Sum(Nat{}, Nat{}), nil)
	hasLimbs(t, "Sum of one", Sum(Limbs(4, 5)), []uint64{4, 5})
	hasLimbs(t, "Sum of some", Sum(Of(most), Of(1), Limbs(0, 2), Nat{}, Of(most)), []uint64{most, 3})
	want := new(big.Int)
	var all []Nat
	for _, x := range samples() {
		want.Add(want, asBig(x))
		all = append(all, Limbs(x...))
	}
	hasLimbs(t, "Sum of the samples", Sum(all...), fromBig(want))
}

// P1.4

func TestFits(t *testing.T) {
	for _, x := range []struct {
		c     Cap
		limbs int
		want  bool
	}{
		{math.MinInt, 0, true}, {math.MinInt, 1, false}, {-1, 0, true}, {-1, 1, false}, {0, 0, true}, {0, 1, false},
		{1, 0, true}, {1, 1, true}, {1, 2, false}, {7, 7, true}, {7, 8, false}, {math.MaxInt, 0, true}, {math.MaxInt, 99, true},
	} {
		if got := x.c.Fits(Limbs(repeated(1, x.limbs)...)); got != x.want {
			t.Errorf("cap %d, %d limbs: %v", x.c, x.limbs, got)
		}
	}
	if !Cap(1).Fits(Limbs(1, 0, 0)) {
		t.Error("noughts at the end are counted")
	}
}

func TestCapAddAndMul(t *testing.T) {
	for _, c := range []Cap{math.MinInt, -2, -1, 0, 1, 2, 3, 4, 5, 41, math.MaxInt} {
		for _, x := range samples() {
			for _, y := range samples() {
				a, b := Limbs(x...), Limbs(y...)
				sum, added := c.Add(a, b)
				underCap(t, c, "Add", sum, added, Add(a, b))
				product, multiplied := c.Mul(a, b)
				underCap(t, c, "Mul", product, multiplied, Mul(a, b))
			}
		}
	}
}

// underCap holds what a cap answered against the number without a cap.
func underCap(t *testing.T, c Cap, what string, got Nat, ok bool, whole Nat) {
	t.Helper()
	if fits := whole.Len() <= max(int(c), 0); ok != fits {
		t.Errorf("cap %d: %s, that is %v: %v", c, what, whole.All(), ok)
	} else if fits {
		hasLimbs(t, what, got, whole.All())
	} else {
		hasLimbs(t, what, got, nil)
	}
}

func TestCapEdges(t *testing.T) {
	for _, x := range []struct {
		c        Cap
		a, b     Nat
		add, mul bool
	}{
		{0, Nat{}, Nat{}, true, true},
		{-5, Nat{}, Nat{}, true, true},
		{-5, Limbs(1, 2, 3), Nat{}, false, true},
		{1, Of(most), Of(1), false, true},
		{1, Of(most - 1), Of(1), true, true},
		{1, Of(1 << 32), Of(1 << 32), true, false},
		{1, Of(1 << 32), Of(1<<32 - 1), true, true},
		{2, Limbs(0, 1), Limbs(0, 1), true, false},
		{3, Limbs(0, 1), Limbs(0, 1), true, true},
		{3, Limbs(0, 1<<32), Limbs(0, 1<<32), true, false},
		{2, Limbs(most, most), Of(1), false, true},
	} {
		_, added := x.c.Add(x.a, x.b)
		_, multiplied := x.c.Mul(x.a, x.b)
		if added != x.add || multiplied != x.mul {
			t.Errorf("cap %d of %v, %v: %v, %v", x.c, x.a.All(), x.b.All(), added, multiplied)
		}
	}
}

// P1.5

func TestZeroValue(t *testing.T) {
	var zero, five Nat = Nat{}, Of(5)
	hasLimbs(t, "the zero value", zero, nil)
	if Cmp(zero, Of(0)) != 0 || Cmp(zero, Limbs(0)) != 0 || Cmp(zero, Of(1)) != -1 {
		t.Error("the zero value is not 0")
	}
	hasLimbs(t, "5 and 0", Add(five, zero), []uint64{5})
	hasLimbs(t, "0 times 5", Mul(zero, five), nil)
	if d, e := Sub(five, zero); e != api.OK || Cmp(d, five) != 0 {
		t.Error("5 less 0")
	}
}

func TestLimbsKeepsNothing(t *testing.T) {
	memory := []uint64{1, 2, 0, 0, 77, 88}
	n := Limbs(memory[:4]...)
	if !slices.Equal(memory, []uint64{1, 2, 0, 0, 77, 88}) {
		t.Errorf("Limbs wrote: %v", memory)
	}
	for i := range memory {
		memory[i] = 99
	}
	hasLimbs(t, "after what was handed in is written over", n, []uint64{1, 2})
}

func TestAllIsNewMemory(t *testing.T) {
	n := Limbs(1, 2, 3)
	first, second := n.All(), n.All()
	first[0] = 50
	_ = append(first[:1], 60, 70, 80)
	hasLimbs(t, "after its limbs are written over", n, []uint64{1, 2, 3})
	if !slices.Equal(second, []uint64{1, 2, 3}) {
		t.Errorf("two answers share memory: %v", second)
	}
}

func TestListsAreOnlyRead(t *testing.T) {
	for name, call := range map[string]func(...Nat) Nat{"Max": Max, "Sum": Sum} {
		memory := []Nat{Of(3), Limbs(0, 9), Of(1), Of(2), Of(12)}
		n := call(memory[:3]...)
		want := n.All()
		for i, limbs := range [][]uint64{{3}, {0, 9}, {1}, {2}, {12}} {
			hasLimbs(t, name+" wrote", memory[i], limbs)
		}
		clear(memory)
		hasLimbs(t, name+" kept its list", n, want)
	}
}

func TestNumbersShareNoMemory(t *testing.T) {
	for _, x := range few() {
		for _, y := range few() {
			before := [][]uint64{x.All(), y.All()}
			answers := []Nat{Limbs(x.limbs...), Max(x), Max(x, y), Add(x, y), Mul(x, y), Sum(x), Sum(x, y), Add(x, Nat{}), Mul(x, Of(1))}
			difference, _ := Sub(x, y)
			whole, _ := Sub(x, Nat{})
			sum, _ := Cap(9).Add(x, Nat{})
			product, _ := Cap(9).Mul(Of(1), x)
			for _, n := range append(answers, difference, whole, sum, product) {
				for i := range n.limbs {
					n.limbs[i] ^= most
				}
			}
			hasLimbs(t, "the first one", x, before[0])
			hasLimbs(t, "the second one", y, before[1])
		}
	}
}

// P1.6

func same(t *testing.T, what string, a, b Nat) {
	t.Helper()
	if Cmp(a, b) != 0 || !slices.Equal(a.All(), b.All()) {
		t.Errorf("%s: %v, %v", what, a.All(), b.All())
	}
}

func TestLawsOfThree(t *testing.T) {
	for _, a := range few() {
		for _, b := range few() {
			same(t, "sums hang on no order", Add(a, b), Add(b, a))
			same(t, "products hang on no order", Mul(a, b), Mul(b, a))
			same(t, "the greatest hangs on no order", Max(a, b), Max(b, a))
			d, e := Sub(Add(a, b), b)
			same(t, "what is added may be taken away", d, a)
			if e != api.OK {
				t.Errorf("what is added may not be taken away: %d", e)
			}
			for _, c := range few() {
				same(t, "sums of three", Add(Add(a, b), c), Add(a, Add(b, c)))
				same(t, "products of three", Mul(Mul(a, b), c), Mul(a, Mul(b, c)))
				same(t, "a product of a sum", Mul(a, Add(b, c)), Add(Mul(a, b), Mul(a, c)))
				same(t, "Sum", Sum(a, b, c), Sum(c, a, b))
			}
		}
	}
}

// TestCmpHangsOnTheValue makes each number in several ways.
func TestCmpHangsOnTheValue(t *testing.T) {
	for _, n := range few() {
		above := Add(n, Of(1))
		less, _ := Sub(above, Of(1))
		made := []Nat{n, Limbs(n.All()...), Limbs(append(n.All(), 0, 0)...), less, Mul(n, Of(1)), Sum(Nat{}, n), Max(n, n)}
		for _, a := range made {
			for _, b := range made {
				same(t, "made in another way", a, b)
			}
			if Cmp(a, above) != -1 || Cmp(above, a) != 1 {
				t.Errorf("%v is not just below %v", a.All(), above.All())
			}
		}
	}
}
