package power

import (
	"math"
	"math/big"
	"slices"
	"testing"
	"time"

	"sieveholes/nat"
)

const most = math.MaxUint64

// asBig is what a number means, reckoned by the library.
func asBig(n nat.Nat) *big.Int {
	sum := new(big.Int)
	for _, limb := range slices.Backward(n.All()) {
		sum.Lsh(sum, 64)
		sum.Or(sum, new(big.Int).SetUint64(limb))
	}
	return sum
}

// length is how many limbs the library's number takes.
func length(n *big.Int) int { return (n.BitLen() + 63) / 64 }

// caps are those around a number's length, and those that hold nothing and everything.
func caps(length int) []nat.Cap {
	list := []nat.Cap{math.MinInt, -1, 0, 1, 2, 64, math.MaxInt}
	for c := length - 2; c <= length+1; c++ {
		list = append(list, nat.Cap(c))
	}
	return list
}

// underCap holds an answer against the whole number that is asked for.
func underCap(t *testing.T, what string, c nat.Cap, got nat.Nat, ok bool, whole *big.Int) {
	t.Helper()
	fits := length(whole) <= max(int(c), 0)
	if !fits {
		whole = new(big.Int)
	}
	if ok != fits || asBig(got).Cmp(whole) != 0 || got.Len() != length(whole) {
		t.Errorf("%s, cap %d: %v, %v; asked for %v, %v", what, c, got.All(), ok, whole, fits)
	}
}

func same(t *testing.T, what string, a, b nat.Nat) {
	t.Helper()
	if nat.Cmp(a, b) != 0 {
		t.Errorf("%s: %v and %v", what, a.All(), b.All())
	}
}

// must is the answer of a call of which no cap is in the way.
func must(n nat.Nat, ok bool) nat.Nat {
	if !ok {
		panic("it fits")
	}
	return n
}

const wide = nat.Cap(1 << 12)

// long is the greatest number of so many limbs.
func long(limbs int) nat.Nat { return nat.Limbs(slices.Repeat([]uint64{most}, limbs)...) }

// bases are small numbers, and those at the edges of limbs.
func bases() []nat.Nat {
	return []nat.Nat{{}, nat.Of(1), nat.Of(2), nat.Of(3), nat.Of(4), nat.Of(7), nat.Of(10), nat.Of(255), nat.Of(1 << 32), nat.Of(1<<32 + 1),
		nat.Of(1 << 63), nat.Of(most), nat.Limbs(0, 1), nat.Limbs(1, 1), nat.Limbs(most, most), nat.Limbs(5, 0, 1<<63), long(9)}
}

// exponents are small ones, and those at the edges of limbs, for two and for four.
func exponents() []uint64 {
	list := []uint64{31, 32, 33, 40, 41, 63, 64, 65, 100, 127, 128, 129}
	for n := range uint64(14) {
		list = append(list, n)
	}
	return list
}

// quickly fails a test of calls that do not answer in due time. What they take is far below a second.
func quickly(t *testing.T, what string, calls func()) {
	t.Helper()
	done := make(chan struct{})
	go func() {
		defer close(done)
		calls()
	}()
	select {
	case <-done:
	case <-time.After(20 * time.Second):
		t.Fatalf("%s: no answer", what)
	}
}

// P3.1: powers.

func TestPow(t *testing.T) {
	for _, a := range bases() {
		for _, n := range exponents() {
			whole := new(big.Int).Exp(asBig(a), new(big.Int).SetUint64(n), nil)
			for _, c := range caps(length(whole)) {
				got, ok := Pow(c, a, n)
				underCap(t, asBig(a).String()+"^"+new(big.Int).SetUint64(n).String(), c, got, ok, whole)
			}
		}
	}
}

func TestPowByHand(t *testing.T) {
	for _, x := range []struct {
		c    nat.Cap
		a    nat.Nat
		n    uint64
		want nat.Nat
		ok   bool
	}{
		{2, nat.Of(2), 64, nat.Limbs(0, 1), true},
		{2, nat.Of(2), 128, nat.Nat{}, false},
		{2, nat.Of(2), 127, nat.Limbs(0, 1<<63), true},
		{1, nat.Of(3), 40, nat.Of(12157665459056928801), true},
		{1, nat.Of(3), 41, nat.Nat{}, false},
		{1, nat.Of(1<<32 - 1), 2, nat.Of(18446744065119617025), true},
		{1, nat.Of(1 << 32), 2, nat.Nat{}, false},
		{2, nat.Of(most), 2, nat.Limbs(1, most-1), true},
		{1, nat.Of(most), 2, nat.Nat{}, false},
		{4, nat.Limbs(0, 1), 3, nat.Limbs(0, 0, 0, 1), true},
		{3, nat.Limbs(0, 1), 3, nat.Nat{}, false},
		{2, nat.Limbs(7, 9), 1, nat.Limbs(7, 9), true},
		{1, nat.Limbs(7, 9), 1, nat.Nat{}, false},
		{1, nat.Limbs(7, 9), 0, nat.Of(1), true},
		{0, nat.Limbs(7, 9), 0, nat.Nat{}, false},
	} {
		if got, ok := Pow(x.c, x.a, x.n); nat.Cmp(got, x.want) != 0 || ok != x.ok {
			t.Errorf("cap %d, %v, %d: %v, %v", x.c, x.a.All(), x.n, got.All(), ok)
		}
	}
}

func TestPowersOfNoughtAndOne(t *testing.T) {
	for _, c := range []nat.Cap{math.MinInt, -1, 0, 1, 2, math.MaxInt} {
		zeroth, ok := Pow(c, nat.Nat{}, 0)
		underCap(t, "0^0", c, zeroth, ok, big.NewInt(1))
		for _, n := range []uint64{1, 2, 3, 1 << 63, most - 1, most} {
			nought, ok := Pow(c, nat.Nat{}, n)
			underCap(t, "a power of 0", c, nought, ok, new(big.Int))
			one, ok := Pow(c, nat.Of(1), n)
			underCap(t, "a power of 1", c, one, ok, big.NewInt(1))
			sum, ok := Sum(c, nat.Nat{}, n)
			underCap(t, "a sum of powers of 0", c, sum, ok, big.NewInt(1))
		}
	}
}

// P3.1: sums of powers.

func TestSum(t *testing.T) {
	for _, a := range bases() {
		power, whole := big.NewInt(1), new(big.Int)
		for n := range uint64(70) {
			whole.Add(whole, power)
			power.Mul(power, asBig(a))
			for _, c := range caps(length(whole)) {
				got, ok := Sum(c, a, n)
				underCap(t, "the sum of "+asBig(a).String()+"^0 to ^"+new(big.Int).SetUint64(n).String(), c, got, ok, whole)
			}
		}
	}
}

func TestSumOfOnes(t *testing.T) {
	for _, n := range []uint64{0, 1, 2, 9, 1<<32 - 1, 1 << 63, most - 2, most - 1, most} {
		whole := new(big.Int).SetUint64(n)
		whole.Add(whole, big.NewInt(1))
		for _, c := range caps(length(whole)) {
			got, ok := Sum(c, nat.Of(1), n)
			underCap(t, whole.String()+" ones", c, got, ok, whole)
		}
	}
}

func TestSumByHand(t *testing.T) {
	for _, x := range []struct {
		c    nat.Cap
		a    nat.Nat
		n    uint64
		want nat.Nat
		ok   bool
	}{
		{1, nat.Of(3), 3, nat.Of(40), true},
		{1, nat.Of(1), most, nat.Nat{}, false},
		{2, nat.Of(1), most, nat.Limbs(0, 1), true},
		{1, nat.Of(1), most - 1, nat.Of(most), true},
		{1, nat.Of(2), 63, nat.Of(most), true},
		{1, nat.Of(2), 64, nat.Nat{}, false},
		{2, nat.Of(2), 64, nat.Limbs(most, 1), true},
		{2, nat.Of(most), 1, nat.Limbs(0, 1), true},
		{1, nat.Of(most), 1, nat.Nat{}, false}, // the last power fits, and the sum does not
		{1, nat.Of(most), 0, nat.Of(1), true},
		{2, nat.Limbs(most, most), 1, nat.Nat{}, false},
		{3, nat.Limbs(most, most), 1, nat.Limbs(0, 0, 1), true},
		{0, nat.Nat{}, 0, nat.Nat{}, false},
		{1, nat.Nat{}, 0, nat.Of(1), true},
	} {
		if got, ok := Sum(x.c, x.a, x.n); nat.Cmp(got, x.want) != 0 || ok != x.ok {
			t.Errorf("cap %d, %v, %d: %v, %v", x.c, x.a.All(), x.n, got.All(), ok)
		}
	}
}

// P3.1: powers of two.

func TestTwo(t *testing.T) {
	for n := range uint64(300) {
		whole := new(big.Int).Lsh(big.NewInt(1), uint(n))
		for _, c := range caps(length(whole)) {
			got, ok := Two(c, n)
			underCap(t, "2^"+new(big.Int).SetUint64(n).String(), c, got, ok, whole)
			power, fits := Pow(c, nat.Of(2), n)
			if fits != ok || nat.Cmp(power, got) != 0 {
				t.Errorf("2^%d, cap %d: %v, %v", n, c, power.All(), fits)
			}
		}
	}
	for _, c := range []nat.Cap{1, 2, 64, 1000} {
		end := 64 * uint64(c)
		within, ok := Two(c, end-1)
		underCap(t, "just within", c, within, ok, new(big.Int).Lsh(big.NewInt(1), uint(end-1)))
		past, ok := Two(c, end)
		underCap(t, "just past", c, past, ok, new(big.Int).Lsh(big.NewInt(1), uint(end)))
	}
}

// P3.1: products.

func TestProduct(t *testing.T) {
	var factors []nat.Nat
	whole := big.NewInt(1)
	for i := 0; ; i++ {
		for _, c := range caps(length(whole)) {
			got, ok := Product(c, factors...)
			underCap(t, "a product", c, got, ok, whole)
			turned := slices.Clone(factors)
			slices.Reverse(turned)
			got, ok = Product(c, turned...)
			underCap(t, "a product, turned round", c, got, ok, whole)
		}
		if i+1 == len(bases()) {
			return
		}
		factors = append(factors, bases()[i+1])
		whole.Mul(whole, asBig(bases()[i+1]))
	}
}

func TestProductOfNone(t *testing.T) {
	for _, c := range []nat.Cap{math.MinInt, -1, 0, 1, 2, math.MaxInt} {
		for _, none := range [][]nat.Nat{nil, {}} {
			got, ok := Product(c, none...)
			underCap(t, "a product of none", c, got, ok, big.NewInt(1))
		}
	}
}

func TestOnlyTheLastProductMustFit(t *testing.T) {
	great := nat.Of(1 << 40)
	for _, factors := range [][]nat.Nat{
		{{}},
		{{}, great, great},
		{great, {}, great},
		{great, great, {}},
		{great, great, great, {}, great, {}},
		{long(40), long(40), nat.Of(0)},
		{nat.Limbs(0, 0), nat.Of(1)},
	} {
		for _, c := range []nat.Cap{math.MinInt, -1, 0, 1, 2, math.MaxInt} {
			got, ok := Product(c, factors...)
			underCap(t, "a product with 0 among its factors", c, got, ok, new(big.Int))
		}
	}
	for _, x := range []struct {
		c       nat.Cap
		factors []nat.Nat
		ok      bool
	}{
		{1, []nat.Nat{great, great}, false},
		{2, []nat.Nat{great, great}, true},
		{1, []nat.Nat{great, nat.Of(1<<24 - 1)}, true},
		{1, []nat.Nat{great, nat.Of(1 << 24)}, false},
		{1, []nat.Nat{nat.Limbs(0, 1)}, false},
		{1, []nat.Nat{nat.Of(1), nat.Of(1), nat.Of(1)}, true},
		{0, []nat.Nat{nat.Of(1)}, false},
		{-1, []nat.Nat{nat.Of(1), great}, false},
	} {
		whole := big.NewInt(1)
		for _, f := range x.factors {
			whole.Mul(whole, asBig(f))
		}
		got, ok := Product(x.c, x.factors...)
		underCap(t, "a product", x.c, got, ok, whole)
		if ok != x.ok {
			t.Errorf("%v, cap %d: %v", whole, x.c, ok)
		}
	}
}

// P3.2: bits and logs.

func TestBitsAndLog(t *testing.T) {
	for _, x := range []struct {
		a         nat.Nat
		bits, log uint64
	}{
		{nat.Nat{}, 0, 0},
		{nat.Limbs(0, 0), 0, 0},
		{nat.Of(1), 1, 0},
		{nat.Of(2), 2, 1},
		{nat.Of(3), 2, 2},
		{nat.Of(4), 3, 2},
		{nat.Of(5), 3, 3},
		{nat.Of(255), 8, 8},
		{nat.Of(256), 9, 8},
		{nat.Of(257), 9, 9},
		{nat.Of(most), 64, 64},
		{nat.Limbs(0, 1), 65, 64},
		{nat.Limbs(1, 1), 65, 65},
		{nat.Limbs(0, 2), 66, 65},
		{nat.Limbs(0, 0, 1), 129, 128},
		{nat.Limbs(1, 0, 1), 129, 129},
		{long(64), 4096, 4096},
	} {
		if b, l := Bits(x.a), Log(x.a); b != x.bits || l != x.log {
			t.Errorf("%v: %d bits, log %d", x.a.All(), b, l)
		}
	}
	for e := uint64(2); e < 200; e++ {
		two := must(Two(wide, e))
		below, _ := nat.Sub(two, nat.Of(1))
		above := nat.Add(two, nat.Of(1))
		if Bits(below) != e || Bits(two) != e+1 || Bits(above) != e+1 {
			t.Errorf("the bits around 2^%d: %d, %d, %d", e, Bits(below), Bits(two), Bits(above))
		}
		if Log(below) != e || Log(two) != e || Log(above) != e+1 {
			t.Errorf("the logs around 2^%d: %d, %d, %d", e, Log(below), Log(two), Log(above))
		}
	}
	for _, a := range bases() {
		if want := asBig(a).BitLen(); Bits(a) != uint64(want) {
			t.Errorf("%v: %d bits", a.All(), Bits(a))
		}
	}
}

// P3.3: an answer comes quickly, and shares nothing.

func TestWhatCannotFitIsNotMultipliedOut(t *testing.T) {
	for _, c := range []nat.Cap{math.MinInt, 0, 1, 16, 64, 1 << 10, 1 << 20, 1 << 25, math.MaxInt} {
		quickly(t, "the greatest exponents", func() {
			for _, n := range []uint64{1 << 40, 1 << 62, 1 << 63, most - 1, most} {
				for _, a := range bases()[2:] {
					if got, ok := Pow(c, a, n); ok || got.Len() != 0 {
						t.Errorf("cap %d, %v, %d: %v, %v", c, a.All(), n, got.All(), ok)
					}
					if got, ok := Sum(c, a, n); ok || got.Len() != 0 {
						t.Errorf("cap %d, a sum of %v, %d: %v, %v", c, a.All(), n, got.All(), ok)
					}
				}
				if got, ok := Two(c, n); ok || got.Len() != 0 {
					t.Errorf("cap %d, 2^%d: %v, %v", c, n, got.All(), ok)
				}
			}
		})
	}
}

func TestWhatFitsIsAnsweredQuickly(t *testing.T) {
	quickly(t, "long powers", func() {
		power := must(Pow(64, nat.Of(2), 4095))
		same(t, "2^4095", power, must(Two(64, 4095)))
		sum := must(Sum(64, nat.Of(2), 4095))
		same(t, "the powers of two below 2^4096", sum, long(64))
		if _, ok := Sum(64, nat.Of(2), 4096); ok {
			t.Error("the powers of two below 2^4097")
		}
		if _, ok := Pow(64, nat.Of(2), 4096); ok {
			t.Error("2^4096")
		}
	})
}

func TestLengthsThatOverflowAreNoSmallOnes(t *testing.T) {
	for _, c := range []nat.Cap{1, 64} {
		for _, x := range []struct {
			a nat.Nat
			n uint64
		}{
			{nat.Limbs(0, 1), 1 << 58},     // 64 bits, 2^58 times: 2^64, of which 64 binary digits keep nothing
			{nat.Limbs(0, 1), 1<<58 + 1},   // of which they keep 64
			{nat.Limbs(0, 0, 1), 1 << 57},  // 128 bits
			{nat.Of(4), 1 << 63},           // 2 bits
			{nat.Of(1 << 63), most/63 + 1}, // 63 bits
		} {
			quickly(t, "an exponent", func() {
				if got, ok := Pow(c, x.a, x.n); ok || got.Len() != 0 {
					t.Errorf("%v, %d: %v, %v", x.a.All(), x.n, got.All(), ok)
				}
				if got, ok := Sum(c, x.a, x.n); ok || got.Len() != 0 {
					t.Errorf("a sum of %v, %d: %v, %v", x.a.All(), x.n, got.All(), ok)
				}
			})
		}
	}
}

// answers are numbers made of two others in each way there is.
func answers(a, b nat.Nat) []nat.Nat {
	return []nat.Nat{must(Pow(wide, a, 0)), must(Pow(wide, a, 1)), must(Pow(wide, a, 5)), must(Sum(wide, a, 0)), must(Sum(wide, a, 1)), must(Sum(wide, b, 5)),
		must(Two(wide, 77)), must(Product(wide)), must(Product(wide, a)), must(Product(wide, a, b)), must(Product(wide, nat.Nat{}, b))}
}

func TestNumbersShareNoMemory(t *testing.T) {
	a, b := nat.Limbs(7, 8, 9), nat.Limbs(most, 1)
	made := answers(a, b)
	var before [][]uint64
	for _, n := range append(made, a, b) {
		before = append(before, n.All())
	}
	for _, n := range append(made, a, b) {
		limbs := n.All()
		for i := range limbs {
			limbs[i] = 5
		}
	}
	for i, n := range append(made, a, b) {
		if !slices.Equal(n.All(), before[i]) {
			t.Errorf("%d: %v, and was %v", i, n.All(), before[i])
		}
	}
	for i, n := range answers(a, b) {
		same(t, "asked for again", n, made[i])
	}
}

func TestListsAreOnlyRead(t *testing.T) {
	spare := nat.Of(99)
	for _, factors := range [][]nat.Nat{
		{nat.Of(2), nat.Limbs(3, 4), nat.Of(5), spare, spare},
		{nat.Of(2), {}, nat.Of(5), spare, spare},
		{long(5), long(5), nat.Of(5), spare, spare},
	} {
		before := slices.Clone(factors)
		for _, c := range []nat.Cap{0, 1, 64} {
			got, ok := Product(c, factors[:3]...)
			for i, n := range factors {
				same(t, "a factor", n, before[i])
			}
			limbs := got.All()
			for i := range factors {
				factors[i] = nat.Of(77)
			}
			if !slices.Equal(got.All(), limbs) {
				t.Errorf("a product hangs on its factors' list: %v, and was %v", got.All(), limbs)
			}
			copy(factors, before)
			again, fits := Product(c, factors[:3]...)
			same(t, "asked for again", again, got)
			if fits != ok {
				t.Errorf("asked for again: %v, and was %v", fits, ok)
			}
		}
	}
}

// P3.4: what follows.

func TestExponentsAreAdded(t *testing.T) {
	for _, a := range bases() {
		for m := range uint64(12) {
			for n := range uint64(12) {
				first, second := must(Pow(wide, a, m)), must(Pow(wide, a, n))
				same(t, "a power of a sum", must(Pow(wide, a, m+n)), must(Product(wide, first, second)))
			}
		}
	}
}

func TestTheNextSum(t *testing.T) {
	for _, a := range bases() {
		for n := range uint64(80) {
			sum := must(Sum(wide, a, n))
			same(t, "the next sum", must(Sum(wide, a, n+1)), nat.Add(nat.Mul(sum, a), nat.Of(1)))
			if nat.Cmp(sum, must(Pow(wide, a, n))) < 0 {
				t.Errorf("%v, %d: the sum is below the last power", a.All(), n)
			}
			for c := range nat.Cap(6) {
				_, sumFits := Sum(c, a, n)
				_, powerFits := Pow(c, a, n)
				if sumFits && !powerFits {
					t.Errorf("cap %d, %v, %d: the sum fits, and the last power does not", c, a.All(), n)
				}
			}
		}
	}
}

func TestTwoOfALog(t *testing.T) {
	list := bases()
	for e := range uint64(140) {
		two := must(Two(wide, e))
		below, _ := nat.Sub(two, nat.Of(1))
		list = append(list, below, two, nat.Add(two, nat.Of(1)))
	}
	for _, a := range list {
		l := Log(a)
		if nat.Cmp(must(Two(wide, l)), a) < 0 {
			t.Errorf("%v: 2^%d is less", a.All(), l)
		}
		if l > 0 && nat.Cmp(must(Two(wide, l-1)), a) >= 0 {
			t.Errorf("%v: 2^%d is enough", a.All(), l-1)
		}
	}
}
