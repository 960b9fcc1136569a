package deci

import (
	"math"
	"math/big"
	"slices"
	"strconv"
	"strings"
	"testing"

	"sieveholes/api"
	"sieveholes/nat"
)

const most = math.MaxUint64

// asBig is what a number means, reckoned by the library.
func asBig(n nat.Nat) *big.Int {
	sum := new(big.Int)
	for _, limb := range slices.Backward(n.All()) {
		sum.Lsh(sum, 64)
		sum.Or(sum, new(big.Int).SetUint64(limb))
	}
	return sum
}

func fromBig(n *big.Int) nat.Nat {
	var limbs []uint64
	low := new(big.Int).SetUint64(most)
	for n = new(big.Int).Set(n); n.Sign() > 0; n.Rsh(n, 64) {
		limbs = append(limbs, new(big.Int).And(n, low).Uint64())
	}
	return nat.Limbs(limbs...)
}

func powerOfTen(e int) *big.Int {
	return new(big.Int).Exp(big.NewInt(10), big.NewInt(int64(e)), nil)
}

// samples are numbers at the edges of limbs, of rows of digits, and of powers of ten, and long ones.
func samples() []nat.Nat {
	list := []nat.Nat{{}, nat.Of(1), nat.Of(7), nat.Of(1 << 32), nat.Of(1 << 63), nat.Of(most),
		nat.Limbs(0, 1), nat.Limbs(1, 1), nat.Limbs(most, most), nat.Limbs(0, 0, 1), nat.Limbs(5, 0, 1<<63),
		nat.Limbs(3, 1<<32, 5, 7, 0, 11, 1<<32-1), nat.Limbs(append(make([]uint64, 40), 1)...), nat.Limbs(slices.Repeat([]uint64{most}, 64)...)}
	for e := range 60 {
		ten := powerOfTen(e)
		list = append(list, fromBig(ten), fromBig(new(big.Int).Sub(ten, big.NewInt(1))), fromBig(new(big.Int).Add(ten, big.NewInt(1))))
	}
	return list
}

func isZero(n nat.Nat) bool { return nat.Cmp(n, nat.Nat{}) == 0 && n.Len() == 0 }

// P2.1, and of P2.5 that the quotient, times by, and what was left over make the number.

func TestDiv(t *testing.T) {
	for _, n := range samples() {
		for _, by := range []uint64{1, 2, 3, 7, 10, 1 << 32, 1<<63 - 1, 1 << 63, 1<<63 + 1, rowPower, most - 1, most} {
			q, r, e := Div(n, by)
			wantQ, wantR := new(big.Int).QuoRem(asBig(n), new(big.Int).SetUint64(by), new(big.Int))
			if e != api.OK || asBig(q).Cmp(wantQ) != 0 || r != wantR.Uint64() {
				t.Errorf("%v by %d: %v, %d, %v", n.All(), by, q.All(), r, e)
			}
			if r >= by || nat.Cmp(nat.Add(nat.Mul(q, nat.Of(by)), nat.Of(r)), n) != 0 {
				t.Errorf("%v by %d: %v, %d do not make it", n.All(), by, q.All(), r)
			}
			if l := q.All(); len(l) > 0 && l[len(l)-1] == 0 {
				t.Errorf("%v by %d: a limb 0 at the end of %v", n.All(), by, l)
			}
		}
	}
}

func TestDivByHand(t *testing.T) {
	for _, x := range []struct {
		n  nat.Nat
		by uint64
		q  nat.Nat
		r  uint64
	}{
		{nat.Limbs(0, 1), 10, nat.Of(1844674407370955161), 6},
		{nat.Nat{}, 1, nat.Nat{}, 0},
		{nat.Nat{}, most, nat.Nat{}, 0},
		{nat.Limbs(0, 1), 1, nat.Limbs(0, 1), 0},
		{nat.Of(6), 7, nat.Nat{}, 6},
		{nat.Of(7), 7, nat.Of(1), 0},
		{nat.Of(most), most, nat.Of(1), 0},
		{nat.Limbs(most-1, 1), 2, nat.Of(most), 0},
		{nat.Limbs(most, 1), 2, nat.Of(most), 1},
		{nat.Limbs(0, 2), 2, nat.Limbs(0, 1), 0},
	} {
		if q, r, e := Div(x.n, x.by); nat.Cmp(q, x.q) != 0 || r != x.r || e != api.OK {
			t.Errorf("%v by %d: %v, %d, %v", x.n.All(), x.by, q.All(), r, e)
		}
	}
}

func TestDivByNothing(t *testing.T) {
	for _, n := range samples() {
		if q, r, e := Div(n, 0); !isZero(q) || r != 0 || e != api.ErrArg {
			t.Errorf("%v by 0: %v, %d, %v", n.All(), q.All(), r, e)
		}
	}
}

// P2.2, and of P2.5 that digits are read from the number and back.

func TestText(t *testing.T) {
	for _, n := range samples() {
		want := asBig(n).String()
		if got := Text(n); got != want {
			t.Errorf("%v: %s", n.All(), got)
		}
		if got := Digits(n); got != len(want) {
			t.Errorf("%v: %d digits", n.All(), got)
		}
		back, e := Parse(want, nat.Cap(n.Len()))
		if e != api.OK || nat.Cmp(back, n) != 0 {
			t.Errorf("%s: %v, %v", want, back.All(), e)
		}
	}
	if got := Text(nat.Limbs(0, 1)); got != "18446744073709551616" || Digits(nat.Limbs(0, 1)) != 20 {
		t.Error(got)
	}
	if Text(nat.Nat{}) != "0" || Digits(nat.Nat{}) != 1 {
		t.Error("0 has one digit 0")
	}
}

func TestDigitsCountPowersOfTen(t *testing.T) {
	for _, n := range samples() {
		powers := 0
		for asBig(n).Cmp(powerOfTen(powers)) >= 0 {
			powers++
		}
		if got := Digits(n); got != max(powers, 1) {
			t.Errorf("%v: %d digits, %d powers of ten", n.All(), got, powers)
		}
	}
}

func TestParseOfWhatIsNoNumber(t *testing.T) {
	long := strings.Repeat("1234567890", 50)
	for _, s := range []string{"", "00", "01", "007", "000000000000000000000", "-1", "-0", "-", "+1", "+", " 1", "1 ", "1\n", "\x00", "1\x00", "1a", "a1", "x", "1.0", "1_000", "0x10", "1e3",
		"/", ":", "1/", "1:", "\u0661", "\uff11", "1\u0661", "\xff", "1\xff", "1\xb1", long + "x", "x" + long, long[:60] + " " + long, "0" + long} {
		for _, c := range []nat.Cap{math.MinInt, -1, 0, 1, 2, 100, math.MaxInt} { // ErrDigits is told ahead of ErrCap
			if n, e := Parse(s, c); !isZero(n) || e != api.ErrDigits {
				t.Errorf("%q, cap %d: %v, %v", s, c, n.All(), e)
			}
		}
	}
}

func TestParseUnderCaps(t *testing.T) {
	for limbs := 1; limbs <= 64; limbs++ {
		past := new(big.Int).Lsh(big.NewInt(1), uint(64*limbs))
		within := new(big.Int).Sub(past, big.NewInt(1))
		if n, e := Parse(within.String(), nat.Cap(limbs)); e != api.OK || asBig(n).Cmp(within) != 0 {
			t.Errorf("2^%d - 1 under %d limbs: %v, %v", 64*limbs, limbs, n.All(), e)
		}
		if n, e := Parse(past.String(), nat.Cap(limbs)); e != api.ErrCap || !isZero(n) {
			t.Errorf("2^%d under %d limbs: %v, %v", 64*limbs, limbs, n.All(), e)
		}
		if n, e := Parse(past.String(), nat.Cap(limbs+1)); e != api.OK || asBig(n).Cmp(past) != 0 {
			t.Errorf("2^%d under %d limbs: %v, %v", 64*limbs, limbs+1, n.All(), e)
		}
	}
	for _, c := range []nat.Cap{math.MinInt, -1, 0} {
		if n, e := Parse("0", c); e != api.OK || !isZero(n) {
			t.Errorf("0 under cap %d: %v", c, e)
		}
		for _, s := range []string{"1", "9", "18446744073709551616"} {
			if n, e := Parse(s, c); e != api.ErrCap || !isZero(n) {
				t.Errorf("%s under cap %d: %v, %v", s, c, n.All(), e)
			}
		}
	}
	if n, e := Parse("18446744073709551616", 1); e != api.ErrCap || !isZero(n) {
		t.Error(e)
	}
	if n, e := Parse(strings.Repeat("9", 1<<20), 16); e != api.ErrCap || !isZero(n) {
		t.Error(e)
	}
	if n, e := Parse("340282366920938463463374607431768211456", math.MaxInt); e != api.OK || nat.Cmp(n, nat.Limbs(0, 0, 1)) != 0 {
		t.Error(n.All(), e)
	}
}

// P2.5: numbers of as many digits are compared as their texts are.

func TestTextsAreCompared(t *testing.T) {
	list := samples()
	for _, a := range list {
		for _, b := range list {
			if Digits(a) == Digits(b) && nat.Cmp(a, b) != strings.Compare(Text(a), Text(b)) {
				t.Errorf("%s, %s", Text(a), Text(b))
			}
			if Digits(a) < Digits(b) && nat.Cmp(a, b) >= 0 {
				t.Errorf("%s has fewer digits than %s", Text(a), Text(b))
			}
		}
	}
}

// P2.3

func TestWhole(t *testing.T) {
	list := []int64{0, 1, -1, 9, 10, -9, -10, 42, -42, math.MaxInt64, math.MaxInt64 - 1, math.MinInt64, math.MinInt64 + 1}
	for ten := int64(10); ten < math.MaxInt64/10; ten *= 10 {
		list = append(list, ten, ten-1, ten+1, -ten, 1-ten, -1-ten)
	}
	for _, n := range list {
		want := strconv.FormatInt(n, 10)
		if got := Whole(n); got != want {
			t.Errorf("%d: %s", n, got)
		}
		if got, e := ParseWhole(want); got != n || e != api.OK {
			t.Errorf("%s: %d, %v", want, got, e)
		}
	}
	if got := Whole(math.MinInt64); got != "-9223372036854775808" {
		t.Error(got)
	}
	if got := Whole(0); got != "0" {
		t.Error(got)
	}
}

func TestParseWholeOfWhatIsNone(t *testing.T) {
	for _, s := range []string{"", "-", "--1", "-0", "+0", "+1", "+", "00", "01", "-01", "-00", "1-", "- 1", " 1", "1 ", "1_0", "0x1", "0b1", "1e1", "1.0", "x", "-x", "\x00", "1\x00", "\u0661", "\xff",
		"9223372036854775808", "-9223372036854775809", "18446744073709551615", "18446744073709551616", "-18446744073709551616", "18446744073709551617",
		"09223372036854775807", "99999999999999999999999999999999999999999", "-" + strings.Repeat("9", 1000)} {
		if n, e := ParseWhole(s); n != 0 || e != api.ErrDigits {
			t.Errorf("%q: %d, %v", s, n, e)
		}
	}
}

// P2.4

func TestWhatIsHandedInStaysAndWhatIsAnsweredIsNew(t *testing.T) {
	for _, limbs := range [][]uint64{{9}, {9, 9}, {7, 0, 1 << 63}} {
		n := nat.Limbs(limbs...)
		for _, by := range []uint64{1, 3, most} { // by 1 the quotient is the number, and yet new
			q, _, _ := Div(n, by)
			want := q.All()
			for _, made := range [][]uint64{q.All(), n.All()} {
				clear(made[:cap(made)])
			}
			Text(n)
			Digits(n)
			Div(q, 2)
			if !slices.Equal(n.All(), limbs) || !slices.Equal(q.All(), want) {
				t.Errorf("%v by %d: now %v, %v", limbs, by, n.All(), q.All())
			}
		}
	}
	n, _ := Parse("18446744073709551617", 2)
	clear(n.All())
	if again, _ := Parse("18446744073709551617", 2); !slices.Equal(again.All(), []uint64{1, 1}) || Text(n) != "18446744073709551617" {
		t.Error(again.All(), Text(n))
	}
}
