package fp

import (
	"errors"
	"math"
	"math/big"
	"testing"

	"caucus/api"
)

var prime = new(big.Int).SetUint64(api.Prime)

func whole(v uint64) *big.Int { return new(big.Int).SetUint64(v) }

func left(v *big.Int) uint64 { return new(big.Int).Mod(v, prime).Uint64() }

// edges are the multiples of Prime that 64 bits hold, the powers of 2, and what stands beside these.
func edges() []uint64 {
	l := []uint64{0, 1, 2, 3, 5, 10, 1_000_003, math.MaxUint64}
	for k := uint64(1); k <= 8; k++ {
		l = append(l, k*api.Prime-1, k*api.Prime, k*api.Prime+1)
	}
	for _, bit := range []int{31, 32, 60, 61, 62, 63} {
		l = append(l, 1<<bit-1, 1<<bit, 1<<bit+1)
	}
	return l
}

// mixed are numbers all over the 64 bits, always the same ones.
func mixed(many int) []uint64 {
	l := make([]uint64, many)
	v := uint64(20_260_101)
	for i := range l {
		v ^= v << 13
		v ^= v >> 7
		v ^= v << 17
		l[i] = v
	}
	return l
}

func both() []uint64 { return append(edges(), mixed(40)...) }

func wantNum(t *testing.T, got, want uint64, call string, args ...uint64) {
	t.Helper()
	if got != want {
		t.Errorf("%s%d: %d, not %d", call, args, got, want)
	}
}

func wantArg(t *testing.T, got uint64, err error, call string, args ...uint64) {
	t.Helper()
	var no api.Errno
	if !errors.As(err, &no) || no != api.ErrArg {
		t.Errorf("%s%d: error %v, not ErrArg", call, args, err)
	}
	wantNum(t, got, 0, call, args...)
}

func wantOK(t *testing.T, err error, call string, args ...uint64) {
	t.Helper()
	if err != nil {
		t.Errorf("%s%d: %v", call, args, err)
	}
}

// FP1: what is left of a number of 64 bits, at and around each multiple of Prime.
func TestOf(t *testing.T) {
	for _, c := range [][2]uint64{
		{0, 0}, {1, 1}, {7, 7},
		{api.Prime - 1, api.Prime - 1}, {api.Prime, 0}, {api.Prime + 1, 1},
		{1 << 61, 1}, {1<<61 + 5, 6},
		{2*api.Prime - 1, api.Prime - 1}, {2 * api.Prime, 0}, {1 << 62, 2},
		{1 << 63, 4}, {8*api.Prime - 1, api.Prime - 1}, {8 * api.Prime, 0},
		{math.MaxUint64, 7},
	} {
		wantNum(t, Of(c[0]), c[1], "Of", c[0])
	}
	for _, v := range both() {
		wantNum(t, Of(v), left(whole(v)), "Of", v)
	}
}

// FP1: sums, differences and products that can be told by hand.
func TestPlainNumbers(t *testing.T) {
	wantNum(t, Add(2, 3), 5, "Add", 2, 3)
	wantNum(t, Add(api.Prime-1, 1), 0, "Add", api.Prime-1, 1)
	wantNum(t, Add(api.Prime-1, api.Prime-1), api.Prime-2, "Add", api.Prime-1, api.Prime-1)
	wantNum(t, Add(math.MaxUint64, math.MaxUint64), 14, "Add", math.MaxUint64, math.MaxUint64)
	wantNum(t, Sub(5, 3), 2, "Sub", 5, 3)
	wantNum(t, Sub(3, 5), api.Prime-2, "Sub", 3, 5)
	wantNum(t, Sub(0, 1), api.Prime-1, "Sub", 0, 1)
	wantNum(t, Sub(4, 4), 0, "Sub", 4, 4)
	wantNum(t, Sub(0, api.Prime), 0, "Sub", 0, api.Prime)
	wantNum(t, Sub(0, math.MaxUint64), api.Prime-7, "Sub", 0, math.MaxUint64)
	wantNum(t, Mul(6, 7), 42, "Mul", 6, 7)
	wantNum(t, Mul(1<<60, 2), 1, "Mul", 1<<60, 2)
	wantNum(t, Mul(1<<60, 1<<60), 1<<59, "Mul", 1<<60, 1<<60)
	wantNum(t, Mul(api.Prime-1, api.Prime-1), 1, "Mul", api.Prime-1, api.Prime-1)
	wantNum(t, Mul(math.MaxUint64, math.MaxUint64), 49, "Mul", math.MaxUint64, math.MaxUint64)
	wantNum(t, Mul(api.Prime, 9), 0, "Mul", api.Prime, 9)
}

// FP1: sums, differences and products of what is left, against whole numbers.
func TestAgainstWholeNumbers(t *testing.T) {
	for _, a := range both() {
		for _, b := range both() {
			x, y := whole(a), whole(b)
			wantNum(t, Add(a, b), left(new(big.Int).Add(x, y)), "Add", a, b)
			wantNum(t, Sub(a, b), left(new(big.Int).Sub(x, y)), "Sub", a, b)
			wantNum(t, Mul(a, b), left(new(big.Int).Mul(x, y)), "Mul", a, b)
		}
	}
}

// FP1: of n 0 a power is 1, of whatever number; of n 1 it is what is left of that.
func TestFirstPowers(t *testing.T) {
	for _, a := range both() {
		wantNum(t, Pow(a, 0), 1, "Pow", a, 0)
		wantNum(t, Pow(a, 1), Of(a), "Pow", a, 1)
	}
	for _, n := range both() {
		wantNum(t, Pow(1, n), 1, "Pow", 1, n)
		if n > 0 {
			wantNum(t, Pow(0, n), 0, "Pow", 0, n)
			wantNum(t, Pow(api.Prime, n), 0, "Pow", api.Prime, n)
		}
	}
}

// FP1: a power is a product of n times the same.
func TestPowMultiplies(t *testing.T) {
	wantNum(t, Pow(3, 4), 81, "Pow", 3, 4)
	wantNum(t, Pow(2, 61), 1, "Pow", 2, 61)
	for _, a := range both() {
		p := uint64(1)
		for n := uint64(0); n <= 70; n++ {
			wantNum(t, Pow(a, n), p, "Pow", a, n)
			p = Mul(p, a)
		}
	}
}

// FP1: how often is a number of 64 bits, not what is left of it.
func TestGreatPowers(t *testing.T) {
	wantNum(t, Pow(2, api.Prime), 2, "Pow", 2, api.Prime)
	wantNum(t, Pow(3, api.Prime-1), 1, "Pow", 3, api.Prime-1)
	wantNum(t, Pow(3, api.Prime+1), 9, "Pow", 3, api.Prime+1)
	wantNum(t, Pow(0, api.Prime), 0, "Pow", 0, api.Prime)
	for _, a := range both() {
		for _, n := range both() {
			want := new(big.Int).Exp(whole(a), whole(n), prime).Uint64()
			wantNum(t, Pow(a, n), want, "Pow", a, n)
		}
	}
}

// FP2: inverses that can be told by hand.
func TestPlainInverses(t *testing.T) {
	for _, c := range [][2]uint64{
		{1, 1}, {2, 1 << 60}, {1 << 60, 2}, {4, 1 << 59},
		{api.Prime - 1, api.Prime - 1}, {api.Prime + 2, 1 << 60},
		{1 << 61, 1}, {1 << 62, 1 << 60}, {1 << 63, 1 << 59},
	} {
		got, err := Inv(c[0])
		wantOK(t, err, "Inv", c[0])
		wantNum(t, got, c[1], "Inv", c[0])
	}
}

// FP2: what a number's inverse is multiplied by gives 1, and it is one of the field.
func TestInv(t *testing.T) {
	for _, a := range both() {
		if a%api.Prime == 0 {
			continue
		}
		got, err := Inv(a)
		wantOK(t, err, "Inv", a)
		want := new(big.Int).ModInverse(whole(a), prime).Uint64()
		wantNum(t, got, want, "Inv", a)
		wantNum(t, Mul(a, got), 1, "Mul by Inv", a)
	}
}

// FP2: a quotient is a product with the inverse; of noughts it is 0.
func TestDiv(t *testing.T) {
	for _, c := range [][3]uint64{
		{42, 7, 6}, {1, 2, 1 << 60}, {0, 5, 0}, {api.Prime, 5, 0},
		{5, 1, 5}, {5, 1 << 61, 5}, {math.MaxUint64, 7, 1}, {9, 9, 1},
	} {
		got, err := Div(c[0], c[1])
		wantOK(t, err, "Div", c[0], c[1])
		wantNum(t, got, c[2], "Div", c[0], c[1])
	}
	for _, a := range both() {
		for _, b := range both() {
			if b%api.Prime == 0 {
				continue
			}
			got, err := Div(a, b)
			wantOK(t, err, "Div", a, b)
			inv := new(big.Int).ModInverse(whole(b), prime)
			wantNum(t, got, left(inv.Mul(inv, whole(a))), "Div", a, b)
		}
	}
}

// FP2: ErrArg, if nothing is left: of 0, and of each multiple of Prime.
func TestNothingLeft(t *testing.T) {
	for k := uint64(0); k <= 8; k++ {
		none := k * api.Prime
		got, err := Inv(none)
		wantArg(t, got, err, "Inv", none)
		for _, a := range both() {
			got, err := Div(a, none)
			wantArg(t, got, err, "Div", a, none)
		}
	}
}

// FP3: whatever it is given, what is answered is a number of the field, and hangs on what is left alone.
func TestWithinField(t *testing.T) {
	for _, a := range both() {
		for _, b := range both() {
			got := results(t, a, b)
			for i, v := range got {
				if v >= api.Prime {
					t.Errorf("call %d of %d and %d: %d is not of the field", i, a, b, v)
				}
			}
			if got != results(t, a%api.Prime, b%api.Prime) {
				t.Errorf("of %d and %d it is not as of what is left", a, b)
			}
		}
	}
}

// results are of all calls, but Pow, whose n is no number of the field.
func results(t *testing.T, a, b uint64) [5]uint64 {
	t.Helper()
	div, err := Div(a, b)
	if b%api.Prime == 0 {
		wantArg(t, div, err, "Div", a, b)
	}
	return [5]uint64{Of(a), Add(a, b), Sub(a, b), Mul(a, b), div}
}

// FP3: the laws of a field that speak of one number, or of two.
func TestLawsOfTwo(t *testing.T) {
	for _, a := range both() {
		wantNum(t, Add(a, 0), Of(a), "a + 0", a)
		wantNum(t, Mul(a, 1), Of(a), "a * 1", a)
		wantNum(t, Mul(a, 0), 0, "a * 0", a)
		wantNum(t, Add(a, Sub(0, a)), 0, "a + (0 - a)", a)
		for _, b := range both() {
			wantNum(t, Add(a, b), Add(b, a), "a + b", a, b)
			wantNum(t, Mul(a, b), Mul(b, a), "a * b", a, b)
			wantNum(t, Add(Sub(a, b), b), Of(a), "(a - b) + b", a, b)
			none := Of(a) == 0 || Of(b) == 0
			if none != (Mul(a, b) == 0) {
				t.Errorf("%d times %d: %d", a, b, Mul(a, b))
			}
			if q, err := Div(a, b); err == nil {
				wantNum(t, Mul(q, b), Of(a), "(a / b) * b", a, b)
			}
		}
	}
	if Of(0) == Of(1) {
		t.Errorf("0 and 1 are the same")
	}
}

// FP3: the laws of a field that speak of three numbers.
func TestLawsOfThree(t *testing.T) {
	l := append(edges(), mixed(10)...)
	for _, a := range l {
		for _, b := range l {
			for _, c := range l {
				wantNum(t, Add(Add(a, b), c), Add(a, Add(b, c)), "a + b + c", a, b, c)
				wantNum(t, Mul(Mul(a, b), c), Mul(a, Mul(b, c)), "a * b * c", a, b, c)
				wantNum(t, Mul(a, Add(b, c)), Add(Mul(a, b), Mul(a, c)), "a * (b + c)", a, b, c)
			}
		}
	}
}
