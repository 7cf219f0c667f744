package poly

import (
	"errors"
	"math"
	"math/big"
	"slices"
	"testing"

	"caucus/api"
)

const (
	prime = 1<<61 - 1
	top   = math.MaxUint64 // 7 is left of it
)

// edges are numbers at and around each multiple of Prime within 64 bits, and small ones.
func edges() []uint64 {
	list := []uint64{0, 1, 2, 3, 63, 64, 65, 1 << 32, 1 << 60, top - 1, top}
	for k := uint64(1); k <= 8; k++ {
		list = append(list, k*prime-2, k*prime-1, k*prime, k*prime+1, k*prime+2)
	}
	return list
}

// mixed is a list of numbers all over the 64 bits, always the same one of a seed.
func mixed(n int, seed uint64) []uint64 {
	list := make([]uint64, n)
	v := seed*2 + 1
	for i := range list {
		v ^= v << 13
		v ^= v >> 7
		v ^= v << 17
		list[i] = v
	}
	return list
}

// upTo is the places 1, 2 and so on.
func upTo(n int) []uint64 {
	xs := make([]uint64, n)
	for i := range xs {
		xs[i] = uint64(i) + 1
	}
	return xs
}

func whole(v uint64) *big.Int { return new(big.Int).SetUint64(v) }

// left is what is left of a whole number when it is divided by Prime.
func left(v *big.Int) uint64 { return new(big.Int).Mod(v, whole(prime)).Uint64() }

// value is a curve's value, each power for itself, by whole numbers.
func value(c []uint64, x uint64) uint64 {
	sum := new(big.Int)
	for i, v := range c {
		power := new(big.Int).Exp(whole(x), big.NewInt(int64(i)), nil)
		sum.Add(sum, power.Mul(power, whole(v)))
	}
	return left(sum)
}

// worth is what the value at the i-th place is worth at another place, by whole numbers.
func worth(xs []uint64, i int, at uint64) uint64 {
	above, below := big.NewInt(1), big.NewInt(1)
	for j, x := range xs {
		if j != i {
			above.Mul(above, new(big.Int).Sub(whole(at), whole(x)))
			below.Mul(below, new(big.Int).Sub(whole(xs[i]), whole(x)))
		}
	}
	return left(above.Mul(above, below.ModInverse(below, whole(prime))))
}

// on is the points of a curve at some places.
func on(c, xs []uint64) []api.Share {
	l := make([]api.Share, len(xs))
	for i, x := range xs {
		l[i] = api.Share{X: x, Y: value(c, x)}
	}
	return l
}

func wantError(t *testing.T, call string, err error, want api.Errno) {
	t.Helper()
	var no api.Errno
	if !errors.As(err, &no) || no != want {
		t.Errorf("%s: error %v, not %v", call, err, want)
	}
}

func wantWeights(t *testing.T, xs []uint64, at uint64, want ...uint64) {
	t.Helper()
	got, err := Weights(xs, at)
	if err != nil || !slices.Equal(got, want) {
		t.Errorf("Weights(%d, %d): %d, %v, not %d", xs, at, got, err, want)
	}
}

func wantThrough(t *testing.T, l []api.Share, at, want uint64) {
	t.Helper()
	got, err := Through(l, at)
	if err != nil || got != want {
		t.Errorf("Through(%v, %d): %d, %v, not %d", l, at, got, err, want)
	}
}

func wantLine(t *testing.T, l []api.Share, many int, want bool) {
	t.Helper()
	got, err := Line(l, many)
	if err != nil || got != want {
		t.Errorf("Line(%v, %d): %t, %v, not %t", l, many, got, err, want)
	}
}

// wantFault: all three calls that are given places, or points there, answer one error.
func wantFault(t *testing.T, xs []uint64, want api.Errno) {
	t.Helper()
	l := make([]api.Share, len(xs))
	for i, x := range xs {
		l[i].X = x
	}
	for _, at := range []uint64{0, 1, 2, prime, top} {
		weights, err := Weights(xs, at)
		wantError(t, "Weights", err, want)
		v, err := Through(l, at)
		wantError(t, "Through", err, want)
		if len(weights) != 0 || v != 0 {
			t.Errorf("Weights and Through: %d and %d beside an error", weights, v)
		}
	}
	for _, many := range []int{0, 1, 2, 64, 65, math.MaxInt} {
		ok, err := Line(l, many)
		wantError(t, "Line", err, want)
		if ok {
			t.Errorf("Line: true beside an error")
		}
	}
}

// PO1: values that can be told by hand.
func TestPlainValues(t *testing.T) {
	for _, k := range []struct {
		c       []uint64
		x, want uint64
	}{
		{nil, 5, 0},
		{[]uint64{}, 0, 0},
		{[]uint64{9}, 0, 9},
		{[]uint64{9}, 5, 9},
		{[]uint64{1, 2}, 0, 1},
		{[]uint64{1, 2}, 1, 3},
		{[]uint64{1, 2}, 10, 21},
		{[]uint64{5, 0, 3}, 2, 17},
		{[]uint64{1, 2, 3}, 10, 321},
		{[]uint64{4, 3, 2, 1}, 10, 1234},
		{[]uint64{0, 0, 0, 1}, 4, 64},
		{[]uint64{0, 0, 0}, 4, 0},
		{[]uint64{7, 8, 9}, 0, 7},
		{[]uint64{prime}, 0, 0},
		{[]uint64{prime}, 3, 0},
		{[]uint64{prime + 4}, 3, 4},
		{[]uint64{top}, 0, 7},
		{[]uint64{top, top}, top, 56},
		{[]uint64{0, 1}, prime, 0},
		{[]uint64{0, 1}, prime + 1, 1},
		{[]uint64{0, 1}, prime - 1, prime - 1},
		{[]uint64{0, 0, 1}, prime - 1, 1}, // -1 twice
		{[]uint64{1, 1}, prime - 1, 0},
		{[]uint64{3, prime}, 9, 3},
		{[]uint64{1, 2, 3}, prime + 10, 321},
		{[]uint64{prime - 1, 1}, 2, 1},
		{[]uint64{0, 2}, 1 << 60, 1}, // 2^61
	} {
		if got := Eval(k.c, k.x); got != k.want {
			t.Errorf("Eval(%d, %d): %d, not %d", k.c, k.x, got, k.want)
		}
	}
}

// PO1: curves of none to many numbers, at the edges of the field.
func TestValuesAsWholeNumbers(t *testing.T) {
	for _, n := range []int{0, 1, 2, 3, 11, 63, 64, 65, 300} {
		for _, c := range [][]uint64{mixed(n, uint64(n)), slices.Repeat([]uint64{top}, n), slices.Repeat([]uint64{prime - 1}, n)} {
			for _, x := range edges() {
				if got, want := Eval(c, x), value(c, x); got != want {
					t.Errorf("Eval of %d numbers, at %d: %d, not %d", n, x, got, want)
				}
			}
		}
	}
	for _, a := range edges() {
		for _, b := range edges() {
			for _, x := range edges() {
				if got, want := Eval([]uint64{a, b}, x), value([]uint64{a, b}, x); got != want {
					t.Errorf("Eval(%d and %d, %d): %d, not %d", a, b, x, got, want)
				}
			}
		}
	}
}

// PO1: weights that can be told by hand.
func TestPlainWeights(t *testing.T) {
	const half, minus = 1 << 60, prime - 1 // twice half is 1
	wantWeights(t, nil, 5)
	wantWeights(t, []uint64{}, 0)
	wantWeights(t, []uint64{3}, 0, 1)
	wantWeights(t, []uint64{3}, 3, 1)
	wantWeights(t, []uint64{0}, top, 1)
	wantWeights(t, []uint64{prime}, prime, 1)
	wantWeights(t, []uint64{1, 2}, 0, 2, minus)
	wantWeights(t, []uint64{2, 1}, 0, minus, 2) // as the places stand
	wantWeights(t, []uint64{1, 2}, 3, minus, 2)
	wantWeights(t, []uint64{1, 3}, 2, half, half)
	wantWeights(t, []uint64{1, 2, 3}, 0, 3, prime-3, 1)
	wantWeights(t, []uint64{3, 1, 2}, 4, 3, 1, prime-3)
	wantWeights(t, []uint64{0, 1, 2}, 3, 1, prime-3, 3)
	wantWeights(t, []uint64{minus, 1}, 0, half, half)
	wantWeights(t, []uint64{prime + 1, prime + 2}, prime, 2, minus)
	wantWeights(t, []uint64{top, 8*prime + 6}, 5, minus, 2) // 7 and 6, at 5
}

// PO1: at a place itself its own weight is 1, and all others are 0, whichever of the
// numbers tells it of which the same is left.
func TestWeightsAtThePlaces(t *testing.T) {
	for _, n := range []int{1, 2, 3, 12, 63, 64} {
		for _, xs := range [][]uint64{upTo(n), mixed(n, 5)} {
			for i, x := range xs {
				want := make([]uint64, n)
				want[i] = 1
				for _, at := range []uint64{x, x % prime, x%prime + prime, x%prime + 7*prime} {
					wantWeights(t, xs, at, want...)
				}
			}
		}
	}
}

// PO1: as many weights as places, from none to 64, each as whole numbers tell it.
func TestWeightsAsWholeNumbers(t *testing.T) {
	for n := 0; n <= 64; n++ {
		for _, xs := range [][]uint64{upTo(n), mixed(n, uint64(n)+9)} {
			for _, at := range []uint64{0, 1, 65, prime - 1, prime, prime + 3, top} {
				want := make([]uint64, n)
				for i := range want {
					want[i] = worth(xs, i, at)
				}
				wantWeights(t, xs, at, want...)
			}
		}
	}
	for _, a := range edges() {
		for _, b := range edges() {
			if a%prime == b%prime {
				continue
			}
			for _, at := range edges() {
				xs := []uint64{a, b}
				wantWeights(t, xs, at, worth(xs, 0, at), worth(xs, 1, at))
			}
		}
	}
}

// PO1: values between points that can be told by hand; the document's example is the first.
func TestPlainThrough(t *testing.T) {
	wantThrough(t, []api.Share{{X: 1, Y: 5}, {X: 2, Y: 7}}, 0, 3)
	wantThrough(t, []api.Share{{X: 2, Y: 7}, {X: 1, Y: 5}}, 0, 3)
	wantThrough(t, []api.Share{{X: 1, Y: 5}, {X: 2, Y: 7}}, 3, 9)
	wantThrough(t, []api.Share{{X: 1, Y: 5}, {X: 2, Y: 7}}, 1, 5)
	wantThrough(t, []api.Share{{X: 1, Y: 5}, {X: 2, Y: 7}}, 2, 7)
	wantThrough(t, []api.Share{{X: 1, Y: 5}, {X: 2, Y: 7}}, prime+2, 7)
	wantThrough(t, []api.Share{{X: 1, Y: 1}, {X: 2, Y: 4}, {X: 3, Y: 9}}, 10, 100)
	wantThrough(t, []api.Share{{X: 1, Y: 1}, {X: 2, Y: 4}, {X: 3, Y: 9}}, 0, 0)
	wantThrough(t, []api.Share{{X: 1, Y: 6}, {X: 2, Y: 6}, {X: 3, Y: 6}}, 77, 6)
	wantThrough(t, []api.Share{{X: 0, Y: 3}, {X: 1, Y: 2}}, 4, prime-1)
	wantThrough(t, []api.Share{{X: prime + 1, Y: prime + 5}, {X: prime + 2, Y: 7}}, prime, 3)
	wantThrough(t, []api.Share{{X: top, Y: top}}, 0, 7)
}

// PO1: of no point the value is 0, of one it is that point's everywhere.
func TestThroughNoneAndOne(t *testing.T) {
	for _, at := range edges() {
		wantThrough(t, nil, at, 0)
		wantThrough(t, []api.Share{}, at, 0)
		for _, y := range edges() {
			wantThrough(t, []api.Share{{X: 4, Y: y}}, at, y%prime)
			wantThrough(t, []api.Share{{X: y, Y: y}}, at, y%prime)
		}
	}
}

// PO1: through any points, of values that no shorter curve has, it goes as the weights
// tell, and through each of the points themselves.
func TestThroughAnyPoints(t *testing.T) {
	for _, n := range []int{2, 3, 7, 63, 64} {
		xs, ys := mixed(n, 31), mixed(n, 77)
		l := make([]api.Share, n)
		for i := range l {
			l[i] = api.Share{X: xs[i], Y: ys[i]}
		}
		for _, at := range edges() {
			sum := new(big.Int)
			for i := range l {
				sum.Add(sum, new(big.Int).Mul(whole(worth(xs, i, at)), whole(ys[i])))
			}
			wantThrough(t, l, at, left(sum))
		}
		for _, p := range l {
			wantThrough(t, l, p.X, p.Y%prime)
		}
	}
}

// PO1, PO2: more than 64 are ErrArg, whether or not two of them are the same.
func TestTooManyPlaces(t *testing.T) {
	for _, n := range []int{65, 66, 128, 1000} {
		wantFault(t, upTo(n), api.ErrArg)
		wantFault(t, mixed(n, 3), api.ErrArg)
		wantFault(t, make([]uint64, n), api.ErrArg)
		wantFault(t, append(upTo(n-1), 1), api.ErrArg)
	}
}

// PO1, PO2: two that are the same are ErrTwice, wherever they stand, and if only the same
// is left of them.
func TestSamePlaces(t *testing.T) {
	for _, xs := range [][]uint64{
		{0, 0},
		{5, 5},
		{top, top},
		{0, prime},
		{prime, 0},
		{prime, 2 * prime},
		{0, 8 * prime},
		{1, prime + 1},
		{7, top},
		{top, 7},
		{prime - 1, 2*prime - 1},
		{1, 2, 1},
		{2, 1, 1},
		{1, 1, 2},
		{9, 3, 8, 4, prime + 3, 6},
		append(upTo(63), 1),
		append(upTo(63), 63),
		append(upTo(63), prime+30),
		make([]uint64, 64),
	} {
		wantFault(t, xs, api.ErrTwice)
	}
	for _, a := range edges() {
		for _, b := range edges() {
			if a%prime == b%prime {
				wantFault(t, []uint64{a, b}, api.ErrTwice)
			}
		}
	}
}

// PO2: the same point twice is ErrTwice like two of one place, on a curve or not.
func TestSamePoints(t *testing.T) {
	for _, l := range [][]api.Share{
		{{X: 1, Y: 5}, {X: 1, Y: 5}},
		{{X: 1, Y: 5}, {X: 1, Y: 6}},
		{{X: 1, Y: 5}, {X: prime + 1, Y: 5}},
		{{X: 1, Y: 5}, {X: 2, Y: 9}, {X: 3, Y: 1}, {X: 4, Y: 1}, {X: 3, Y: 1}}, // told ahead of what is on no line
	} {
		for _, many := range []int{0, 1, 2, 3, 5, 6} {
			ok, err := Line(l, many)
			wantError(t, "Line", err, api.ErrTwice)
			if ok {
				t.Errorf("Line: true beside an error")
			}
		}
		v, err := Through(l, 0)
		wantError(t, "Through", err, api.ErrTwice)
		if v != 0 {
			t.Errorf("Through: %d beside an error", v)
		}
	}
}

// PO2: many below 0 is ErrArg, whatever the points are.
func TestLineBelowNone(t *testing.T) {
	for _, l := range [][]api.Share{
		nil,
		{},
		{{X: 1, Y: 0}},
		{{X: 1, Y: 5}, {X: 2, Y: 7}},
		{{X: 1, Y: 5}, {X: 1, Y: 5}},
		make([]api.Share, 64),
		make([]api.Share, 65),
	} {
		for _, many := range []int{-1, -2, -64, math.MinInt32, math.MinInt} {
			ok, err := Line(l, many)
			wantError(t, "Line", err, api.ErrArg)
			if ok {
				t.Errorf("Line: true beside an error")
			}
		}
	}
}

// PO2: answers that can be told by hand.
func TestPlainLines(t *testing.T) {
	line := []api.Share{{X: 1, Y: 5}, {X: 2, Y: 7}, {X: 3, Y: 9}}
	bent := []api.Share{{X: 1, Y: 1}, {X: 2, Y: 4}, {X: 3, Y: 9}, {X: 4, Y: 16}}
	flat := []api.Share{{X: 9, Y: 6}, {X: 5, Y: prime + 6}, {X: 1, Y: 6}}
	for many, want := range []bool{false, false, true, true, true} {
		wantLine(t, line, many, want)
	}
	for many, want := range []bool{false, false, false, true, true, true} {
		wantLine(t, bent, many, want)
	}
	for many, want := range []bool{false, true, true, true, true} {
		wantLine(t, flat, many, want)
	}
	wantLine(t, []api.Share{{X: prime, Y: 3}, {X: prime + 1, Y: prime + 5}, {X: 2, Y: 7}}, 2, true)
	wantLine(t, []api.Share{{X: prime, Y: 3}, {X: prime + 1, Y: prime + 5}, {X: 2, Y: 8}}, 2, false)
}

// PO2: the curve of no number is 0 everywhere, so just points of value 0 are on it.
func TestLineOfNoNumbers(t *testing.T) {
	wantLine(t, nil, 0, true)
	wantLine(t, []api.Share{}, 0, true)
	for n := 1; n <= 64; n++ {
		l := on(nil, upTo(n))
		wantLine(t, l, 0, true)
		l[n/2].Y = prime
		wantLine(t, l, 0, true)
		for i := range l {
			l[i].Y++
			wantLine(t, l, 0, false)
			l[i].Y--
		}
	}
	wantLine(t, []api.Share{{X: 0, Y: 8 * prime}}, 0, true)
	wantLine(t, []api.Share{{X: 0, Y: top}}, 0, false)
}

// PO2: as many numbers as points, and more, are always enough.
func TestLineOfEnoughNumbers(t *testing.T) {
	for n := 0; n <= 64; n++ {
		xs, ys := mixed(n, 11), mixed(n, 12)
		l := make([]api.Share, n)
		for i := range l {
			l[i] = api.Share{X: xs[i], Y: ys[i]}
		}
		for _, many := range []int{n, n + 1, 64, 65, 1 << 32, math.MaxInt} {
			wantLine(t, l, many, true)
		}
		if n > 0 {
			wantLine(t, l, n-1, false)
		}
	}
}

// PO2, PO3: points of a curve of n numbers, the last one not 0, are on a curve of n, and
// on none of fewer; with one of them off it, whichever, they are on none of n.
func TestLineOfACurve(t *testing.T) {
	for _, many := range [][2]int{{1, 2}, {1, 64}, {2, 3}, {2, 12}, {3, 7}, {6, 12}, {11, 12}, {32, 64}, {63, 64}} {
		n, points := many[0], many[1]
		for _, xs := range [][]uint64{upTo(points), mixed(points, 21)} {
			l := on(mixed(n, uint64(points)), xs)
			wantLine(t, l, n, true)
			wantLine(t, l, n+1, true)
			wantLine(t, l, points, true)
			wantLine(t, l, n-1, false)
			for i := range l {
				l[i].Y++
				wantLine(t, l, n, false)
				l[i].Y += prime - 1
				wantLine(t, l, n, true)
			}
		}
	}
}

// PO3: any n points of a curve of n numbers tell its value everywhere.
func TestKnownByAsManyPoints(t *testing.T) {
	for _, n := range []int{1, 2, 3, 8, 40, 64} {
		c := mixed(n, uint64(n)*5)
		for _, xs := range [][]uint64{upTo(n), mixed(n, 41), {prime - 2, prime - 1, prime, prime + 1}} {
			many := min(n, len(xs))
			l := on(c[:many], xs[:many])
			for _, at := range edges() {
				wantThrough(t, l, at, Eval(c[:many], at))
			}
		}
	}
}

// PO3: whichever points of a curve are taken, in whichever order, the same is known.
func TestKnownByAnyPoints(t *testing.T) {
	c := []uint64{top, 8, prime - 3, 1 << 40}
	all := on(c, []uint64{1, 2, 3, 4, 5, prime, top})
	for w := range all {
		for x := range all {
			for y := range all {
				for z := range all {
					if w == x || w == y || w == z || x == y || x == z || y == z {
						continue
					}
					wantThrough(t, []api.Share{all[w], all[x], all[y], all[z]}, 100, value(c, 100))
				}
			}
		}
	}
}

// PO3: fewer points don't tell it: to each value at another place belongs a curve.
func TestNotKnownByFewerPoints(t *testing.T) {
	l := on([]uint64{4, 5, 6}, []uint64{1, 2})
	for _, y := range edges() {
		more := append(slices.Clone(l), api.Share{X: 0, Y: y})
		wantLine(t, more, 3, true)
		wantThrough(t, more, 0, y%prime)
	}
}

// What is handed in is not changed, its spare room neither, and is not kept.
func TestArgumentsStay(t *testing.T) {
	list, points := mixed(70, 4), make([]api.Share, 70)
	for i, v := range mixed(70, 6) {
		points[i] = api.Share{X: list[i], Y: v}
	}
	before, beforePoints := slices.Clone(list), slices.Clone(points)
	for _, n := range []int{0, 1, 5, 64, 70} {
		Eval(list[:n], top)
		Weights(list[:n], top)
		Through(points[:n], top)
		for _, many := range []int{-1, 0, 3, 64, 70} {
			Line(points[:n], many)
		}
	}
	if !slices.Equal(list, before) || !slices.Equal(points, beforePoints) {
		t.Errorf("an argument was changed")
	}
}

// Weights are new memory, spare room too: no two answers share any, and none with the places.
func TestWeightsAreNew(t *testing.T) {
	for _, n := range []int{0, 1, 2, 5, 64} {
		xs := mixed(n, 8)
		a, _ := Weights(xs, 3)
		want := slices.Clone(a)
		b, _ := Weights(xs, 3)
		for _, list := range [][]uint64{b[:cap(b)], xs[:cap(xs)]} {
			for i := range list {
				list[i]++
			}
		}
		if !slices.Equal(a, want) {
			t.Errorf("of %d places: weights are shared", n)
		}
	}
}

// What is answered hangs on what is given, not on what was asked before.
func TestAsksStandAlone(t *testing.T) {
	l := on([]uint64{3, 2}, []uint64{1, 2, 3})
	for range 3 {
		wantFault(t, []uint64{1, 1}, api.ErrTwice)
		wantThrough(t, l, 0, 3)
		wantLine(t, l, 2, true)
		wantLine(t, l, 1, false)
		wantWeights(t, []uint64{1}, 1, 1)
	}
}
