package shamir

import (
	"errors"
	"math"
	"math/big"
	"slices"
	"testing"

	"caucus/api"
)

const (
	prime = 1<<61 - 1
	top   = math.MaxUint64 // 7 is left of it
)

// edges are numbers at and around each multiple of Prime within 64 bits, and small ones.
func edges() []uint64 {
	list := []uint64{0, 1, 2, 3, 63, 64, 65, 1 << 32, 1 << 60, top - 1, top}
	for k := uint64(1); k <= 8; k++ {
		list = append(list, k*prime-2, k*prime-1, k*prime, k*prime+1, k*prime+2)
	}
	return list
}

// mixed is a list of numbers all over the 64 bits, always the same one of a seed.
func mixed(n int, seed uint64) []uint64 {
	list := make([]uint64, n)
	v := seed*2 + 1
	for i := range list {
		for range 3 {
			v ^= v << 13
			v ^= v >> 7
			v ^= v << 17
		}
		list[i] = v
	}
	return list
}

func whole(v uint64) *big.Int { return new(big.Int).SetUint64(v) }

// left is what is left of a whole number when it is divided by Prime.
func left(v *big.Int) uint64 { return new(big.Int).Mod(v, whole(prime)).Uint64() }

// value is the value of the curve of a secret and chance, each power for itself, by whole numbers.
func value(secret uint64, chance []uint64, x uint64) uint64 {
	sum := whole(secret)
	for i, c := range chance {
		power := new(big.Int).Exp(whole(x), big.NewInt(int64(i)+1), nil)
		sum.Add(sum, power.Mul(power, whole(c)))
	}
	return left(sum)
}

// on is the shares at some places, by whole numbers.
func on(secret uint64, chance []uint64, xs ...uint64) []api.Share {
	l := make([]api.Share, len(xs))
	for i, x := range xs {
		l[i] = api.Share{X: x, Y: value(secret, chance, x)}
	}
	return l
}

// upTo is the places 1, 2 and so on.
func upTo(n int) []uint64 {
	xs := make([]uint64, n)
	for i := range xs {
		xs[i] = uint64(i) + 1
	}
	return xs
}

// far is places all over the field, in no order.
func far(n int) []uint64 {
	xs := mixed(n, 51)
	for i := range xs {
		xs[i] = xs[i]%(prime-1) + 1
	}
	return xs
}

// backward is a list from its end on.
func backward(l []api.Share) []api.Share {
	l = slices.Clone(l)
	slices.Reverse(l)
	return l
}

// stirred is a list in another order, of which no two neighbours stay so.
func stirred(l []api.Share) []api.Share {
	var out []api.Share
	for first := range 3 {
		for i := first; i < len(l); i += 3 {
			out = append(out, l[len(l)-1-i])
		}
	}
	return out
}

func wantError(t *testing.T, call string, err error, want api.Errno) {
	t.Helper()
	var no api.Errno
	if !errors.As(err, &no) || no != want {
		t.Errorf("%s: error %v, not %v", call, err, want)
	}
}

func wantSplit(t *testing.T, secret uint64, chance []uint64, many int, want []api.Share) {
	t.Helper()
	got, err := Split(secret, chance, many)
	if err != nil || !slices.Equal(got, want) {
		t.Errorf("Split(%d, %d, %d): %v, %v, not %v", secret, chance, many, got, err, want)
	}
}

func wantNoSplit(t *testing.T, chance []uint64, many int) {
	t.Helper()
	got, err := Split(5, chance, many)
	wantError(t, "Split", err, api.ErrArg)
	if len(got) != 0 {
		t.Errorf("Split of %d numbers, for %d: %v beside an error", len(chance), many, got)
	}
}

func wantSorted(t *testing.T, l, want []api.Share) {
	t.Helper()
	got, err := Sorted(l)
	if err != nil || !slices.Equal(got, want) {
		t.Errorf("Sorted(%v): %v, %v, not %v", l, got, err, want)
	}
}

func wantJoin(t *testing.T, l []api.Share, need int, want uint64) {
	t.Helper()
	got, err := Join(l, need)
	if err != nil || got != want {
		t.Errorf("Join(%v, %d): %d, %v, not %d", l, need, got, err, want)
	}
}

func wantNoJoin(t *testing.T, l []api.Share, need int, want api.Errno) {
	t.Helper()
	got, err := Join(l, need)
	wantError(t, "Join", err, want)
	if got != 0 {
		t.Errorf("Join(%v, %d): %d beside an error", l, need, got)
	}
}

func wantSum(t *testing.T, a, b, want []api.Share) {
	t.Helper()
	got, err := Sum(a, b)
	if err != nil || !slices.Equal(got, want) {
		t.Errorf("Sum(%v, %v): %v, %v, not %v", a, b, got, err, want)
	}
}

func wantNoSum(t *testing.T, a, b []api.Share, want api.Errno) {
	t.Helper()
	got, err := Sum(a, b)
	wantError(t, "Sum", err, want)
	if len(got) != 0 {
		t.Errorf("Sum(%v, %v): %v beside an error", a, b, got)
	}
}

// wantFault: whoever sorts shares answers what is wrong with them.
func wantFault(t *testing.T, l []api.Share, want api.Errno) {
	t.Helper()
	got, err := Sorted(l)
	wantError(t, "Sorted", err, want)
	if len(got) != 0 {
		t.Errorf("Sorted(%v): %v beside an error", l, got)
	}
	for _, need := range []int{1, 2, len(l), len(l) + 1, 65, math.MaxInt} {
		wantNoJoin(t, l, max(need, 1), want)
	}
	good := on(3, nil, 1, 2)
	wantNoSum(t, l, l, want)
	wantNoSum(t, l, good, want)
	wantNoSum(t, good, l, want)
}

// SH1: shares that can be told by hand; the document's example is the first.
func TestPlainSplit(t *testing.T) {
	wantSplit(t, 5, []uint64{2}, 3, []api.Share{{X: 1, Y: 7}, {X: 2, Y: 9}, {X: 3, Y: 11}})
	wantSplit(t, 5, []uint64{2}, 2, []api.Share{{X: 1, Y: 7}, {X: 2, Y: 9}})
	wantSplit(t, 5, nil, 1, []api.Share{{X: 1, Y: 5}})
	wantSplit(t, 5, []uint64{}, 3, []api.Share{{X: 1, Y: 5}, {X: 2, Y: 5}, {X: 3, Y: 5}})
	wantSplit(t, 0, nil, 2, []api.Share{{X: 1, Y: 0}, {X: 2, Y: 0}})
	wantSplit(t, 4, []uint64{3, 2}, 3, []api.Share{{X: 1, Y: 9}, {X: 2, Y: 18}, {X: 3, Y: 31}})
	wantSplit(t, 0, []uint64{0, 0, 1}, 4, []api.Share{{X: 1, Y: 1}, {X: 2, Y: 8}, {X: 3, Y: 27}, {X: 4, Y: 64}})
	wantSplit(t, prime-1, []uint64{1}, 2, []api.Share{{X: 1, Y: 0}, {X: 2, Y: 1}})
	wantSplit(t, 1, []uint64{prime - 1}, 3, []api.Share{{X: 1, Y: 0}, {X: 2, Y: prime - 1}, {X: 3, Y: prime - 2}})
	wantSplit(t, 0, []uint64{1 << 60}, 2, []api.Share{{X: 1, Y: 1 << 60}, {X: 2, Y: 1}})
}

// SH1: of a secret or a chance not below Prime counts what is left of it.
func TestSplitBeyondTheField(t *testing.T) {
	wantSplit(t, prime, nil, 1, []api.Share{{X: 1, Y: 0}})
	wantSplit(t, prime+5, []uint64{prime + 2}, 3, []api.Share{{X: 1, Y: 7}, {X: 2, Y: 9}, {X: 3, Y: 11}})
	wantSplit(t, top, []uint64{prime}, 2, []api.Share{{X: 1, Y: 7}, {X: 2, Y: 7}})
	wantSplit(t, top, []uint64{top}, 2, []api.Share{{X: 1, Y: 14}, {X: 2, Y: 21}})
	for _, secret := range edges() {
		wantSplit(t, secret, nil, 1, on(secret%prime, nil, 1))
		for _, c := range edges() {
			wantSplit(t, secret, []uint64{c}, 3, on(secret%prime, []uint64{c % prime}, 1, 2, 3))
		}
	}
}

// SH1: for as many as can be, by as many numbers of chance as can be, each as whole numbers tell it.
func TestSplitAsWholeNumbers(t *testing.T) {
	for _, many := range []int{1, 2, 3, 12, 32, 63, 64} {
		for _, n := range []int{0, 1, 2, many / 2, many - 2, many - 1} {
			if n < 0 || n >= many {
				continue
			}
			for _, chance := range [][]uint64{mixed(n, uint64(many)), make([]uint64, n), slices.Repeat([]uint64{prime - 1}, n), slices.Repeat([]uint64{top}, n)} {
				for _, secret := range []uint64{0, 1, 1 << 40, prime - 1, prime, top} {
					wantSplit(t, secret, chance, many, on(secret, chance, upTo(many)...))
				}
			}
		}
	}
}

// SH1: for none, and for more than 64, there are no shares, whatever chance is.
func TestSplitForNoneOrTooMany(t *testing.T) {
	for _, many := range []int{0, -1, -64, math.MinInt32, math.MinInt, 65, 66, 1 << 32, 1<<32 + 1, math.MaxInt} {
		for _, n := range []int{0, 1, 2, 63, 64, 65, 70} {
			wantNoSplit(t, mixed(n, 3), many)
		}
	}
}

// SH1: chance with as many numbers as there are shares, or more, is ErrArg; one fewer is not.
func TestSplitOfTooMuchChance(t *testing.T) {
	for many := 1; many <= 64; many++ {
		wantNoSplit(t, mixed(many, 4), many)
		wantNoSplit(t, make([]uint64, many+1), many)
		wantNoSplit(t, mixed(1000, 4), many)
		if got, err := Split(1, mixed(many-1, 4), many); err != nil || len(got) != many {
			t.Errorf("Split by %d numbers, for %d: %v, %v", many-1, many, got, err)
		}
	}
}

// SH1: shares come by their places, in whatever order they are given; none stay none.
func TestPlainSorted(t *testing.T) {
	want := []api.Share{{X: 1, Y: 9}, {X: 2, Y: 4}, {X: 7, Y: 0}}
	for _, order := range [][3]int{{0, 1, 2}, {0, 2, 1}, {1, 0, 2}, {1, 2, 0}, {2, 0, 1}, {2, 1, 0}} {
		wantSorted(t, []api.Share{want[order[0]], want[order[1]], want[order[2]]}, want)
	}
	wantSorted(t, nil, nil)
	wantSorted(t, []api.Share{}, nil)
	wantSorted(t, []api.Share{{X: 3, Y: 8}}, []api.Share{{X: 3, Y: 8}})
	wantSorted(t, []api.Share{{X: 3, Y: 8}, {X: 1, Y: 8}}, []api.Share{{X: 1, Y: 8}, {X: 3, Y: 8}})
	wantSorted(t, []api.Share{{X: prime - 1, Y: prime - 1}, {X: 1, Y: 0}}, []api.Share{{X: 1, Y: 0}, {X: prime - 1, Y: prime - 1}})
	wantSorted(t, []api.Share{{X: 1 << 60, Y: 1}, {X: 1 << 32, Y: 2}, {X: 1<<32 - 1, Y: 3}}, []api.Share{{X: 1<<32 - 1, Y: 3}, {X: 1 << 32, Y: 2}, {X: 1 << 60, Y: 1}})
}

// SH1: each share keeps its value, of as many shares as can be.
func TestSortedOfEachLength(t *testing.T) {
	for n := range 65 {
		for _, xs := range [][]uint64{upTo(n), far(n)} {
			value := map[uint64]uint64{}
			for i, y := range mixed(n, 6) {
				value[xs[i]] = y % prime
			}
			var l, want []api.Share
			for _, x := range xs {
				l = append(l, api.Share{X: x, Y: value[x]})
			}
			slices.Sort(xs)
			for _, x := range xs {
				want = append(want, api.Share{X: x, Y: value[x]})
			}
			for _, given := range [][]api.Share{l, want, backward(want), stirred(want)} {
				wantSorted(t, given, want)
			}
		}
	}
}

// SH1, SH2: more than 64 are ErrArg, whether or not two have one place.
func TestTooManyShares(t *testing.T) {
	for _, n := range []int{65, 66, 128, 1000} {
		wantFault(t, on(5, []uint64{2}, upTo(n)...), api.ErrArg)
		wantFault(t, on(5, []uint64{2}, append(upTo(n-1), 1)...), api.ErrArg)
		wantFault(t, slices.Repeat([]api.Share{{X: 1, Y: 5}}, n), api.ErrArg)
	}
}

// SH1, SH2: the place 0, and places and values not below Prime, are ErrArg, wherever they
// stand, also ahead of two of one place.
func TestSharesOutside(t *testing.T) {
	for _, bad := range []api.Share{
		{X: 0, Y: 0},
		{X: 0, Y: 5},
		{X: prime, Y: 0},
		{X: prime, Y: 5},
		{X: prime + 1, Y: 5},
		{X: 8 * prime, Y: 5},
		{X: top, Y: 5},
		{X: 9, Y: prime},
		{X: 9, Y: prime + 1},
		{X: 9, Y: 8 * prime},
		{X: 9, Y: top},
		{X: 0, Y: prime},
		{X: prime, Y: prime},
		{X: top, Y: top},
	} {
		wantFault(t, []api.Share{bad}, api.ErrArg)
		wantFault(t, []api.Share{bad, bad}, api.ErrArg)
		for _, l := range [][]api.Share{
			on(5, []uint64{2}, 1, 2, 3),
			on(5, []uint64{2}, 1, 1, 3),
			on(5, []uint64{2}, 3, 1, 1),
			on(5, []uint64{2}, upTo(63)...),
		} {
			for i := range len(l) + 1 {
				wantFault(t, slices.Insert(slices.Clone(l), i, bad), api.ErrArg)
			}
		}
	}
}

// SH1, SH2: the greatest numbers of the field are shares like others.
func TestSharesJustInside(t *testing.T) {
	wantJoin(t, []api.Share{{X: prime - 1, Y: prime - 1}}, 1, prime-1)
	wantJoin(t, []api.Share{{X: 1, Y: prime - 1}}, 1, prime-1)
	wantJoin(t, []api.Share{{X: prime - 1, Y: 0}}, 1, 0)
	wantJoin(t, []api.Share{{X: prime - 1, Y: 3}, {X: 1, Y: 7}}, 2, 5) // 5, by 2, at -1 and at 1
	wantJoin(t, []api.Share{{X: 1, Y: 7}, {X: prime - 1, Y: 3}, {X: prime - 2, Y: 1}, {X: prime - 3, Y: prime - 1}}, 2, 5)
	wantSum(t, []api.Share{{X: prime - 1, Y: prime - 1}}, []api.Share{{X: prime - 1, Y: prime - 1}}, []api.Share{{X: prime - 1, Y: prime - 2}})
}

// SH1, SH2: two of one place are ErrTwice, wherever they stand, of one value or not.
func TestSamePlaces(t *testing.T) {
	for _, l := range [][]api.Share{
		{{X: 1, Y: 5}, {X: 1, Y: 5}},
		{{X: 1, Y: 5}, {X: 1, Y: 6}},
		{{X: 1, Y: 6}, {X: 1, Y: 5}},
		{{X: prime - 1, Y: 0}, {X: prime - 1, Y: prime - 1}},
		{{X: 1, Y: 5}, {X: 2, Y: 6}, {X: 1, Y: 5}},
		{{X: 2, Y: 5}, {X: 1, Y: 6}, {X: 1, Y: 5}},
		{{X: 2, Y: 5}, {X: 2, Y: 6}, {X: 1, Y: 5}},
		{{X: 5, Y: 5}, {X: 1, Y: 6}, {X: 5, Y: 7}, {X: 5, Y: 8}},
		on(5, nil, append(upTo(63), 1)...),
		on(5, nil, append(upTo(63), 30)...),
		on(5, nil, append(upTo(63), 63)...),
		slices.Repeat([]api.Share{{X: 1, Y: 5}}, 64),
	} {
		wantFault(t, l, api.ErrTwice)
		wantFault(t, backward(l), api.ErrTwice)
	}
}

// SH2: secrets that can be told by hand.
func TestPlainJoin(t *testing.T) {
	wantJoin(t, []api.Share{{X: 1, Y: 7}, {X: 2, Y: 9}}, 2, 5)
	wantJoin(t, []api.Share{{X: 2, Y: 9}, {X: 1, Y: 7}}, 2, 5)
	wantJoin(t, []api.Share{{X: 3, Y: 11}, {X: 1, Y: 7}}, 2, 5)
	wantJoin(t, []api.Share{{X: 3, Y: 11}, {X: 2, Y: 9}, {X: 1, Y: 7}}, 2, 5)
	wantJoin(t, []api.Share{{X: 3, Y: 11}, {X: 2, Y: 9}, {X: 1, Y: 7}}, 3, 5) // the third number of the curve is 0
	wantJoin(t, []api.Share{{X: 4, Y: 6}}, 1, 6)
	wantJoin(t, []api.Share{{X: 4, Y: 6}, {X: 9, Y: 6}, {X: 2, Y: 6}}, 1, 6)
	wantJoin(t, []api.Share{{X: 4, Y: 0}}, 1, 0)
	wantJoin(t, []api.Share{{X: 1, Y: 9}, {X: 2, Y: 18}, {X: 3, Y: 31}}, 3, 4)
	wantJoin(t, []api.Share{{X: 1, Y: 0}, {X: 2, Y: 1}}, 2, prime-1)
	wantJoin(t, []api.Share{{X: 1, Y: 1}, {X: 3, Y: 2}}, 2, 1<<60) // the half of 1
}

// SH2: need below 1 is ErrArg, ahead of whatever else is wrong.
func TestJoinOfNoNeed(t *testing.T) {
	for _, need := range []int{0, -1, -64, math.MinInt32, math.MinInt} {
		for _, l := range [][]api.Share{
			nil,
			{},
			{{X: 1, Y: 0}},
			{{X: 1, Y: 7}, {X: 2, Y: 9}},
			{{X: 0, Y: 7}},
			{{X: 1, Y: 7}, {X: 1, Y: 7}},
			on(0, nil, upTo(64)...),
			on(0, nil, upTo(65)...),
		} {
			wantNoJoin(t, l, need, api.ErrArg)
		}
	}
}

// SH2: fewer shares than are needed are ErrFew, just as many are enough.
func TestJoinOfTooFew(t *testing.T) {
	for n := range 65 {
		l := on(5, mixed(max(n, 1)-1, 8), upTo(n)...)
		for _, need := range []int{n + 1, n + 2, 65, 66, 1 << 32, 1<<32 + 1, math.MaxInt} {
			if need > n {
				wantNoJoin(t, l, need, api.ErrFew)
			}
		}
		if n > 0 {
			wantJoin(t, l, n, 5)
		}
	}
	wantNoJoin(t, nil, 1, api.ErrFew)
	wantNoJoin(t, []api.Share{}, 1, api.ErrFew)
	wantNoJoin(t, []api.Share{{X: 1, Y: 1}, {X: 2, Y: 4}, {X: 3, Y: 9}}, 4, api.ErrFew)
}

// SH2: with more shares than are needed all have to lie on the curve, the first and the
// last too; with just as many they always do.
func TestJoinOfFalseShares(t *testing.T) {
	for _, k := range [][2]int{{1, 2}, {1, 64}, {2, 3}, {2, 12}, {3, 4}, {6, 12}, {11, 12}, {63, 64}} {
		need, many := k[0], k[1]
		for _, xs := range [][]uint64{upTo(many), far(many)} {
			l := on(77, mixed(need-1, uint64(many)), xs...)
			wantJoin(t, l, need, 77)
			for i := range l {
				was := l[i].Y
				for _, y := range []uint64{(was + 1) % prime, (was + prime - 1) % prime} {
					l[i].Y = y
					wantNoJoin(t, l, need, api.ErrSum)
				}
				if _, err := Join(l, many); err != nil {
					t.Errorf("Join of %d shares of %d: %v", many, many, err)
				}
				l[i].Y = was
			}
			wantJoin(t, l, need, 77)
		}
	}
}

// SH2: a curve of more numbers than are needed is no curve of as many.
func TestJoinOfLongerCurves(t *testing.T) {
	bent := []api.Share{{X: 1, Y: 1}, {X: 2, Y: 4}, {X: 3, Y: 9}, {X: 4, Y: 16}}
	wantNoJoin(t, bent, 1, api.ErrSum)
	wantNoJoin(t, bent, 2, api.ErrSum)
	wantJoin(t, bent, 3, 0)
	wantJoin(t, bent, 4, 0)
	wantNoJoin(t, bent, 5, api.ErrFew)
	for n := 2; n <= 64; n++ {
		l, err := Split(9, mixed(n-1, 14), n)
		if err != nil {
			t.Fatal(err)
		}
		wantJoin(t, l, n, 9)
		wantNoJoin(t, l, n-1, api.ErrSum)
		wantNoJoin(t, l, 1, api.ErrSum)
	}
}

// SH2: sums that can be told by hand come by their places, however both are given.
func TestPlainSum(t *testing.T) {
	a := []api.Share{{X: 1, Y: 7}, {X: 2, Y: 9}, {X: 3, Y: 11}}
	b := []api.Share{{X: 1, Y: 3}, {X: 2, Y: 2}, {X: 3, Y: prime - 11}}
	want := []api.Share{{X: 1, Y: 10}, {X: 2, Y: 11}, {X: 3, Y: 0}}
	for _, x := range [][]api.Share{a, backward(a), {a[1], a[2], a[0]}} {
		for _, y := range [][]api.Share{b, backward(b), {b[2], b[0], b[1]}} {
			wantSum(t, x, y, want)
			wantSum(t, y, x, want)
		}
	}
	wantSum(t, nil, nil, nil)
	wantSum(t, nil, []api.Share{}, nil)
	wantSum(t, []api.Share{{X: 5, Y: 0}}, []api.Share{{X: 5, Y: 0}}, []api.Share{{X: 5, Y: 0}})
	wantSum(t, []api.Share{{X: 5, Y: prime - 1}}, []api.Share{{X: 5, Y: prime - 1}}, []api.Share{{X: 5, Y: prime - 2}})
	wantSum(t, []api.Share{{X: 5, Y: prime - 1}}, []api.Share{{X: 5, Y: 1}}, []api.Share{{X: 5, Y: 0}})
	wantSum(t, a, a, []api.Share{{X: 1, Y: 14}, {X: 2, Y: 18}, {X: 3, Y: 22}})
}

// SH2: values are added in the field, at as many places as can be.
func TestSumAsWholeNumbers(t *testing.T) {
	for n := range 65 {
		for _, xs := range [][]uint64{upTo(n), far(n)} {
			slices.Sort(xs)
			var a, b, want []api.Share
			more := mixed(n, 23)
			for i, v := range mixed(n, 22) {
				x, v, w := xs[i], v%prime, more[i]%prime
				a = append(a, api.Share{X: x, Y: v})
				b = append(b, api.Share{X: x, Y: w})
				want = append(want, api.Share{X: x, Y: left(new(big.Int).Add(whole(v), whole(w)))})
			}
			wantSum(t, a, b, want)
			wantSum(t, backward(a), stirred(b), want)
		}
	}
}

// SH2: both must have the same places, neither fewer nor others.
func TestSumOfOtherPlaces(t *testing.T) {
	for _, k := range [][2][]uint64{
		{{}, {1}},
		{{1}, {2}},
		{{1}, {1, 2}},
		{{1, 2}, {1, 3}},
		{{1, 2}, {3, 2}},
		{{2, 1}, {3, 1}},
		{{1, 2, 3}, {1, 2}},
		{{1, 2, 3}, {2, 3}},
		{{1, 2, 3}, {1, 2, 4}},
		{{1, 2, 3}, {1, 2, prime - 1}},
		{upTo(64), upTo(63)},
		{upTo(63), append(upTo(62), 64)},
	} {
		a, b := on(5, []uint64{2}, k[0]...), on(4, []uint64{3}, k[1]...)
		wantNoSum(t, a, b, api.ErrArg)
		wantNoSum(t, b, a, api.ErrArg)
	}
}

// SH2: the first one's error goes ahead of the second one's, and both ahead of other places.
func TestSumOfTwoFaults(t *testing.T) {
	twice := []api.Share{{X: 1, Y: 5}, {X: 1, Y: 5}}
	wrong := []api.Share{{X: 0, Y: 5}}
	wantNoSum(t, twice, wrong, api.ErrTwice)
	wantNoSum(t, wrong, twice, api.ErrArg)
	wantNoSum(t, twice, nil, api.ErrTwice)
	wantNoSum(t, nil, twice, api.ErrTwice)
	wantNoSum(t, twice, on(5, nil, 1, 2), api.ErrTwice)
	wantNoSum(t, on(5, nil, 1, 2, 3), twice, api.ErrTwice)
	wantNoSum(t, twice, on(5, nil, upTo(65)...), api.ErrTwice)
	wantNoSum(t, on(5, nil, upTo(65)...), twice, api.ErrArg)
}

// SH3: any as many as are needed join the secret, in any order, more as well; fewer do not.
func TestAnyJoinTheSecret(t *testing.T) {
	for _, secret := range []uint64{0, 1, 1 << 60, prime - 1, prime, prime + 5, top} {
		for need := 1; need <= 6; need++ {
			l, err := Split(secret, mixed(need-1, secret), 6)
			if err != nil {
				t.Fatal(err)
			}
			for some := range 1 << len(l) {
				var in []api.Share
				for i, s := range l {
					if some>>i&1 == 1 {
						in = append(in, s)
					}
				}
				for _, given := range [][]api.Share{in, backward(in), stirred(in)} {
					if len(in) < need {
						wantNoJoin(t, given, need, api.ErrFew)
					} else {
						wantJoin(t, given, need, secret%prime)
					}
				}
			}
		}
	}
}

// SH3: of as many shares as can be, wherever those that join begin.
func TestManyJoinTheSecret(t *testing.T) {
	for _, many := range []int{1, 2, 12, 63, 64} {
		for _, n := range []int{0, 1, many / 2, many - 1} {
			if n >= many {
				continue
			}
			l, err := Split(top-3, mixed(n, 61), many)
			if err != nil {
				t.Fatal(err)
			}
			turned := append(slices.Clone(l), l...)
			for first := range l {
				wantJoin(t, turned[first:first+n+1], n+1, 4)
			}
			wantJoin(t, backward(l), n+1, 4)
		}
	}
}

// SH3: fewer don't tell it: to each secret belongs a curve through them.
func TestFewerTellNothing(t *testing.T) {
	l, err := Split(5, []uint64{2, 8}, 5)
	if err != nil {
		t.Fatal(err)
	}
	for _, secret := range edges() {
		third := on(0, nil, 3)[0]
		// The curve through (0, secret) and the first two shares, at 3: 1, -3 and 3 times those.
		sum := new(big.Int).Sub(whole(l[1].Y), whole(l[0].Y))
		third.Y = left(sum.Add(sum.Mul(sum, big.NewInt(3)), whole(secret)))
		wantJoin(t, []api.Share{l[0], l[1], third}, 3, secret%prime)
	}
}

// SH3: the shares of a sum join the sum, any as many as the longer curve needs.
func TestSumsJoinTheSum(t *testing.T) {
	for _, k := range []struct {
		a, b       uint64
		n, m, many int
	}{
		{5, 4, 1, 1, 3},
		{0, 0, 0, 0, 1},
		{prime - 1, prime - 1, 2, 2, 4},
		{prime - 1, 1, 3, 1, 5},
		{top, top, 0, 4, 5},
		{1 << 60, 1 << 60, 31, 31, 64},
		{123, 456, 63, 63, 64},
	} {
		a, errA := Split(k.a, mixed(k.n, 71), k.many)
		b, errB := Split(k.b, mixed(k.m, 72), k.many)
		if errA != nil || errB != nil {
			t.Fatal(errA, errB)
		}
		need, want := max(k.n, k.m)+1, (k.a%prime+k.b%prime)%prime
		for _, given := range [][]api.Share{b, backward(b), stirred(b)} {
			sum, err := Sum(a, given)
			if err != nil {
				t.Fatal(err)
			}
			wantJoin(t, sum, need, want)
			for first := range len(sum) - need + 1 {
				wantJoin(t, sum[first:first+need], need, want)
			}
		}
	}
}

// SH3: a sum of sums joins the sum of all.
func TestSumOfManyJoinsAll(t *testing.T) {
	var all uint64
	sum := on(0, nil, upTo(7)...)
	for i := range uint64(40) {
		secret := prime - 3 + i
		l, err := Split(secret, mixed(3, i), 7)
		if err != nil {
			t.Fatal(err)
		}
		if sum, err = Sum(sum, backward(l)); err != nil {
			t.Fatal(err)
		}
		all = (all + secret%prime) % prime
		wantJoin(t, sum, 4, all)
		wantJoin(t, sum[3:], 4, all)
	}
}

// What is handed in is not changed, its spare room neither, nor when it is out of order.
func TestArgumentsStay(t *testing.T) {
	chance := mixed(70, 81)
	a, b := backward(on(5, []uint64{2}, upTo(70)...)), stirred(on(4, []uint64{3}, upTo(70)...))
	chanceWas, aWas, bWas := slices.Clone(chance), slices.Clone(a), slices.Clone(b)
	for _, n := range []int{0, 1, 2, 5, 63, 64, 65, 70} {
		for _, many := range []int{0, 1, 64, 65} {
			Split(9, chance[:n], many)
		}
		for _, need := range []int{0, 1, 2, 64, 65} {
			Join(a[:n], need)
		}
		Sorted(a[:n])
		Sum(a[:n], a[:n])
		Sum(a[:n], b[:n])
	}
	odd, oddWas := on(5, nil, 3, 2, 3, 1), on(5, nil, 3, 2, 3, 1)
	Sorted(odd)
	Join(odd, 1)
	Sum(odd, odd)
	if !slices.Equal(chance, chanceWas) || !slices.Equal(a, aWas) || !slices.Equal(b, bWas) || !slices.Equal(odd, oddWas) {
		t.Errorf("an argument was changed")
	}
}

// spoil writes all over a list, its spare room too.
func spoil[T any](l []T, v T) {
	l = l[:cap(l)]
	for i := range l {
		l[i] = v
	}
}

// Answers are new memory, spare room too: no two share any, and none with an argument.
func TestAnswersAreNew(t *testing.T) {
	for n := 1; n <= 64; n++ {
		chance := mixed(n-1, 91)
		l := on(5, chance, upTo(n)...)
		given, more := slices.Clone(l), slices.Clone(l)
		double, err := Sum(l, l)
		if err != nil {
			t.Fatal(err)
		}
		asks := []func() ([]api.Share, error){
			func() ([]api.Share, error) { return Split(5, chance, n) },
			func() ([]api.Share, error) { return Sorted(given) },
			func() ([]api.Share, error) { return Sum(given, more) },
		}
		for i, want := range [][]api.Share{l, l, double} {
			first, err := asks[i]()
			if err != nil {
				t.Fatal(err)
			}
			spoil(first, api.Share{X: 3, Y: 3})
			second, err := asks[i]()
			if err != nil || !slices.Equal(second, want) {
				t.Errorf("for %d: what was answered is kept, or shared with what was given", n)
			}
			third, _ := asks[i]()
			spoil(third, api.Share{X: 4, Y: 4})
			if !slices.Equal(second, want) {
				t.Errorf("for %d: two answers share memory", n)
			}
		}
		shares, _ := Split(5, chance, n)
		sorted, _ := Sorted(given)
		sum, _ := Sum(given, more)
		spoil(chance, 1)
		spoil(given, api.Share{X: 2, Y: 2})
		spoil(more, api.Share{X: 2, Y: 2})
		if !slices.Equal(shares, l) || !slices.Equal(sorted, l) || !slices.Equal(sum, double) {
			t.Errorf("for %d: an argument was kept", n)
		}
	}
}

// What is answered hangs on what is given, not on what was asked before.
func TestAsksStandAlone(t *testing.T) {
	for range 3 {
		wantFault(t, []api.Share{{X: 1, Y: 5}, {X: 1, Y: 5}}, api.ErrTwice)
		wantSplit(t, 5, []uint64{2}, 2, []api.Share{{X: 1, Y: 7}, {X: 2, Y: 9}})
		wantJoin(t, []api.Share{{X: 1, Y: 7}, {X: 2, Y: 9}}, 2, 5)
		wantNoJoin(t, []api.Share{{X: 1, Y: 7}}, 2, api.ErrFew)
		wantNoJoin(t, []api.Share{{X: 1, Y: 7}, {X: 2, Y: 9}}, 1, api.ErrSum)
		wantSum(t, []api.Share{{X: 1, Y: 7}}, []api.Share{{X: 1, Y: 8}}, []api.Share{{X: 1, Y: 15}})
	}
}
