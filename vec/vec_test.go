package vec

import (
	"errors"
	"math"
	"math/big"
	"slices"
	"testing"

	"caucus/api"
)

const (
	top  = math.MaxUint32
	half = 1 << 31
)

// edges are the numbers at which sums, differences and products wrap, and what stands beside these.
func edges() []uint32 {
	return []uint32{0, 1, 2, 3, 7, 1<<16 - 1, 1 << 16, 1<<16 + 1, half - 1, half, half + 1, top - 1, top}
}

// mixed is a row of numbers all over the 32 bits, always the same one of a seed.
func mixed(n int, seed uint32) []uint32 {
	row := make([]uint32, n)
	v := seed*2 + 1
	for i := range row {
		v ^= v << 13
		v ^= v >> 17
		v ^= v << 5
		row[i] = v
	}
	return row
}

// left is what is left of a whole number when it is divided by 2^32.
func left(v *big.Int) uint32 {
	return uint32(new(big.Int).Mod(v, big.NewInt(1<<32)).Uint64())
}

func whole(v uint32) *big.Int { return big.NewInt(int64(v)) }

func wantRow(t *testing.T, call string, got []uint32, err error, want ...uint32) {
	t.Helper()
	wantOK(t, call, err)
	if !slices.Equal(got, want) {
		t.Errorf("%s: %d, not %d", call, got, want)
	}
}

func wantOK(t *testing.T, call string, err error) {
	t.Helper()
	if err != nil {
		t.Errorf("%s: %v", call, err)
	}
}

func wantArg(t *testing.T, call string, got []uint32, err error) {
	t.Helper()
	var no api.Errno
	if !errors.As(err, &no) || no != api.ErrArg {
		t.Errorf("%s: error %v, not ErrArg", call, err)
	}
	if len(got) != 0 {
		t.Errorf("%s: %d beside an error", call, got)
	}
}

// VE1: as many noughts as are asked for, from none to 32.
func TestZero(t *testing.T) {
	for n := 0; n <= 32; n++ {
		got, err := Zero(n)
		want := make([]uint32, n)
		wantRow(t, "Zero", got, err, want...)
	}
}

// VE1: ErrArg below 0 and beyond 32.
func TestZeroOfNoRow(t *testing.T) {
	for _, n := range []int{-1, -32, math.MinInt, 33, 34, 64, 1 << 32, 1<<32 + 5, math.MaxInt} {
		got, err := Zero(n)
		wantArg(t, "Zero", got, err)
	}
}

// VE1: sums that can be told by hand; the document's example is among them.
func TestPlainSums(t *testing.T) {
	for _, c := range [][3][]uint32{
		{{top}, {1}, {0}},
		{{7}, {top}, {6}},
		{{1, 2, 3}, {10, 20, 30}, {11, 22, 33}},
		{{top, 1}, {top, 1}, {top - 1, 2}},
		{{half}, {half}, {0}},
		{{half - 1}, {half}, {top}},
		{{0, top}, {0, 0}, {0, top}},
		{{top, 0}, {1, 0}, {0, 0}}, // what wraps is not carried to the number beside it
		{{0, top}, {0, 1}, {0, 0}},
		{{}, {}, {}},
		{nil, {}, nil},
		{nil, nil, nil},
	} {
		got, err := Add(c[0], c[1])
		wantRow(t, "Add", got, err, c[2]...)
	}
}

// VE1: differences that can be told by hand.
func TestPlainDifferences(t *testing.T) {
	for _, c := range [][3][]uint32{
		{{5}, {3}, {2}},
		{{3}, {5}, {top - 1}},
		{{0}, {1}, {top}},
		{{0}, {top}, {1}},
		{{half}, {half}, {0}},
		{{0}, {half}, {half}},
		{{9, 8, 7}, {1, 2, 3}, {8, 6, 4}},
		{{0, 5}, {1, 0}, {top, 5}},
		{{5, 0}, {0, 1}, {5, top}},
		{{}, {}, {}},
		{{}, nil, nil},
		{nil, nil, nil},
	} {
		got, err := Sub(c[0], c[1])
		wantRow(t, "Sub", got, err, c[2]...)
	}
}

// VE1: products that can be told by hand.
func TestPlainProducts(t *testing.T) {
	for _, c := range []struct {
		a    []uint32
		k    uint32
		want []uint32
	}{
		{[]uint32{1, 2, 3}, 5, []uint32{5, 10, 15}},
		{[]uint32{1, 2, top}, 0, []uint32{0, 0, 0}},
		{[]uint32{4, 0, top}, 1, []uint32{4, 0, top}},
		{[]uint32{1, 2, 0}, top, []uint32{top, top - 1, 0}},
		{[]uint32{top}, top, []uint32{1}},
		{[]uint32{half, half + 1}, 2, []uint32{0, 2}},
		{[]uint32{1 << 16}, 1 << 16, []uint32{0}},
		{nil, 9, nil},
		{[]uint32{}, 9, nil},
	} {
		got, err := Times(c.a, c.k)
		wantRow(t, "Times", got, err, c.want...)
	}
}

// VE1: each number is what is left of the whole sum, difference and product.
func TestAgainstWholeNumbers(t *testing.T) {
	for _, x := range edges() {
		for _, y := range edges() {
			a, b := whole(x), whole(y)
			sum, err := Add([]uint32{x}, []uint32{y})
			wantRow(t, "Add", sum, err, left(new(big.Int).Add(a, b)))
			diff, err := Sub([]uint32{x}, []uint32{y})
			wantRow(t, "Sub", diff, err, left(new(big.Int).Sub(a, b)))
			times, err := Times([]uint32{x}, y)
			wantRow(t, "Times", times, err, left(new(big.Int).Mul(a, b)))
		}
	}
}

// VE1: of rows of each length, 32 too, each number is worked out, at its own place.
func TestEachLength(t *testing.T) {
	for n := 0; n <= 32; n++ {
		a, b := mixed(n, 5), mixed(n, 77)
		sum, diff, times := make([]uint32, n), make([]uint32, n), make([]uint32, n)
		for i := range n {
			sum[i], diff[i], times[i] = a[i]+b[i], a[i]-b[i], a[i]*12_345
		}
		got, err := Add(a, b)
		wantRow(t, "Add", got, err, sum...)
		got, err = Sub(a, b)
		wantRow(t, "Sub", got, err, diff...)
		got, err = Times(a, 12_345)
		wantRow(t, "Times", got, err, times...)
	}
}

// VE1: rows of unequal lengths, and lists beyond 32 though they are of one length, go not together.
func TestNoTwoRows(t *testing.T) {
	for n := 0; n <= 40; n++ {
		for m := 0; m <= 40; m++ {
			if n == m && n <= 32 {
				continue
			}
			a, b := mixed(n, 1), mixed(m, 2)
			got, err := Add(a, b)
			wantArg(t, "Add", got, err)
			got, err = Sub(a, b)
			wantArg(t, "Sub", got, err)
		}
	}
	got, err := Add(mixed(1, 1), nil)
	wantArg(t, "Add", got, err)
	got, err = Sub(nil, mixed(1, 1))
	wantArg(t, "Sub", got, err)
}

// VE1: no row is a list beyond 32, whatever it is to be multiplied by.
func TestTimesOfNoRow(t *testing.T) {
	for _, n := range []int{33, 34, 64, 100_000} {
		for _, k := range edges() {
			got, err := Times(make([]uint32, n), k)
			wantArg(t, "Times", got, err)
		}
	}
}

// VE1: the same are those of one length with the same number at each place, whatever they are.
func TestSame(t *testing.T) {
	for _, n := range []int{0, 1, 2, 31, 32, 33, 100, 100_000} {
		a, b := mixed(n, 9), mixed(n, 9)
		if !Same(a, b) {
			t.Errorf("two lists of %d are not the same", n)
		}
		if Same(a, append(b, 0)) || Same(append(b, 0), a) {
			t.Errorf("a list of %d and a longer one are the same", n)
		}
		for _, i := range []int{0, n / 2, n - 1} {
			if i < 0 || i >= n {
				continue
			}
			b[i] ^= half
			if Same(a, b) || Same(b, a) {
				t.Errorf("lists of %d, other ones at %d, are the same", n, i)
			}
			b[i] ^= half
		}
	}
	if !Same(nil, []uint32{}) || !Same([]uint32{}, nil) || !Same(nil, nil) {
		t.Errorf("nil and the empty list are not the same")
	}
	if Same([]uint32{1, 2}, []uint32{2, 1}) {
		t.Errorf("an order is not seen")
	}
	if Same(nil, []uint32{0}) || Same([]uint32{0}, nil) {
		t.Errorf("none and a nought are the same")
	}
}

// VE2: the sum of all rows; of none it is noughts.
func TestSum(t *testing.T) {
	for _, c := range []struct {
		l    [][]uint32
		n    int
		want []uint32
	}{
		{[][]uint32{{7}, {top}}, 1, []uint32{6}},
		{[][]uint32{{1, 2}, {10, 20}, {100, 200}}, 2, []uint32{111, 222}},
		{[][]uint32{{top, 1}, {top, 1}, {top, 1}}, 2, []uint32{top - 2, 3}},
		{[][]uint32{{half}, {half}, {half}}, 1, []uint32{half}},
		{[][]uint32{{4, 5, 6}}, 3, []uint32{4, 5, 6}},
		{nil, 0, nil},
		{nil, 3, []uint32{0, 0, 0}},
		{[][]uint32{}, 2, []uint32{0, 0}},
		{[][]uint32{nil, {}, nil}, 0, nil},
		{nil, 32, make([]uint32, 32)},
	} {
		got, err := Sum(c.l, c.n)
		wantRow(t, "Sum", got, err, c.want...)
	}
}

// VE2: of each length from none to 32, and of many rows, each is added once.
func TestSumOfMany(t *testing.T) {
	for n := 0; n <= 32; n++ {
		for _, many := range []int{1, 2, 3, 64, 300} {
			var l [][]uint32
			want := make([]uint32, n)
			for k := range many {
				row := mixed(n, uint32(k))
				l = append(l, row)
				for i, v := range row {
					want[i] += v
				}
			}
			got, err := Sum(l, n)
			wantRow(t, "Sum", got, err, want...)
		}
	}
}

// VE2: ErrArg, if n is below 0 or beyond 32, though the rows are of n numbers, or there are none.
func TestSumOfNoLength(t *testing.T) {
	for _, n := range []int{-1, math.MinInt, 33, 40, 1 << 32, math.MaxInt} {
		got, err := Sum(nil, n)
		wantArg(t, "Sum", got, err)
	}
	for _, n := range []int{33, 34, 64} {
		got, err := Sum([][]uint32{make([]uint32, n), make([]uint32, n)}, n)
		wantArg(t, "Sum", got, err)
	}
	got, err := Sum([][]uint32{nil}, -1)
	wantArg(t, "Sum", got, err)
}

// VE2: ErrArg, if one row, wherever it stands, is not of n numbers.
func TestSumOfOtherLengths(t *testing.T) {
	for _, n := range []int{0, 1, 2, 31, 32} {
		for _, other := range []int{0, 1, 2, 3, n - 1, n + 1, 33, 64} {
			if other < 0 || other == n {
				continue
			}
			for at := range 3 {
				l := [][]uint32{mixed(n, 1), mixed(n, 2), mixed(n, 3)}
				l[at] = mixed(other, 4)
				got, err := Sum(l, n)
				wantArg(t, "Sum", got, err)
			}
		}
	}
}

// VE3: rows in any order, and any of them added ahead of others, give the same sum.
func TestAnyOrder(t *testing.T) {
	rows := [][]uint32{mixed(5, 1), {top, 0, half, 1, top}, mixed(5, 2), {1, top, half, top, 1}}
	want, err := Sum(rows, 5)
	wantOK(t, "Sum", err)
	var orders int
	permute(rows, 0, func(l [][]uint32) {
		orders++
		got, err := Sum(l, 5)
		wantRow(t, "Sum in another order", got, err, want...)
		one, _ := Add(l[0], l[1])
		two, _ := Add(l[2], l[3])
		got, err = Add(one, two)
		wantRow(t, "Add of two sums", got, err, want...)
		got, _ = Add(one, l[2])
		got, err = Add(l[3], got)
		wantRow(t, "Add, one by one", got, err, want...)
	})
	if orders != 24 {
		t.Errorf("%d orders", orders)
	}
}

func permute(l [][]uint32, from int, do func([][]uint32)) {
	if from == len(l) {
		do(l)
		return
	}
	for i := from; i < len(l); i++ {
		l[from], l[i] = l[i], l[from]
		permute(l, from+1, do)
		l[from], l[i] = l[i], l[from]
	}
}

// VE3: what is added can be taken off, in any order too, and what is taken off can be added.
func TestTakenOff(t *testing.T) {
	for _, x := range edges() {
		for _, y := range edges() {
			a, b := []uint32{x, y, 0}, []uint32{y, x, top}
			sum, _ := Add(a, b)
			got, err := Sub(sum, b)
			wantRow(t, "a + b - b", got, err, a...)
			got, err = Sub(sum, a)
			wantRow(t, "a + b - a", got, err, b...)
			diff, _ := Sub(a, b)
			got, err = Add(diff, b)
			wantRow(t, "a - b + b", got, err, a...)
		}
	}
	rows := [][]uint32{mixed(32, 1), mixed(32, 2), mixed(32, 3)}
	sum, _ := Sum(rows, 32)
	for _, row := range rows {
		sum, _ = Sub(sum, row)
	}
	wantRow(t, "all taken off", sum, nil, make([]uint32, 32)...)
}

// VE3: so many times a row is its sum with itself, and top times is what takes it off.
func TestTimesIsSum(t *testing.T) {
	a := append(mixed(10, 6), edges()...)
	var l [][]uint32
	for k := uint32(0); k <= 40; k++ {
		sum, _ := Sum(l, len(a))
		got, err := Times(a, k)
		wantRow(t, "Times", got, err, sum...)
		l = append(l, a)
	}
	none, _ := Zero(len(a))
	want, _ := Sub(none, a)
	got, err := Times(a, top)
	wantRow(t, "Times", got, err, want...)
}

// roomy is a row with spare room behind it, and all of that memory.
func roomy(n int, seed uint32) (row, all []uint32) {
	all = mixed(n+16, seed)
	return all[:n], all
}

// calls are the four that answer a row of the rows a and b.
func calls(a, b []uint32) map[string]func() ([]uint32, error) {
	return map[string]func() ([]uint32, error){
		"Add":        func() ([]uint32, error) { return Add(a, b) },
		"Add twice":  func() ([]uint32, error) { return Add(a, a) },
		"Sub":        func() ([]uint32, error) { return Sub(a, b) },
		"Sub twice":  func() ([]uint32, error) { return Sub(a, a) },
		"Times":      func() ([]uint32, error) { return Times(a, 3) },
		"Times once": func() ([]uint32, error) { return Times(a, 1) },
		"Sum":        func() ([]uint32, error) { return Sum([][]uint32{a, b, a}, len(a)) },
		"Sum of one": func() ([]uint32, error) { return Sum([][]uint32{a}, len(a)) },
		"Zero":       func() ([]uint32, error) { return Zero(len(a)) },
	}
}

// Rules: what is handed in stays as it was, and an answer, with its spare room, is new memory each time.
func TestNewMemory(t *testing.T) {
	for _, n := range []int{0, 1, 3, 32} {
		a, allOfA := roomy(n, 1)
		b, allOfB := roomy(n, 2)
		wasA, wasB := slices.Clone(allOfA), slices.Clone(allOfB)
		for name, call := range calls(a, b) {
			first, err := call()
			wantOK(t, name, err)
			want := slices.Clone(first)
			second, err := call()
			wantRow(t, name, second, err, want...)
			overwrite(first)
			if !slices.Equal(second, want) {
				t.Errorf("%s: two answers share memory", name)
			}
			overwrite(second)
			if !slices.Equal(allOfA, wasA) || !slices.Equal(allOfB, wasB) {
				t.Fatalf("%s: what was handed in is changed", name)
			}
			third, err := call()
			wantRow(t, name, third, err, want...)
		}
	}
}

func overwrite(row []uint32) {
	row = row[:cap(row)]
	for i := range row {
		row[i] = ^row[i]
	}
}

// Rules: an answer stays as it is when what was handed in is changed.
func TestNotKept(t *testing.T) {
	a, b := mixed(6, 1), mixed(6, 2)
	got, want := map[string][]uint32{}, map[string][]uint32{}
	for name, call := range calls(a, b) {
		row, err := call()
		wantOK(t, name, err)
		got[name], want[name] = row, slices.Clone(row)
	}
	overwrite(a)
	overwrite(b)
	for name, row := range got {
		wantRow(t, name, row, nil, want[name]...)
	}
}

// Rules: what can't be answered changes nothing either, and the list of rows stays as it was.
func TestUnchangedBesideErrors(t *testing.T) {
	a, b, long := mixed(3, 1), mixed(4, 2), mixed(33, 3)
	l := [][]uint32{a, a, b, long}
	for _, call := range []func() ([]uint32, error){
		func() ([]uint32, error) { return Add(a, b) },
		func() ([]uint32, error) { return Sub(a, b) },
		func() ([]uint32, error) { return Sub(long, long) },
		func() ([]uint32, error) { return Times(long, 2) },
		func() ([]uint32, error) { return Sum(l, 3) },
	} {
		got, err := call()
		wantArg(t, "a wrong call", got, err)
	}
	for i, want := range [][]uint32{mixed(3, 1), mixed(3, 1), mixed(4, 2), mixed(33, 3)} {
		if !slices.Equal(l[i], want) {
			t.Errorf("row %d is changed", i)
		}
	}
}
