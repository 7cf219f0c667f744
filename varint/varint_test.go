package varint

import (
	"bytes"
	"errors"
	"math"
	"slices"
	"strconv"
	"strings"
	"testing"

	"caucus/api"
)

const (
	top  = math.MaxUint64
	junk = 0xa5 // what spare room is filled with
)

// known are numbers and their bytes as digits, written by hand: those of one byte at both
// ends, and for each count of bytes the least number and the greatest that needs so many.
func known() []struct {
	v    uint64
	want string
} {
	return []struct {
		v    uint64
		want string
	}{
		{0, "00"}, {1, "01"}, {2, "02"}, {127, "7f"}, {128, "80"}, {246, "f6"}, {247, "f7"},
		{248, "f8f8"}, {249, "f8f9"}, {254, "f8fe"}, {255, "f8ff"},
		{256, "f90100"}, {257, "f90101"}, {511, "f901ff"}, {512, "f90200"},
		{63488, "f9f800"}, {65535, "f9ffff"},
		{65536, "fa010000"}, {65537, "fa010001"}, {1<<24 - 1, "faffffff"},
		{1 << 24, "fb01000000"}, {0x12345678, "fb12345678"}, {1 << 31, "fb80000000"}, {1<<32 - 1, "fbffffffff"},
		{1 << 32, "fc0100000000"}, {1<<40 - 1, "fcffffffffff"},
		{1 << 40, "fd010000000000"}, {1<<48 - 1, "fdffffffffffff"},
		{1 << 48, "fe01000000000000"}, {1<<56 - 1, "feffffffffffffff"},
		{1 << 56, "ff0100000000000000"}, {1<<61 - 1, "ff1fffffffffffffff"}, {0x0123456789abcdef, "ff0123456789abcdef"},
		{1<<63 - 1, "ff7fffffffffffffff"}, {1 << 63, "ff8000000000000000"}, {1<<63 + 1, "ff8000000000000001"},
		{top - 1, "fffffffffffffffffe"}, {top, "ffffffffffffffffff"},
	}
}

// numbers are those up to where three bytes are needed, what stands beside each power of
// 2, each byte at each place alone, and some all over the 64 bits; ascending, each once.
func numbers() []uint64 {
	list := []uint64{}
	for v := range uint64(1000) {
		list = append(list, v)
	}
	for bit := range 64 {
		for by := range uint64(9) {
			list = append(list, 1<<bit+by-4)
		}
	}
	for place := range 8 {
		for v := range uint64(256) {
			list = append(list, v<<(8*place), v<<(8*place)|1, ^(v << (8 * place)))
		}
	}
	v := uint64(20_260_101)
	for i := range 600 {
		v ^= v << 13
		v ^= v >> 7
		v ^= v << 17
		list = append(list, v>>(i%64))
	}
	slices.Sort(list)
	return slices.Compact(list)
}

// plain are a number's bytes as digits, as the chapter says it.
func plain(v uint64) string {
	digits := even(strconv.FormatUint(v, 16))
	if v < 248 {
		return digits
	}
	return strconv.FormatInt(int64(247+len(digits)/2), 16) + digits
}

// even are digits two a byte.
func even(digits string) string {
	if len(digits)%2 == 1 {
		return "0" + digits
	}
	return digits
}

// digitsOf are bytes as hexadecimal digits, two a byte.
func digitsOf(b []byte) string {
	var out strings.Builder
	for _, v := range b {
		out.WriteString(even(strconv.FormatUint(uint64(v), 16)))
	}
	return out.String()
}

// bytesOf are the bytes of hexadecimal digits.
func bytesOf(digits string) []byte {
	list := []byte{}
	for ; digits != ""; digits = digits[2:] {
		v, err := strconv.ParseUint(digits[:2], 16, 8)
		if err != nil {
			panic(err)
		}
		list = append(list, byte(v))
	}
	return list
}

// plainGet is the number whose bytes digits begin with, and how many these are, or 0 and
// 0: it is found by what the digits would have to be, if they began with it.
func plainGet(digits string) (uint64, int) {
	for n := 1; n <= 9 && 2*n <= len(digits); n++ {
		from := min(2, 2*n-2)
		v, err := strconv.ParseUint(digits[from:2*n], 16, 64)
		if err == nil && plain(v) == digits[:2*n] {
			return v, n
		}
	}
	return 0, 0
}

func wantPut(t *testing.T, b []byte, v uint64, want string) {
	t.Helper()
	got := Put(b, v)
	if digitsOf(got) != digitsOf(b)+want {
		t.Errorf("Put(%x, %d): %x, not %s behind", b, v, got, want)
	}
	if many := len(got) - len(b); Size(v) != many || 2*many != len(want) {
		t.Errorf("Size(%d): %d, and Put adds %d", v, Size(v), many)
	}
}

func wantGet(t *testing.T, b []byte, v uint64, size int) {
	t.Helper()
	got, many, err := Get(b)
	if got != v || many != size || err != nil {
		t.Errorf("Get(%x): %d, %d, %v, not %d, %d", b, got, many, err, v, size)
	}
}

func wantNone(t *testing.T, b []byte) {
	t.Helper()
	got, many, err := Get(b)
	var no api.Errno
	if !errors.As(err, &no) || no != api.ErrForm || got != 0 || many != 0 {
		t.Errorf("Get(%x): %d, %d, %v, not ErrForm alone", b, got, many, err)
	}
}

// wantAsPlain wants of bytes what the chapter says of them, digit by digit.
func wantAsPlain(t *testing.T, b []byte) {
	t.Helper()
	if v, size := plainGet(digitsOf(b)); size > 0 {
		wantGet(t, b, v, size)
	} else {
		wantNone(t, b)
	}
}

// The document's examples.
func TestExamples(t *testing.T) {
	wantPut(t, nil, 247, "f7")
	wantPut(t, nil, 248, "f8f8")
	wantPut(t, nil, 256, "f90100")
	wantGet(t, []byte{0xf7}, 247, 1)
	wantGet(t, []byte{0xf8, 0xf8}, 248, 2)
	wantGet(t, []byte{0xf9, 1, 0}, 256, 3)
}

// VA1: numbers whose bytes are written by hand.
func TestKnownNumbers(t *testing.T) {
	for _, c := range known() {
		wantPut(t, nil, c.v, c.want)
		wantGet(t, bytesOf(c.want), c.v, len(c.want)/2)
	}
}

// VA1: how many bytes there are, for each count the least number and the greatest.
func TestSizes(t *testing.T) {
	for _, c := range []struct {
		least, most uint64
		want        int
	}{
		{0, 247, 1}, {248, 255, 2}, {256, 65535, 3}, {65536, 16777215, 4},
		{16777216, 4294967295, 5}, {4294967296, 1099511627775, 6},
		{1099511627776, 281474976710655, 7}, {281474976710656, 72057594037927935, 8},
		{72057594037927936, 18446744073709551615, 9},
	} {
		for _, v := range []uint64{c.least, c.least + 1, c.least + (c.most-c.least)/2, c.most - 1, c.most} {
			if got := Size(v); got != c.want {
				t.Errorf("Size(%d): %d, not %d", v, got, c.want)
			}
			if got := len(Put(nil, v)); got != c.want {
				t.Errorf("Put(nil, %d) has %d bytes, not %d", v, got, c.want)
			}
		}
	}
}

// VA1: numbers of all kinds, digit by digit.
func TestNumbersAsPlainDigits(t *testing.T) {
	for _, v := range numbers() {
		wantPut(t, nil, v, plain(v))
		wantGet(t, bytesOf(plain(v)), v, len(plain(v))/2)
	}
	for v := range uint64(1 << 17) {
		wantPut(t, nil, v, plain(v))
	}
}

// VA1: what stands ahead stays ahead, whatever it is, and makes no difference behind.
func TestPutBehind(t *testing.T) {
	for _, v := range numbers() {
		for _, b := range [][]byte{nil, {}, make([]byte, 0, 20), {0}, {247}, {248}, {255}, {1, 2, 3}, {0xff, 0xff}, bytes.Repeat([]byte{248}, 300)} {
			wantPut(t, b, v, plain(v))
		}
	}
	long := bytes.Repeat([]byte{0xf9, 0}, 1<<15)
	for _, c := range known() {
		wantPut(t, long, c.v, c.want)
	}
}

// VA1: what stands in the spare room behind an end is neither read nor written.
func TestPutOntoSpareRoom(t *testing.T) {
	for _, v := range numbers() {
		for many := range 21 {
			room := bytes.Repeat([]byte{junk}, 24)
			wantPut(t, room[:many/2], v, plain(v))
			wantPut(t, room[many/2:many], v, plain(v))
			if !bytes.Equal(room, bytes.Repeat([]byte{junk}, 24)) {
				t.Errorf("Put of %d onto %d bytes with room behind: %x", v, many, room)
			}
		}
	}
}

// VA1: nothing is no number's bytes.
func TestGetOfNothing(t *testing.T) {
	wantNone(t, nil)
	wantNone(t, []byte{})
	wantNone(t, []byte{1, 2}[:0])
	wantNone(t, []byte{248, 248}[2:])
}

// VA1: a number's bytes that are cut short are none, at each place, whatever lies in the
// spare room behind.
func TestGetOfCutOnes(t *testing.T) {
	for _, v := range numbers() {
		all := bytesOf(plain(v))
		for n := range all {
			wantNone(t, all[:n])
			wantNone(t, all[:n:n])
		}
	}
	for first := 248; first < 256; first++ {
		for many := range first - 247 {
			for _, b := range []byte{0, 1, 247, 248, 255} {
				wantNone(t, append([]byte{byte(first)}, bytes.Repeat([]byte{b}, many)...))
			}
		}
	}
}

// VA1: a number below 248 has not the form of a byte ahead, of whatever count.
func TestGetOfSmallOnesTold(t *testing.T) {
	for v := range 248 {
		for many := 1; many <= 8; many++ {
			b := append([]byte{byte(247 + many)}, make([]byte, many)...)
			b[many] = byte(v)
			wantNone(t, b)
			wantNone(t, append(b, 1, 2, 3))
		}
	}
	for v := 248; v < 256; v++ {
		wantGet(t, []byte{248, byte(v)}, uint64(v), 2)
	}
}

// VA1: of more bytes than are needed there is no number, for each count of them.
func TestGetOfFirstNoughts(t *testing.T) {
	for many := 1; many <= 8; many++ {
		for noughts := 1; noughts <= many; noughts++ {
			for _, fill := range []byte{0, 1, 0x7f, 0x80, 247, 248, 255} {
				b := append([]byte{byte(247 + many)}, bytes.Repeat([]byte{fill}, many)...)
				clear(b[1 : 1+noughts])
				wantNone(t, b)
				wantNone(t, append(b, b...))
			}
		}
	}
	for _, v := range numbers() {
		need := (len(plain(v)) - 2) / 2
		for many := need + 1; many <= 8; many++ {
			digits := strconv.FormatUint(v, 16)
			wantNone(t, bytesOf(strconv.FormatInt(int64(247+many), 16)+strings.Repeat("0", 2*many-len(digits))+digits))
		}
	}
}

// VA1: all bytes of one and two, and of three where the first may tell more, digit by digit.
func TestGetOfAllFewBytes(t *testing.T) {
	for a := range 256 {
		wantAsPlain(t, []byte{byte(a)})
		for b := range 256 {
			wantAsPlain(t, []byte{byte(a), byte(b)})
			if a < 246 {
				continue
			}
			for _, c := range []byte{0, 1, 128, 247, 248, 249, 255} {
				wantAsPlain(t, []byte{byte(a), byte(b), c})
			}
		}
	}
}

// VA1: bytes of all kinds: each first one with each second one, and any behind.
func TestGetOfAnyBytes(t *testing.T) {
	v := uint64(11)
	for a := 245; a < 256; a++ {
		for b := range 256 {
			list := []byte{byte(a), byte(b)}
			for range 9 {
				v ^= v << 13
				v ^= v >> 7
				v ^= v << 17
				wantAsPlain(t, list)
				list = append(list, byte(v>>40))
			}
		}
	}
}

// VA2: what was put is got, whatever stands behind, and it is not read.
func TestPutIsGot(t *testing.T) {
	for _, v := range numbers() {
		all := Put(nil, v)
		wantGet(t, all, v, Size(v))
		for _, b := range []byte{0, 1, 247, 248, 249, 254, 255} {
			wantGet(t, append(bytes.Clone(all), b), v, Size(v))
			wantGet(t, append(bytes.Clone(all), bytes.Repeat([]byte{b}, 12)...), v, Size(v))
			wantGet(t, append(bytes.Clone(all), b)[:len(all)], v, Size(v))
		}
		for _, c := range known() {
			wantGet(t, Put(all, c.v), v, Size(v))
		}
	}
}

// VA2: numbers put one behind the other are got one by one.
func TestOneBehindTheOther(t *testing.T) {
	list := numbers()
	for _, order := range []func(i int) int{
		func(i int) int { return i },
		func(i int) int { return len(list) - 1 - i },
		func(i int) int { return i * 1009 % len(list) },
	} {
		var all []byte
		want := 0
		for i := range list {
			all = Put(all, list[order(i)])
			want += len(plain(list[order(i)])) / 2
		}
		if len(all) != want {
			t.Errorf("%d bytes, not %d", len(all), want)
		}
		for i := range list {
			v, many, err := Get(all)
			if v != list[order(i)] || err != nil {
				t.Fatalf("number %d: %d, %v, not %d", i, v, err, list[order(i)])
			}
			all = all[many:]
		}
		wantNone(t, all)
	}
}

// VA2: a greater number's bytes come behind, by their order, and are as many, or more.
func TestGreaterOnesComeBehind(t *testing.T) {
	list := numbers()
	for i, v := range list {
		a := Put(nil, v)
		for _, w := range list[i+1:] {
			b := Put(nil, w)
			if bytes.Compare(a, b) != -1 || len(a) > len(b) || Size(v) > Size(w) {
				t.Errorf("%d and the greater %d: %x and %x", v, w, a, b)
			}
		}
	}
}

// VA2: no number's bytes are what another one's begin with.
func TestNoneBeginsWithAnother(t *testing.T) {
	seen := map[string]uint64{}
	for _, v := range numbers() {
		seen[string(Put(nil, v))] = v
	}
	for _, v := range numbers() {
		b := Put(nil, v)
		for n := range b {
			if w, ok := seen[string(b[:n])]; ok {
				t.Errorf("%d: %x begins with what %d is", v, b, w)
			}
		}
	}
	if len(seen) != len(numbers()) {
		t.Errorf("%d numbers have %d unlike bytes", len(numbers()), len(seen))
	}
}

// What is handed in is not changed, nor is the spare room behind its end.
func TestArgumentsStay(t *testing.T) {
	for _, v := range numbers() {
		room := append(bytesOf(plain(v)), bytes.Repeat([]byte{junk}, 20)...)
		want := bytes.Clone(room)
		for n := range room {
			Put(room[:n], v)
			Put(room[:n], ^v)
			Get(room[:n])
		}
		Get(room)
		if !bytes.Equal(room, want) {
			t.Errorf("of %d: what is handed in, or its spare room, has changed: %x", v, room)
		}
	}
}

// What Put answers is new memory, spare room too, also where what it is given has room:
// no two answers, and no answer and an argument, share any.
func TestAnswersAreNew(t *testing.T) {
	for _, c := range known() {
		for _, n := range []int{0, 1, 8, 9, 100} {
			room := bytes.Repeat([]byte{1}, n+40)
			one, other := Put(room[:n], c.v), Put(room[:n], c.v)
			whole := one[:cap(one)]
			for i := range whole {
				whole[i] = junk
			}
			if !bytes.Equal(room, bytes.Repeat([]byte{1}, n+40)) {
				t.Errorf("Put of %d onto %d bytes: the answer shares what was handed in", c.v, n)
			}
			clear(room)
			if digitsOf(other) != strings.Repeat("01", n)+c.want || bytes.IndexByte(other[len(other):cap(other)], junk) >= 0 {
				t.Errorf("Put of %d onto %d bytes: two answers share memory, or one hangs on what was handed in", c.v, n)
			}
		}
	}
}

// What is put onto one answer is not seen in another that was put onto it too.
func TestTwoOntoOne(t *testing.T) {
	for _, c := range known() {
		first := Put([]byte{9}, c.v)
		a, b := Put(first, 1), Put(first, 2)
		if digitsOf(first) != "09"+c.want || digitsOf(a) != "09"+c.want+"01" || digitsOf(b) != "09"+c.want+"02" {
			t.Errorf("of %d: %x, and behind it 1 and 2: %x and %x", c.v, first, a, b)
		}
	}
}

// Get doesn't keep what it is given: it goes by what stands there when it is asked.
func TestBytesAreNotKept(t *testing.T) {
	b := make([]byte, 9)
	for _, c := range slices.Concat(known(), known()) {
		clear(b)
		copy(b, bytesOf(c.want))
		wantGet(t, b, c.v, len(c.want)/2)
	}
	clear(b)
	wantGet(t, b, 0, 1)
}

// Nil and no bytes are the same.
func TestNilAndEmpty(t *testing.T) {
	for _, c := range known() {
		if a, b := Put(nil, c.v), Put([]byte{}, c.v); !bytes.Equal(a, b) {
			t.Errorf("Put of %d tells nil from no bytes: %x and %x", c.v, a, b)
		}
	}
}

// No call hangs on the calls ahead of it.
func TestAsksStandAlone(t *testing.T) {
	for _, v := range numbers() {
		Put(Put(nil, v), ^v)
		Size(v)
		Get([]byte{byte(v), byte(v >> 8), byte(v >> 16)})
		wantPut(t, []byte{7}, 256, "f90100")
		wantGet(t, []byte{0xf9, 1, 0, 0xf9}, 256, 3)
		wantNone(t, []byte{0xf9, 1})
	}
}

// Many ask at once, as clients of the package may.
func TestAsksAtOnce(t *testing.T) {
	room := append(make([]byte, 0, 64), 5)
	done := make(chan []byte)
	for i := range 8 {
		go func() {
			list := Put(room, 256<<i)
			if v, many, err := Get(list[1:]); v != 256<<i || many != Size(v) || err != nil {
				list = nil
			}
			done <- list
		}()
	}
	want := map[string]bool{}
	for i := range 8 {
		want["05"+plain(256<<i)] = true
	}
	for range 8 {
		got := digitsOf(<-done)
		if !want[got] {
			t.Errorf("Put at once: %s", got)
		}
		delete(want, got)
	}
}
