package prg

import (
	"errors"
	"math"
	"math/big"
	"slices"
	"strconv"
	"strings"
	"testing"

	"caucus/api"
	"caucus/mac"
	"caucus/sha"
)

const (
	prime = 1<<61 - 1
	top   = math.MaxUint64
	far   = 1 << 20 // the last place of a number

	// whole is a label of 64 bytes, of which no two neighbours are the same.
	whole = "!&+05:?DINSX]bglqv{\"',16;@EJOTY^chmrw|#(-27<AFKPUZ_dinsx}$).38=B"
)

// seeds are numbers of 64 bits, with those at both ends, and each bit alone.
func seeds() []uint64 {
	list := []uint64{0, 2, 3, prime - 1, prime, prime + 1, 0x0123456789abcdef, top - 1, top}
	for bit := range 64 {
		list = append(list, 1<<bit)
	}
	return list
}

// labels are labels of the lengths at the edges, and those that other layers ask with.
func labels() []string {
	list := []string{"", " ", "~", "own", "pair", "lot 63 1073741824", "box 0 63 7", "  ", "~~", "a\"b'c\\d", whole}
	for _, n := range []int{1, 2, 50, 51, 52, 58, 59, 60, 63, 64} {
		list = append(list, whole[:n], strings.Repeat(" ", n), strings.Repeat("~", n))
	}
	return list
}

// strangers are texts that are no labels.
func strangers() []string {
	list := []string{
		whole + "a", whole + " ", whole + whole, strings.Repeat("a", 65), strings.Repeat("a", 66),
		strings.Repeat(" ", 65), strings.Repeat("a", 320), strings.Repeat("a", 1<<16),
		"own\x00", "\x00own", "own\n", "ow\tn", "own\r\n", "own\x7f", "\x7f", "a\x1fb", "\x1f", "\x80", "\xff",
		whole[:63] + "\x1f", whole[:63] + "\x7f", whole[:63] + "\x80", "\x00" + whole[1:], whole + "\x00",
	}
	for _, r := range []rune{0x80, 0xa0, 0xe9, 0xff, 0x120, 0x141, 0x17e, 0x7ff, 0x2020, 0x4e16, 0xd7ff, 0xe000, 0xfeff, 0xfffd, 0x10041, 0x1f600, 0x10ffff} {
		s := string(r)
		list = append(list, s, "own"+s, s+"own", "o"+s+"wn", whole[:60-len(s)]+s, strings.Repeat(s, 64/len(s)), strings.Repeat(s, 64))
	}
	// bytes that begin a rune and don't end it, lone ones amid one, and runes told in more bytes than they need
	for _, s := range []string{"\xc3", "\xe4\xb8", "\xf0\x9f\x98", "\xbf", "\xc1\x81", "\xc0\xa0", "\xe0\x81\x81", "\xf0\x80\x81\x81", "\xed\xa0\x80", "\xf4\x90\x80\x80", "\xfe", "\xff\xff"} {
		list = append(list, s, "own"+s, s+"own", "o"+s+"wn", s+s)
	}
	return list
}

// hex are hexadecimal digits of a number, so many bytes of it, the highest first.
func hex(v uint64, many int) string {
	s := strconv.FormatUint(v, 16)
	return strings.Repeat("0", 2*many-len(s)) + s
}

// bytesOf are the bytes of hexadecimal digits.
func bytesOf(digits string) []byte {
	list := []byte{}
	for ; digits != ""; digits = digits[2:] {
		list = append(list, byte(valueOf(digits[:2])))
	}
	return list
}

// valueOf is the number of hexadecimal digits.
func valueOf(digits string) uint64 {
	v, err := strconv.ParseUint(digits, 16, 64)
	if err != nil {
		panic(err)
	}
	return v
}

// plainBlock is a block told in digits, as the chapter says it.
func plainBlock(seed uint64, label string, i int) string {
	text := ""
	for at := range len(label) {
		text += hex(uint64(label[at]), 1)
	}
	text += "00" + hex(uint64(i), 4)
	return sha.Text(mac.Of(bytesOf(hex(seed, 8)), bytesOf(text)))
}

// plainWords are 32 numbers, read from the digits of four blocks.
func plainWords(seed uint64, label string) []uint32 {
	digits := ""
	for i := range 4 {
		digits += plainBlock(seed, label, i)
	}
	return wordsOf(digits)
}

// wordsOf are the numbers of 32 bits of digits, eight each.
func wordsOf(digits string) []uint32 {
	list := []uint32{}
	for ; digits != ""; digits = digits[8:] {
		list = append(list, uint32(valueOf(digits[:8])))
	}
	return list
}

// left is what is left of a number of digits when it is divided by Prime.
func left(digits string) uint64 {
	v, ok := new(big.Int).SetString(digits, 16)
	if !ok {
		panic(digits)
	}
	return v.Mod(v, big.NewInt(prime)).Uint64()
}

// plainNum is a number of the field, read from the first 16 digits of a block.
func plainNum(seed uint64, label string, at int) uint64 {
	return left(plainBlock(seed, label, at)[:16])
}

func wantWords(t *testing.T, seed uint64, label string, n int, want []uint32) {
	t.Helper()
	got, err := Words(seed, label, n)
	if err != nil || !slices.Equal(got, want) {
		t.Errorf("Words(%d, %q, %d): %x, %v, not %x", seed, label, n, got, err, want)
	}
}

func wantNum(t *testing.T, seed uint64, label string, at int, want uint64) {
	t.Helper()
	if got, err := Num(seed, label, at); err != nil || got != want {
		t.Errorf("Num(%d, %q, %d): %d, %v, not %d", seed, label, at, got, err, want)
	}
}

func wantChild(t *testing.T, seed uint64, label string, want uint64) {
	t.Helper()
	if got, err := Child(seed, label); err != nil || got != want {
		t.Errorf("Child(%d, %q): %d, %v, not %d", seed, label, got, err, want)
	}
}

func isArg(err error) bool {
	var no api.Errno
	return errors.As(err, &no) && no == api.ErrArg
}

func wantNoWords(t *testing.T, seed uint64, label string, n int) {
	t.Helper()
	if got, err := Words(seed, label, n); !isArg(err) || len(got) != 0 {
		t.Errorf("Words(%d, %.80q, %d): %x, %v, not ErrArg alone", seed, label, n, got, err)
	}
}

func wantNoNum(t *testing.T, seed uint64, label string, at int) {
	t.Helper()
	if got, err := Num(seed, label, at); !isArg(err) || got != 0 {
		t.Errorf("Num(%d, %.80q, %d): %d, %v, not ErrArg alone", seed, label, at, got, err)
	}
}

func wantNoChild(t *testing.T, seed uint64, label string) {
	t.Helper()
	if got, err := Child(seed, label); !isArg(err) || got != 0 {
		t.Errorf("Child(%d, %.80q): %d, %v, not ErrArg alone", seed, label, got, err)
	}
}

// known are all numbers of some seeds and labels, reckoned apart from the project.
var known = []struct {
	seed   uint64
	label  string
	digits string
}{
	{0, "", "b03883baae7ca7c8aa2fbf979a16339bb52df6f47850fe3e0077cecc9cf2958f" +
		"5b85c829ba96b569522c97070171ad6717d1b8ad414007c75e1e764e5365d2f0" +
		"a1568f44309fb5aca6074514e80af687f02ba9ea9e055cf7678a96a353b148f1" +
		"1ea7807111001eb5d85b3f0bdd2a63fba8ab6a6ab81a6163e347f2b0752162b8"},
	{1, "own", "a0df56b43e780c0a3ea3ae1935d6d061e998b064b13f1ee896ec51bc1e3e3e6e" +
		"e33d3d5305b0fa958cce4986d831910b65908d6b8e6e2b9808166c8ebd08862d" +
		"f265842baa9840a4f44fdeb4d57c08fedc78a1097434c8cebcf1be6a83b69ec7" +
		"b85da5be477d877dba2da8ffbcd4b7b667ba8d4628d456a8c91c632a86a4be6f"},
	{top, "pair", "2ac69f6651fb71c07d76b632a0d426b7dcca0c0cc416c178818be53a857ab9f7" +
		"59d2585144ce158a9d6d17d141ecb724f709c3f8cc34742761a9e1c61b247830" +
		"af3220eaea9520db7e1d9f0d740a429951aabacbab037838b4a14a03f07d5d41" +
		"6c78769a00878d36e87890e67e04e6ebc0241b925e48d6f696e2003f695674c1"},
	{0x0123456789abcdef, whole, "2bb3afe0944cfe29af70334a608290be597d946751898c1c24347370fa85ce97" +
		"a0287fded55832a09382a947fe004ffe296c7c3edaa2611abdb11592d308aeb8" +
		"39ce9057ad6f9ad621631d8f8ed8ab0c3e06aaafa042a8bb5756fe0c98c1943d" +
		"02e916469765e879f81dd9ca8ffdadb297d895c9125de70408d29af334ab4788"},
}

// PG1: numbers of known seeds and labels, of each n.
func TestKnownWords(t *testing.T) {
	for _, c := range known {
		for n := range 33 {
			wantWords(t, c.seed, c.label, n, wordsOf(c.digits[:8*n]))
		}
	}
	wantWords(t, 0, "", 3, []uint32{0xb03883ba, 0xae7ca7c8, 0xaa2fbf97})
	wantWords(t, 1, "own", 9, []uint32{
		0xa0df56b4, 0x3e780c0a, 0x3ea3ae19, 0x35d6d061, 0xe998b064, 0xb13f1ee8, 0x96ec51bc, 0x1e3e3e6e,
		0xe33d3d53,
	})
}

// PG1: numbers of known seeds, labels and places, with each byte of a place in use.
func TestKnownNums(t *testing.T) {
	for _, c := range []struct {
		seed  uint64
		label string
		at    int
		want  uint64
	}{
		{0, "", 0, 1168828941117204429},
		{0, "", 1, 1983211292476224875},
		{0, "", far, 345431282696184616},
		{top, "", 0, 2168918442860535654},
		{top, "~", 255, 1412533248339773278},
		{1, " ", 256, 860633226193231388},
		{1 << 63, "lot 63 1073741824", 65535, 748325477997472608},
		{7, "lot 0 1", 65536, 2211400855663535471},
		{0x0123456789abcdef, whole, far - 1, 1610245786599777427},
		{0x0123456789abcdef, whole, far, 787046510335949239},
		{top, whole, far, 2039967909319706618},
		{5, "box 0 63 7", 1, 355494581675127732},
		{1 << 32, "own", 3, 1927633535342461400},
	} {
		wantNum(t, c.seed, c.label, c.at, c.want)
	}
}

// PG1: seeds of known seeds and labels.
func TestKnownChildren(t *testing.T) {
	wantChild(t, 0, "", 1168828941117204429)
	wantChild(t, 1, "own", 62864251948633103)
	wantChild(t, top, "pair", 776483247578902977)
	wantChild(t, top, whole, 1950259144784577179)
	wantChild(t, 0x0123456789abcdef, "a", 1597189767681856400)
}

// PG1: seeds and labels of all kinds, digit by digit: a block's key is the seed in eight
// bytes, its text the label, a byte 0, and four bytes, always the highest first.
func TestAsPlainDigits(t *testing.T) {
	for _, label := range labels() {
		for _, seed := range seeds() {
			wantWords(t, seed, label, 32, plainWords(seed, label))
			wantChild(t, seed, label, plainNum(seed, label, 0))
		}
		for _, at := range []int{0, 1, 2, 3, 31, 32, 255, 256, 257, 65535, 65536, 65537, far - 1, far} {
			wantNum(t, 0x0123456789abcdef, label, at, plainNum(0x0123456789abcdef, label, at))
			wantNum(t, 0, label, at, plainNum(0, label, at))
			wantNum(t, top, label, at, plainNum(top, label, at))
		}
	}
}

// PG1: a label of none, of 1 and of up to 64 bytes is one, and of 65 and more is none.
func TestLabelsOfEachLength(t *testing.T) {
	for n := range 200 {
		for _, b := range []string{" ", "a", "~"} {
			label := strings.Repeat(b, n)
			if n > 64 {
				wantNoWords(t, 1, label, 8)
				wantNoNum(t, 1, label, 0)
				wantNoChild(t, 1, label)
				continue
			}
			wantWords(t, 1, label, 32, plainWords(1, label))
			wantNum(t, 1, label, 9, plainNum(1, label, 9))
			wantChild(t, 1, label, plainNum(1, label, 0))
		}
	}
}

// PG1: the bytes from 32 to 126 are a label's, alone, ahead, amid and behind; no other is.
func TestLabelsOfEachByte(t *testing.T) {
	for v := range 256 {
		s := string([]byte{byte(v)})
		for _, label := range []string{s, s + "own", "o" + s + "wn", "own" + s, s + whole[1:], whole[:32] + s + whole[33:], whole[:63] + s} {
			if v < 32 || v > 126 {
				wantNoWords(t, 1, label, 8)
				wantNoNum(t, 1, label, 0)
				wantNoChild(t, 1, label)
				continue
			}
			wantWords(t, 1, label, 32, plainWords(1, label))
			wantNum(t, 1, label, 9, plainNum(1, label, 9))
			wantChild(t, 1, label, plainNum(1, label, 0))
		}
	}
}

// PG1: what is no label is ErrArg, whatever is asked for: runes of more than one byte,
// and bytes that are no runes, too.
func TestTextsThatAreNoLabels(t *testing.T) {
	for _, s := range strangers() {
		for _, seed := range []uint64{0, 1, top} {
			for _, n := range []int{math.MinInt, -1, 0, 1, 8, 32, 33} {
				wantNoWords(t, seed, s, n)
			}
			for _, at := range []int{math.MinInt, -1, 0, 1, far, far + 1} {
				wantNoNum(t, seed, s, at)
			}
			wantNoChild(t, seed, s)
		}
	}
}

// PG1: n is from 0 to 32, and so many numbers there are.
func TestHowManyWords(t *testing.T) {
	for _, label := range []string{"", "own", whole} {
		for _, seed := range []uint64{0, 1, top} {
			all := plainWords(seed, label)
			for _, n := range []int{0, 1, 7, 8, 9, 15, 16, 17, 23, 24, 25, 31, 32} {
				wantWords(t, seed, label, n, all[:n])
			}
			for _, n := range []int{math.MinInt, math.MinInt32, -64, -32, -8, -1, 33, 34, 40, 64, 256, 1 << 20, 1 << 32, 1<<32 + 8, math.MaxInt} {
				wantNoWords(t, seed, label, n)
			}
		}
	}
}

// The document's example: no numbers: none, and no error.
func TestNoWords(t *testing.T) {
	for _, label := range labels() {
		wantWords(t, 1, label, 0, nil)
	}
}

// PG1: a place is from 0 to 2^20; those beyond are not cut to four bytes.
func TestPlacesOfNums(t *testing.T) {
	for _, label := range []string{"", "own", whole} {
		for _, seed := range []uint64{0, 1, top} {
			for _, at := range []int{0, 1, far - 1, far} {
				wantNum(t, seed, label, at, plainNum(seed, label, at))
			}
			for _, at := range []int{math.MinInt, math.MinInt32, -far, -256, -1, far + 1, far + 2, 2 * far, 1 << 31, 1 << 32, 1<<32 + 1, math.MaxInt} {
				wantNoNum(t, seed, label, at)
			}
		}
	}
}

// PG1: a number is of the field, and is what is left of eight bytes, of which many are
// not below Prime: all turns of what is divided away come up.
func TestNumsAreOfTheField(t *testing.T) {
	turns := map[uint64]int{}
	for at := range 2000 {
		got, err := Num(3, "field", at)
		if err != nil || got >= api.Prime {
			t.Errorf("Num(3, \"field\", %d): %d, %v", at, got, err)
		}
		digits := plainBlock(3, "field", at)[:16]
		if got != left(digits) {
			t.Errorf("Num(3, \"field\", %d): %d is not left of %s", at, got, digits)
		}
		turns[(valueOf(digits)-got)/prime]++
	}
	for turn := range uint64(8) {
		if turns[turn] == 0 {
			t.Errorf("no eight bytes have Prime in them %d times", turn)
		}
	}
}

// PG1: Words and Num are told out of the same blocks.
func TestNumsAndWordsShareBlocks(t *testing.T) {
	for _, label := range labels() {
		for _, seed := range []uint64{0, 1, prime, top} {
			words, err := Words(seed, label, 32)
			if err != nil || len(words) != 32 {
				t.Fatalf("Words(%d, %q, 32): %x, %v", seed, label, words, err)
			}
			for at := range 4 {
				first := uint64(words[8*at])<<32 | uint64(words[8*at+1])
				wantNum(t, seed, label, at, first%prime)
			}
		}
	}
}

// PG1: Child is Num at 0, and the seed is not made less first, as the field would.
func TestChildIsTheFirstNum(t *testing.T) {
	for _, label := range labels() {
		for _, seed := range seeds() {
			num, err := Num(seed, label, 0)
			if err != nil {
				t.Fatalf("Num(%d, %q, 0): %v", seed, label, err)
			}
			wantChild(t, seed, label, num)
		}
		for _, c := range [][2]uint64{{0, prime}, {7, top}, {1, prime + 1}} {
			a, errA := Child(c[0], label)
			b, errB := Child(c[1], label)
			if errA != nil || errB != nil || a == b {
				t.Errorf("%q: the seeds %d and %d: %d, %v and %d, %v", label, c[0], c[1], a, errA, b, errB)
			}
		}
	}
}

// PG1: each bit of a seed, each byte of a label and each bit of a place makes a difference.
func TestEachPartCounts(t *testing.T) {
	seen := map[uint64]string{}
	see := func(seed uint64, label string, at int) {
		name := hex(seed, 8) + " " + strconv.Quote(label) + " " + strconv.Itoa(at)
		got, err := Num(seed, label, at)
		if other, ok := seen[got]; ok || err != nil {
			t.Errorf("%s: %d, %v, as of %s", name, got, err, other)
		}
		seen[got] = name
	}
	const seed, at = 0x0123456789abcdef, 0x55555
	see(seed, whole, at)
	for bit := range 64 {
		see(seed^1<<bit, whole, at)
	}
	for bit := range 20 {
		see(seed, whole, at^1<<bit)
	}
	for n := range len(whole) {
		see(seed, whole[:n], at)
		see(seed, whole[:n]+"~"+whole[n+1:], at)
		see(seed, whole[:n]+" "+whole[n+1:], at)
	}
	for _, label := range []string{"own", "own ", " own", "o wn", "Own", "OWN", "pair", "own  "} {
		see(seed, label, at)
	}
}

// PG2: fewer numbers are the first ones of more, whatever is asked first.
func TestFewerAreTheFirstOfMore(t *testing.T) {
	for _, label := range labels() {
		for _, seed := range []uint64{0, 1, prime, 0x0123456789abcdef, top} {
			all, err := Words(seed, label, 32)
			if err != nil || len(all) != 32 {
				t.Fatalf("Words(%d, %q, 32): %x, %v", seed, label, all, err)
			}
			for n := 32; n >= 0; n-- {
				wantWords(t, seed, label, n, all[:n])
			}
			for n := range 33 {
				wantWords(t, seed, label, n, all[:n])
			}
		}
	}
}

// PG2: numbers go on from block to block, and none comes again.
func TestNoNumberComesAgain(t *testing.T) {
	for _, c := range known {
		words, err := Words(c.seed, c.label, 32)
		if err != nil {
			t.Fatalf("Words(%d, %q, 32): %v", c.seed, c.label, err)
		}
		slices.Sort(words)
		if len(slices.Compact(words)) != 32 {
			t.Errorf("Words(%d, %q, 32): one number comes twice", c.seed, c.label)
		}
	}
}

// What is answered is new memory, spare room too: nothing that is done to it is told again.
func TestAnswersAreNew(t *testing.T) {
	for _, label := range []string{"", "own", whole} {
		all := plainWords(1, label)
		for n := range 33 {
			one, errOne := Words(1, label, n)
			other, errOther := Words(1, label, n)
			if errOne != nil || errOther != nil {
				t.Fatalf("Words(1, %q, %d): %v, %v", label, n, errOne, errOther)
			}
			one = one[:cap(one)]
			for i := range one {
				one[i] = 0xdeadbeef
			}
			if !slices.Equal(other, all[:n]) || slices.Contains(other[:cap(other)], 0xdeadbeef) {
				t.Errorf("Words(1, %q, %d): two answers share memory", label, n)
			}
			wantWords(t, 1, label, n, all[:n])
			wantWords(t, 1, label, 32, all)
		}
	}
}

// No call hangs on the calls ahead of it, nor on where a label lies.
func TestAsksStandAlone(t *testing.T) {
	all, num := plainWords(1, "own"), plainNum(1, "own", 9)
	for _, label := range append(labels(), strangers()...) {
		for _, n := range []int{-1, 0, 5, 32, 33} {
			Words(top, label, n)
			Num(top, label, n)
			Child(top, label)
			wantWords(t, 1, "own", 32, all)
			wantNum(t, 1, "own", 9, num)
		}
	}
	long := strings.Repeat("own\x00é", 20)
	for at := 0; at < len(long); at += 6 {
		wantWords(t, 1, long[at:at+3], 32, all)
		wantNum(t, 1, strings.Clone(long[at:at+3]), 9, num)
	}
}

// Many ask at once, as clients of the package may.
func TestAsksAtOnce(t *testing.T) {
	want := plainWords(1, whole)
	done := make(chan []uint32)
	for range 8 {
		go func() {
			got, err := Words(1, whole, 32)
			if err != nil {
				got = nil
			}
			done <- got
		}()
	}
	for range 8 {
		if got := <-done; !slices.Equal(got, want) {
			t.Errorf("Words at once: %x, not %x", got, want)
		}
	}
}
