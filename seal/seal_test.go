package seal

import (
	"bytes"
	"errors"
	"math"
	"slices"
	"strconv"
	"strings"
	"testing"

	"caucus/api"
	"caucus/sha"
)

const (
	prime = 1<<61 - 1
	top   = math.MaxUint64
	full  = 65535 // as many as two bytes tell
)

// seeds are numbers of 64 bits, with those at both ends, and each bit alone.
func seeds() []uint64 {
	list := []uint64{0, 3, prime - 1, prime, prime + 1, 0x0123456789abcdef, 0xfedcba9876543210, top - 1, top}
	for bit := range 64 {
		list = append(list, 1<<bit)
	}
	return list
}

// textOf is so many bytes, of which no two neighbours are the same.
func textOf(n int) []byte {
	list := make([]byte, n)
	for i := range list {
		list[i] = byte(11*i + 5)
	}
	return list
}

// textsOf is a list of bytes that are so long.
func textsOf(lengths ...int) [][]byte {
	list := [][]byte{}
	for _, n := range lengths {
		list = append(list, textOf(n))
	}
	return list
}

// repeated is a list in which one text stands so often.
func repeated(b []byte, many int) [][]byte {
	list := make([][]byte, many)
	for i := range list {
		list[i] = b
	}
	return list
}

// mixed is bytes of all values, always the same ones of a seed.
func mixed(n int, seed uint64) []byte {
	list := make([]byte, n)
	v := seed*2 + 1
	for i := range list {
		for range 3 {
			v ^= v << 13
			v ^= v >> 7
			v ^= v << 17
		}
		list[i] = byte(v >> 40)
	}
	return list
}

// cut is a list of the pieces of bytes that end at these places, in new memory.
func cut(b []byte, ends ...int) [][]byte {
	list, from := [][]byte{}, 0
	for _, end := range append(slices.Clone(ends), len(b)) {
		list = append(list, bytes.Clone(b[from:end]))
		from = end
	}
	return list
}

// cloned is a list in new memory, without spare room.
func cloned(l [][]byte) [][]byte {
	list := make([][]byte, len(l))
	for i, b := range l {
		list[i] = slices.Clip(bytes.Clone(b))
	}
	return list
}

// hex are hexadecimal digits of a number, so many bytes of it, the highest first.
func hex(v uint64, many int) string {
	s := strconv.FormatUint(v, 16)
	return strings.Repeat("0", 2*many-len(s)) + s
}

// bytesOf are the bytes of hexadecimal digits.
func bytesOf(digits string) []byte {
	list := []byte{}
	for ; digits != ""; digits = digits[2:] {
		v, err := strconv.ParseUint(digits[:2], 16, 8)
		if err != nil {
			panic(err)
		}
		list = append(list, byte(v))
	}
	return list
}

// plainOf is what a seed and a salt are bound to, in digits, as the chapter says it.
func plainOf(seed, salt uint64) string {
	return sha.Text(sha.Of(bytesOf("53" + hex(seed, 8) + hex(salt, 8))))
}

// plainList is what a list is bound to, in digits, as the chapter says it.
func plainList(l [][]byte) string {
	var digits strings.Builder
	digits.WriteString("4c" + hex(uint64(len(l)), 2))
	for _, b := range l {
		digits.WriteString(hex(uint64(len(b)), 2))
		for _, v := range b {
			digits.WriteString(hex(uint64(v), 1))
		}
	}
	return sha.Text(sha.Of(bytesOf(digits.String())))
}

func wantOf(t *testing.T, seed, salt uint64, want string) {
	t.Helper()
	got := Of(seed, salt)
	if sha.Text(got) != want {
		t.Errorf("Of(%d, %d): %s, not %s", seed, salt, sha.Text(got), want)
	}
	wantOpens(t, [32]byte(bytesOf(want)), seed, salt, true)
}

func wantOpens(t *testing.T, s [32]byte, seed, salt uint64, want bool) {
	t.Helper()
	if got := Opens(s, seed, salt); got != want {
		t.Errorf("Opens(%s, %d, %d): %v", sha.Text(s), seed, salt, got)
	}
}

func wantList(t *testing.T, l [][]byte, want string) {
	t.Helper()
	got, err := List(l)
	if err != nil || sha.Text(got) != want {
		t.Errorf("a list of %d: %s, %v, not %s", len(l), sha.Text(got), err, want)
	}
}

func isArg(err error) bool {
	var no api.Errno
	return errors.As(err, &no) && no == api.ErrArg
}

func wantNoList(t *testing.T, l [][]byte) {
	t.Helper()
	if got, err := List(l); !isArg(err) || got != [32]byte{} {
		t.Errorf("a list of %d: %s, %v, not ErrArg alone", len(l), sha.Text(got), err)
	}
}

// boundTo is what a list is bound to.
func boundTo(t *testing.T, l [][]byte) [32]byte {
	t.Helper()
	sum, err := List(l)
	if err != nil {
		t.Fatalf("a list of %d: %v", len(l), err)
	}
	return sum
}

// SL1: seeds and salts whose sums were reckoned apart from the project.
func TestKnownSeeds(t *testing.T) {
	for _, c := range []struct {
		seed, salt uint64
		want       string
	}{
		{0, 0, "6c74b316d9b92a7b0ac1b312ace30985f97cb88e95e2ffa8cf92d3c82211da57"},
		{top, 0, "db1e7bae15284216c7947364799f2dbc2af614bf115cd9c303e21f2f09126a02"},
		{0, top, "e98e143117af4efa20411fcaa6998c16b1b47fe04606828b26c70fbe54fa92f0"},
		{top, top, "e1fe3908f89e9e926a55f5c158ee9ce9610c7be402d366214af01b2bad29248c"},
		{1, 0, "5caaaeb42ef6bda7fab566d34453921b11a19adc338e9ef131d87c6c4e65d268"},
		{0, 1, "0a4688e7e5a93c90ff00ad10dd36eadb73694286c1e081675b0eb21b76059347"},
		{1, 2, "0d7d1aaaf5d881994971830b3a6fd87ffd3b26edb3d5c6d03f475be70c5ec579"},
		{2, 1, "c179d85fa4c77be64d797b570af7a2e12f995238113c6ae562efac7e7a369917"},
		{0x0123456789abcdef, 0xfedcba9876543210, "8c503d207622d3579af9d356bdd9529921c387d8d28d215f9e0faf873e4f2132"},
		{prime, 1 << 63, "5687363d1a837afa0e48258e74251bd8aeb59db7a2a4eef5d854e2c4f62d6809"},
		{1 << 63, prime, "d328f1cfbb32d907d9c881172e652aec988c6b2ecef52d8d3b8f972ffae52005"},
	} {
		wantOf(t, c.seed, c.salt, c.want)
	}
}

// SL1: seeds and salts of all kinds, digit by digit: the byte 83, and each number in eight
// bytes, the highest first.
func TestSeedsAsPlainDigits(t *testing.T) {
	for _, seed := range seeds() {
		for _, salt := range seeds() {
			wantOf(t, seed, salt, plainOf(seed, salt))
		}
	}
	for place := range 8 {
		for v := range uint64(256) {
			wantOf(t, v<<(8*place), 1, plainOf(v<<(8*place), 1))
			wantOf(t, 1, v<<(8*place), plainOf(1, v<<(8*place)))
		}
	}
}

// SL1: a sum that differs in a bit, or a byte, is not opened.
func TestOtherSumsAreNotOpened(t *testing.T) {
	for _, c := range [][2]uint64{{0, 0}, {1, 2}, {top, 0}, {0, top}, {top, top}, {prime, 7}} {
		right := Of(c[0], c[1])
		wantOpens(t, right, c[0], c[1], true)
		for bit := range 256 {
			other := right
			other[bit/8] ^= 1 << (bit % 8)
			wantOpens(t, other, c[0], c[1], false)
		}
		for _, place := range []int{0, 15, 16, 31} {
			for v := range 256 {
				other := right
				other[place] = byte(v)
				wantOpens(t, other, c[0], c[1], byte(v) == right[place])
			}
		}
		twice := right
		twice[0], twice[31] = twice[0]^1, twice[31]^1
		wantOpens(t, twice, c[0], c[1], false)
		wantOpens(t, [32]byte{}, c[0], c[1], false)
	}
}

// SL1: neither another seed, nor another salt, nor the two the other way round open a sum.
func TestOtherSeedsOpenNothing(t *testing.T) {
	for _, c := range [][2]uint64{{0, 0}, {1, 2}, {top, 0}, {0, top}, {top, top}, {prime, 7}, {0x0123456789abcdef, 0xfedcba9876543210}} {
		sum := Of(c[0], c[1])
		for bit := range 64 {
			wantOpens(t, sum, c[0]^1<<bit, c[1], false)
			wantOpens(t, sum, c[0], c[1]^1<<bit, false)
			wantOpens(t, sum, c[0]^1<<bit, c[1]^1<<bit, false)
		}
		wantOpens(t, sum, c[1], c[0], c[0] == c[1])
		wantOpens(t, sum, c[0]+1, c[1]-1, false)
		wantOpens(t, sum, ^c[0], c[1], false)
		wantOpens(t, sum, c[0], ^c[1], false)
	}
	wantOpens(t, Of(7, prime), 7, 0, false)
	wantOpens(t, Of(prime, 7), 0, 7, false)
}

// SL1: sums of something else are not opened, though they are near.
func TestSumsOfOthersAreNotOpened(t *testing.T) {
	const seed, salt = 0x0123456789abcdef, 0xfedcba9876543210
	both := hex(seed, 8) + hex(salt, 8)
	for _, digits := range []string{
		both, "53" + hex(salt, 8) + hex(seed, 8), "4c" + both, "73" + both, "00" + both, "53" + hex(seed, 8),
		both + "53", "53" + both + "00", "5300" + both, "53" + hex(seed, 8) + "00" + hex(salt, 8),
		"53efcdab89674523011032547698badcfe", // each number the lowest byte first
	} {
		wantOpens(t, sha.Of(bytesOf(digits)), seed, salt, false)
	}
	wantOpens(t, sha.Of(bytesOf("53"+both)), seed, salt, true)
	sum := Of(seed, salt)
	wantOpens(t, sha.Of(sum[:]), seed, salt, false)
}

// The document's example: nothing is the sum of 4c 00 00.
func TestNoList(t *testing.T) {
	want := sha.Text(sha.Of([]byte{0x4c, 0, 0}))
	if want != "b3d646e54f44939f64a6879631d577647628abe434638dd37a1e96974277e348" {
		t.Errorf("the sum of 4c 00 00: %s", want)
	}
	wantList(t, nil, want)
	wantList(t, [][]byte{}, want)
	wantList(t, make([][]byte, 0, 9), want)
}

// SL1: lists whose sums were reckoned apart from the project.
func TestKnownLists(t *testing.T) {
	for _, c := range []struct {
		lengths []int
		want    string
	}{
		{[]int{0}, "4aa8646ff06dc93610ffbf2bcf7004d61a1e62af186e83474dce8179231ed44f"},
		{[]int{0, 0}, "8fd33bee8693011991c4c272930614072fbcac6dedd3a540bd680f1b932cf940"},
		{[]int{1}, "03cbecd6251a036e2872921c3251adbad94201dc4d989398f97053830bf73807"},
		{[]int{3}, "3cdf10744a33c31521f821fd142f5041cbee0e79d62df375fe3023ef74be6509"},
		{[]int{0, 3}, "1ac8ef6c3af41a6937b32d3c6f67ea581eb2db7e0f06ca6bf3558ca6ffb007e8"},
		{[]int{3, 0}, "576b99b2cf868d644538017a3fc5daba5d7bb815d2164dd6a4a0bf334d5a508e"},
		{[]int{255}, "f53df4bbb66fd9f7e9596575f216b6a4c3eb733a0b904b69a1a13d3dbca197d8"},
		{[]int{256}, "adb8bc813c016fd44979c2b0b013f445c32d51a2d9fb89dd33ddadfeba38352d"},
		{[]int{257}, "e4d6374c7dda2523acef0f1ba1e3f620e6961cf2183e56d2503de26526652017"},
		{[]int{full}, "ce79004d76de68fc8f70e3b4bc3e65a39f00ce31f0debefa41c39261a097bcaf"},
		{[]int{1, 255, 256, 257}, "42c1fba250b2fc24e8414c1e01835cc54501852a0bdab0bca743834067682701"},
		{[]int{full, full}, "b3339c3fc36ad303ddb90c98393adf3a3dbb0137d22e91d5ef1b1c37125e4c8b"},
		{[]int{0, 1, 2, 3, 64, 0}, "1115ed41bba63332796f93d3e62724319d9cd5c7904059ff41855ea8d4e2eac1"},
	} {
		wantList(t, textsOf(c.lengths...), c.want)
	}
	wantList(t, [][]byte{[]byte("abc"), nil, []byte("de")}, "4119894e3e052cc7245b7b28bbf8533d6caab7078eaf376002cbc60617d3af73")
}

// SL1: lists of so many, each of so many bytes, up to as many as two bytes tell.
func TestKnownLongLists(t *testing.T) {
	for _, c := range []struct {
		many, n int
		want    string
	}{
		{255, 0, "de7ed66ad1c2cc72274c066eba3330aef199f687380c390e9625d4769d8fdc5e"},
		{256, 0, "2ccbe53565d60b2674d30accd42189aa45eba3cc8214b9c7319d9c436a3ceb4c"},
		{257, 0, "a53b2561420f4b74ff8cb3d205a56b2b44fb933538080e6ae70e7c3897ad4248"},
		{full, 0, "c25b5ffc4593b51282db7c161f7604e26f085126fff91bdc085ad12e54e982eb"},
		{255, 1, "591c2a0ee9b86307e9c3a10905287e6e3979b8d561282ea5148466feffef08b4"},
		{256, 3, "a666407aa68643db9c662e4f6909d5c8214162ccd8b4f20fdd2d0e0d68fe057b"},
		{257, 9, "3d1f2af1891e8bd9fb3d270f7dfaa176a2e705f0d349d852cb32defdcf246170"},
		{full, 2, "24b1003b5410f7cb95b61ecf2cccc333d9c7c2cba1b229dc4955036fc7095a33"},
	} {
		wantList(t, repeated(textOf(c.n), c.many), c.want)
	}
	wantList(t, make([][]byte, 255), "de7ed66ad1c2cc72274c066eba3330aef199f687380c390e9625d4769d8fdc5e")
	wantList(t, make([][]byte, full), "c25b5ffc4593b51282db7c161f7604e26f085126fff91bdc085ad12e54e982eb")
}

// SL1: lists of all kinds, digit by digit, at and around where a byte of a length is full.
func TestListsAsPlainDigits(t *testing.T) {
	for n := range 300 {
		wantList(t, [][]byte{mixed(n, uint64(n))}, plainList([][]byte{mixed(n, uint64(n))}))
		l := cut(mixed(n, 9), n/3, n/2)
		wantList(t, l, plainList(l))
	}
	for _, n := range []int{511, 512, 513, 4096, full - 256, full - 1, full} {
		l := [][]byte{nil, mixed(n, 4), {1}}
		wantList(t, l, plainList(l))
	}
	for _, many := range []int{0, 1, 2, 254, 255, 256, 257, 511, 512, full - 1, full} {
		wantList(t, make([][]byte, many), plainList(make([][]byte, many)))
		l := repeated([]byte{0x4c}, many)
		wantList(t, l, plainList(l))
	}
	for v := range 256 {
		l := [][]byte{{byte(v)}, {byte(v), 0}, {0, byte(v)}}
		wantList(t, l, plainList(l))
	}
}

// SL1: one of more than 65,535 bytes is ErrArg, wherever it stands, and so are more.
func TestTooLongOnes(t *testing.T) {
	for _, n := range []int{full + 1, full + 2, full + 256, 2 * full, 1 << 20} {
		long := make([]byte, n)
		wantNoList(t, [][]byte{long})
		wantNoList(t, [][]byte{nil, long})
		wantNoList(t, [][]byte{long, nil})
		wantNoList(t, [][]byte{{1}, long, {2}})
		wantNoList(t, [][]byte{long, long})
		l := make([][]byte, full)
		for _, at := range []int{0, 1, 256, full - 1} {
			l[at] = long
			wantNoList(t, l)
			l[at] = nil
		}
		wantList(t, l, "c25b5ffc4593b51282db7c161f7604e26f085126fff91bdc085ad12e54e982eb")
	}
	room := make([]byte, full+9)
	wantList(t, [][]byte{room[:full]}, plainList([][]byte{make([]byte, full)}))
}

// SL1: more than 65,535 are ErrArg, whatever each is.
func TestTooManyOnes(t *testing.T) {
	for _, many := range []int{full + 1, full + 2, full + 256, 2 * full, 1 << 20} {
		wantNoList(t, make([][]byte, many))
		wantNoList(t, repeated([]byte{}, many))
		wantNoList(t, repeated([]byte{7}, many))
	}
	wantNoList(t, repeated(make([]byte, full+1), full+1))
	room := make([][]byte, full+9)
	wantList(t, room[:full], "c25b5ffc4593b51282db7c161f7604e26f085126fff91bdc085ad12e54e982eb")
}

// SL2: of lists that are unlike, no two are bound to one: all short ones of few bytes.
func TestUnlikeListsOfFewBytes(t *testing.T) {
	pieces := [][]byte{nil, {0}, {1}, {0x4c}, {0, 0}, {0, 1}, {1, 0}, {0x4c, 0, 0}, {0, 1, 0}}
	lists := [][][]byte{nil}
	for from := 0; from < len(lists); from++ {
		if len(lists[from]) == 4 {
			break
		}
		for _, b := range pieces {
			lists = append(lists, append(slices.Clone(lists[from]), b))
		}
	}
	seen := map[[32]byte]int{}
	for i, l := range lists {
		sum := boundTo(t, l)
		if other, ok := seen[sum]; ok {
			t.Errorf("%x and %x are bound to one", l, lists[other])
		}
		seen[sum] = i
	}
	if len(lists) != 1+9+81+729+6561 {
		t.Errorf("%d lists", len(lists))
	}
}

// SL2: where one ends and the next begins makes a difference.
func TestWhereOnesEnd(t *testing.T) {
	for _, whole := range [][]byte{mixed(60, 1), make([]byte, 60), bytes.Repeat([]byte{0, 1}, 30)} {
		seen := map[[32]byte]string{boundTo(t, cut(whole)): "none"}
		see := func(l [][]byte, name string) {
			sum := boundTo(t, l)
			if other, ok := seen[sum]; ok {
				t.Errorf("cut at %s and at %s: bound to one", name, other)
			}
			seen[sum] = name
		}
		for a := range 61 {
			see(cut(whole, a), strconv.Itoa(a))
			for b := a; b < 61; b++ {
				see(cut(whole, a, b), strconv.Itoa(a)+" and "+strconv.Itoa(b))
			}
		}
	}
	long := mixed(full, 2)
	if boundTo(t, cut(long, 256)) == boundTo(t, cut(long, 1)) || boundTo(t, cut(long, full)) == boundTo(t, cut(long, 0)) {
		t.Errorf("where one of a long list ends makes no difference")
	}
}

// SL2: their order makes a difference.
func TestOrderOfOnes(t *testing.T) {
	l := [][]byte{[]byte("a"), []byte("b"), nil, []byte("ab"), {0, 1}}
	sum := boundTo(t, l)
	for a := range l {
		for b := range a {
			other := cloned(l)
			other[a], other[b] = other[b], other[a]
			if boundTo(t, other) == sum {
				t.Errorf("%d and %d the other way round make no difference", a, b)
			}
		}
	}
}

// SL2: an empty one more makes a difference, ahead, amid and behind.
func TestOneEmptyMore(t *testing.T) {
	for _, l := range [][][]byte{nil, {nil}, {{0}}, {[]byte("a"), []byte("b")}, {nil, {0, 0}, nil}, make([][]byte, 255), make([][]byte, 256), make([][]byte, full-1)} {
		sum := boundTo(t, l)
		for _, at := range []int{0, len(l) / 2, len(l)} {
			for _, b := range [][]byte{nil, {}} {
				if boundTo(t, slices.Insert(slices.Clone(l), at, b)) == sum {
					t.Errorf("a list of %d: an empty one more at %d makes no difference", len(l), at)
				}
			}
		}
	}
}

// SL2: each bit of each one makes a difference.
func TestEachBitCounts(t *testing.T) {
	l := [][]byte{mixed(3, 1), nil, mixed(70, 2), mixed(1, 3)}
	seen := map[[32]byte]string{boundTo(t, l): "none"}
	for i := range l {
		for bit := range 8 * len(l[i]) {
			l[i][bit/8] ^= 1 << (bit % 8)
			sum := boundTo(t, l)
			l[i][bit/8] ^= 1 << (bit % 8)
			name := strconv.Itoa(i) + "." + strconv.Itoa(bit)
			if other, ok := seen[sum]; ok {
				t.Errorf("the bits %s and %s make no difference", name, other)
			}
			seen[sum] = name
		}
	}
}

// SL2: one list is bound to one, however its ones lie, and nil is empty.
func TestOneListIsBoundToOne(t *testing.T) {
	whole := mixed(90, 5)
	want := plainList([][]byte{bytes.Clone(whole[:30]), {}, bytes.Clone(whole[20:60])})
	for _, l := range [][][]byte{
		{whole[:30], nil, whole[20:60]},
		{whole[:30:30], {}, whole[20:60:60]},
		{whole[:30], whole[7:7], whole[20:60]},
		{bytes.Clone(whole[:30]), make([]byte, 0, 7), append(bytes.Clone(whole[20:50]), whole[50:60]...)},
	} {
		wantList(t, l, want)
		wantList(t, append(make([][]byte, 0, 20), l...), want)
	}
	wantList(t, [][]byte{nil}, plainList([][]byte{{}}))
}

// SL2: no list is bound to what a seed is, though its text goes on just so.
func TestListsAreNoSeeds(t *testing.T) {
	l := [][]byte{textOf(12)}
	text := append([]byte{0, 1, 0, 12}, textOf(12)...)
	v := [2]uint64{}
	for i, b := range text {
		v[i/8] = v[i/8]<<8 | uint64(b)
	}
	sum := boundTo(t, l)
	if sum == Of(v[0], v[1]) || Opens(sum, v[0], v[1]) {
		t.Errorf("a list is bound to what a seed is")
	}
}

// What is handed in is not changed, nor is the spare room behind an end.
func TestArgumentsStay(t *testing.T) {
	for _, n := range []int{0, 1, 40, 255, 256} {
		room := mixed(n+300, 6)
		wantRoom := bytes.Clone(room)
		lists := [][]byte{room[:n], nil, room[n : n+20], room[n+30 : n+30], {}, textOf(9), textOf(full + 1)}
		wantLists := cloned(lists)
		for many := range 8 {
			List(lists[:many])
		}
		if !bytes.Equal(room, wantRoom) || !slices.EqualFunc(lists, wantLists, bytes.Equal) {
			t.Errorf("of %d bytes: what is handed in, or its spare room, has changed", n)
		}
		if lists[1] != nil || lists[4] == nil {
			t.Errorf("an empty one has changed")
		}
	}
	sum := Of(1, 2)
	want := sum
	if !Opens(sum, 1, 2) || Opens(sum, 2, 1) || sum != want {
		t.Errorf("Opens has changed a sum")
	}
}

// What is handed in is not kept, and an answer is nobody else's.
func TestAnswersAreNew(t *testing.T) {
	l := textsOf(3, 0, 70)
	want := plainList(l)
	sum := boundTo(t, l)
	for i := range l {
		clear(l[i])
	}
	if sha.Text(sum) != want {
		t.Errorf("an answer hangs on what was handed in")
	}
	wantList(t, l, plainList([][]byte{make([]byte, 3), nil, make([]byte, 70)}))
	clear(sum[:])
	wantList(t, textsOf(3, 0, 70), want)
	one := Of(1, 2)
	clear(one[:])
	wantOf(t, 1, 2, plainOf(1, 2))
}

// No call hangs on the calls ahead of it.
func TestAsksStandAlone(t *testing.T) {
	want := plainList(textsOf(3, 0, 70))
	for _, seed := range seeds() {
		Of(seed, ^seed)
		Opens([32]byte{1}, seed, seed)
		List([][]byte{textOf(int(seed % 300))})
		List([][]byte{textOf(full + 1)})
		wantList(t, textsOf(3, 0, 70), want)
		wantOf(t, 1, 2, "0d7d1aaaf5d881994971830b3a6fd87ffd3b26edb3d5c6d03f475be70c5ec579")
	}
}

// Many ask at once, as clients of the package may.
func TestAsksAtOnce(t *testing.T) {
	l := textsOf(3, 0, 70, 1000)
	want := plainList(l)
	done := make(chan string)
	for range 8 {
		go func() {
			sum, err := List(l)
			if err != nil || !Opens(Of(1, 2), 1, 2) {
				sum = [32]byte{}
			}
			done <- sha.Text(sum)
		}()
	}
	for range 8 {
		if got := <-done; got != want {
			t.Errorf("List at once: %s, not %s", got, want)
		}
	}
}
