package sha

import (
	"bytes"
	"errors"
	"math/big"
	"strconv"
	"strings"
	"testing"

	"caucus/api"
)

// pattern is bytes of which no two neighbours are the same.
func pattern(n int) []byte {
	list := make([]byte, n)
	for i := range list {
		list[i] = byte(7*i + 3)
	}
	return list
}

// mixed is bytes of all values, always the same ones of a seed.
func mixed(n int, seed uint64) []byte {
	list := make([]byte, n)
	v := seed*2 + 1
	for i := range list {
		for range 3 {
			v ^= v << 13
			v ^= v >> 7
			v ^= v << 17
		}
		list[i] = byte(v >> 40)
	}
	return list
}

// sums are sums to be told as texts: plain ones, and mixed ones.
func sums() [][32]byte {
	list := [][32]byte{{}, Of(nil), Of([]byte("abc")), [32]byte(bytes.Repeat([]byte{255}, 32))}
	for seed := range uint64(100) {
		list = append(list, [32]byte(mixed(32, seed)))
	}
	for i := range 256 {
		var s [32]byte
		s[i%32] = byte(i)
		list = append(list, s, [32]byte(bytes.Repeat([]byte{byte(i)}, 32)))
	}
	return list
}

// bitsOf is a number as so many digits 0 and 1.
func bitsOf(v uint64, many int) string {
	s := strconv.FormatUint(v, 2)
	return strings.Repeat("0", many-len(s)) + s
}

func word(s string) uint32 {
	v, err := strconv.ParseUint(s, 2, 32)
	if err != nil {
		panic(err)
	}
	return uint32(v)
}

// each is the digits that a rule makes of those of words, place by place.
func each(rule func(ones int, digits []byte) bool, words ...string) string {
	out := make([]byte, 32)
	for i := range out {
		digits, ones := make([]byte, len(words)), 0
		for j, w := range words {
			digits[j] = w[i]
			ones += int(w[i] - '0')
		}
		out[i] = '0'
		if rule(ones, digits) {
			out[i] = '1'
		}
	}
	return string(out)
}

func xor(words ...string) string {
	return each(func(ones int, _ []byte) bool { return ones%2 == 1 }, words...)
}

func plus(words ...string) string {
	sum := uint64(0)
	for _, w := range words {
		sum += uint64(word(w))
	}
	return bitsOf(sum%(1<<32), 32)
}

func right(w string, n int) string { return w[32-n:] + w[:32-n] }

func shift(w string, n int) string { return strings.Repeat("0", n) + w[:32-n] }

// fraction is the first 32 digits behind the point of a prime's root: of the square
// root, or of the cube root, which is where the words of the chapter come from.
func fraction(prime int64, power int64) string {
	low, high := big.NewInt(0), new(big.Int).Lsh(big.NewInt(prime), 32)
	want := new(big.Int).Lsh(big.NewInt(prime), uint(32*power))
	for new(big.Int).Sub(high, low).Cmp(big.NewInt(1)) > 0 {
		half := new(big.Int).Add(low, high)
		half.Rsh(half, 1)
		if new(big.Int).Exp(half, big.NewInt(power), nil).Cmp(want) > 0 {
			high = half
		} else {
			low = half
		}
	}
	return bitsOf(low.Uint64()%(1<<32), 32)
}

// fractions are those of the first so many primes.
func fractions(many int, power int64) []string {
	var list []string
	for n := int64(2); len(list) < many; n++ {
		if big.NewInt(n).ProbablyPrime(20) {
			list = append(list, fraction(n, power))
		}
	}
	return list
}

// plain is the sum told in digits 0 and 1, one by one as the chapter says it.
func plain(b []byte) [32]byte {
	text := ""
	for _, c := range b {
		text += bitsOf(uint64(c), 8)
	}
	text += "10000000"
	for (len(text)+64)%512 != 0 {
		text += "00000000"
	}
	text += bitsOf(uint64(len(b))*8, 64)
	sum, k := fractions(8, 2), fractions(64, 3)
	for ; text != ""; text = text[512:] {
		sum = plainBlock(sum, k, text[:512])
	}
	var out [32]byte
	for i := range out {
		out[i] = byte(word(strings.Join(sum, "")[8*i : 8*i+8]))
	}
	return out
}

func plainBlock(sum, k []string, block string) []string {
	var w []string
	for ; block != ""; block = block[32:] {
		w = append(w, block[:32])
	}
	for t := 16; t < 64; t++ {
		s0 := xor(right(w[t-15], 7), right(w[t-15], 18), shift(w[t-15], 3))
		s1 := xor(right(w[t-2], 17), right(w[t-2], 19), shift(w[t-2], 10))
		w = append(w, plus(s1, w[t-7], s0, w[t-16]))
	}
	v := append([]string(nil), sum...)
	for t := range 64 {
		a, e := v[0], v[4]
		ch := each(func(_ int, d []byte) bool { return d[0] == '1' && d[1] == '1' || d[0] == '0' && d[2] == '1' }, e, v[5], v[6])
		maj := each(func(ones int, _ []byte) bool { return ones >= 2 }, a, v[1], v[2])
		t1 := plus(v[7], xor(right(e, 6), right(e, 11), right(e, 25)), ch, k[t], w[t])
		t2 := plus(xor(right(a, 2), right(a, 13), right(a, 22)), maj)
		v = []string{plus(t1, t2), a, v[1], v[2], plus(v[3], t1), e, v[5], v[6]}
	}
	for i := range v {
		v[i] = plus(v[i], sum[i])
	}
	return v
}

func wantOf(t *testing.T, b []byte, want string) {
	t.Helper()
	if got := Text(Of(b)); got != want {
		t.Errorf("Of %d bytes: %s, not %s", len(b), got, want)
	}
}

func wantParse(t *testing.T, s string, want [32]byte) {
	t.Helper()
	got, err := Parse(s)
	if err != nil || got != want {
		t.Errorf("Parse(%q): %v, %v, not %v", s, got, err, want)
	}
}

func wantNoParse(t *testing.T, s string) {
	t.Helper()
	got, err := Parse(s)
	var no api.Errno
	if !errors.As(err, &no) || no != api.ErrForm {
		t.Errorf("Parse(%q): error %v, not %v", s, err, api.ErrForm)
	}
	if got != [32]byte{} {
		t.Errorf("Parse(%q): %v beside an error", s, got)
	}
}

// SU1: the document's example, and others that are well known.
func TestKnownSums(t *testing.T) {
	wantOf(t, []byte("abc"), "ba7816bf8f01cfea414140de5dae2223b00361a396177a9cb410ff61f20015ad")
	wantOf(t, nil, "e3b0c44298fc1c149afbf4c8996fb92427ae41e4649b934ca495991b7852b855")
	wantOf(t, []byte{}, "e3b0c44298fc1c149afbf4c8996fb92427ae41e4649b934ca495991b7852b855")
	wantOf(t, []byte("abcdbcdecdefdefgefghfghighijhijkijkljklmklmnlmnomnopnopq"), "248d6a61d20638b8e5c026930c3e6039a33ce45964ff2167f6ecedd419db06c1")
	wantOf(t, []byte("abcdefghbcdefghicdefghijdefghijkefghijklfghijklmghijklmnhijklmnoijklmnopjklmnopqklmnopqrlmnopqrsmnopqrstnopqrstu"), "cf5b16a778af8380036ce59e7b0492370b249b11e8f07a51afac45037afee9d1")
	wantOf(t, bytes.Repeat([]byte("a"), 1000000), "cdc76e5c9914fb9281a1c7e284d73e67f1809a48a497200e046d39ccc7112cd0")
}

// SU1: bytes of lengths around which one more block begins, and of many blocks.
func TestKnownSumsOfEachLength(t *testing.T) {
	for _, c := range []struct {
		n    int
		want string
	}{
		{0, "e3b0c44298fc1c149afbf4c8996fb92427ae41e4649b934ca495991b7852b855"},
		{1, "084fed08b978af4d7d196a7446a86b58009e636b611db16211b65a9aadff29c5"},
		{2, "323b730f87b4e7cc0948351a1c11b757b3026cda6784282576757bca21f12483"},
		{3, "6ab0dba1f4f1dfbb37b4f9eeb092c09fca4900ad32bdcd147d8dde35d6c87c35"},
		{4, "42a146d9caf95c0d29b3ea8e3574f3c47758bec2cdcb99e6f10381de77ab6d54"},
		{54, "160bbf14b458c877b7049e7cb5771dd653930f97d20bdd8ee795c16062906233"},
		{55, "e7313d333c272e639f790978283f9eb392e843d0f29b7016828bb1daa4aac70b"},
		{56, "4324d65f3c103567f5589c710bc08f8523f929a9272e3af36fc968e52abc6c27"},
		{57, "35df609437dcfea3279283ab79fd554e2bf78f8f7ae2de532d8ee300b09e8f73"},
		{62, "5b50d7a374c35bf46f501a178cceb2cfe649cd8f96c4a21d57377fcbb0eec4ab"},
		{63, "81c80242132f230c3bd41b3e63bbcff16107339549214a99614ff26664625055"},
		{64, "39e3d7b6b5d075d37d053ad89b24b41bef4f3c29760c84447cab3f3be1882241"},
		{65, "aacca6ff74fdbb296d165a45cecfa04e5127bc008770fbbdd48006f2d2fae95e"},
		{118, "2c49b89c5aaaaaa69ae70251cc0803f14afaf1a2caa461fa6b083750bc07ce88"},
		{119, "9ce7368e4daf32341631b492e80359dc9f594b48453cd0dd5bf0b19279cc177e"},
		{120, "7836b787757e95e58b3ca5aec90b1b004e8deba1e50e9675af9cabf1a13a04b5"},
		{127, "a8d23e75d936f303d248888d9b165ee543f4cbafcad3c9dd2a79bd84faa11d07"},
		{128, "d2742f1f4ac6bb7ca2b239ee18402ba8b3f9f8e652d2a72973c2b9ba11c08cf6"},
		{129, "307f8fc2c1622b92762e818d39a185d4d667ad49a4b07ceae1f4afa008a93ec4"},
		{1000, "1e9bc38cbf860b9ec31918b065f9b52476c549a782e0e7990bed8ce3868d2371"},
		{65536, "510b126e1d4ced49107fe4ab03ee54cb1c8e4caf6064e1dd29c48d4a3e74c38b"},
	} {
		wantOf(t, pattern(c.n), c.want)
	}
}

// SU1: bytes of each length up to some blocks, and of some more, digit by digit.
func TestSumsAsPlainDigits(t *testing.T) {
	for n := range 200 {
		wantOf(t, mixed(n, uint64(n)), Text(plain(mixed(n, uint64(n)))))
	}
	for _, n := range []int{247, 248, 255, 256, 257, 8192} {
		wantOf(t, mixed(n, 9), Text(plain(mixed(n, 9))))
	}
	for _, b := range []byte{0, 1, 127, 128, 255} {
		for _, n := range []int{1, 55, 56, 64, 128} {
			list := bytes.Repeat([]byte{b}, n)
			wantOf(t, list, Text(plain(list)))
		}
	}
}

// SU1: how many bits there were is told in eight bytes, also where four are too few.
func TestBitsOfLongBytes(t *testing.T) {
	long := make([]byte, 1<<29+56)
	for _, n := range []int{0, 1, 31, 32, 8191, 8192, 1<<21 - 1, 1 << 21, 1<<29 - 1, 1 << 29, 1<<29 + 3, 1<<29 + 55, 1<<29 + 56} {
		last := block(long[:n], (n+8)/64*64)
		if got := new(big.Int).SetBytes(last[56:]); got.Cmp(big.NewInt(8*int64(n))) != 0 {
			t.Errorf("of %d bytes: %v bits", n, got)
		}
	}
}

// SU1: whoever goes through blocks may end early.
func TestBlocksUpTo(t *testing.T) {
	for many := range 4 {
		seen := 0
		for range blocks(pattern(200)) {
			if seen == many {
				break
			}
			seen++
		}
		if seen != many {
			t.Errorf("%d blocks seen, not %d", seen, many)
		}
	}
}

// SU1: each bit of what is summed makes a difference, and so does a byte more.
func TestEachBitCounts(t *testing.T) {
	for _, n := range []int{1, 55, 56, 64, 120} {
		b := pattern(n)
		seen := map[[32]byte]int{Of(b): -1, Of(append(pattern(n), 0)): -2, Of(append(pattern(n), 128)): -3, Of(b[:n-1]): -4}
		for i := range 8 * n {
			b[i/8] ^= 1 << (i % 8)
			sum := Of(b)
			b[i/8] ^= 1 << (i % 8)
			if j, ok := seen[sum]; ok {
				t.Errorf("of %d bytes: bits %d and %d make no difference", n, i, j)
			}
			seen[sum] = i
		}
	}
}

// SU1: a text has two digits a byte, the higher one first, and small letters.
func TestPlainText(t *testing.T) {
	for _, c := range []struct {
		sum  [32]byte
		want string
	}{
		{[32]byte{}, strings.Repeat("0", 64)},
		{[32]byte(bytes.Repeat([]byte{255}, 32)), strings.Repeat("f", 64)},
		{[32]byte(bytes.Repeat([]byte{0xa0}, 32)), strings.Repeat("a0", 32)},
		{[32]byte{1}, "01" + strings.Repeat("0", 62)},
		{[32]byte{31: 16}, strings.Repeat("0", 62) + "10"},
		{
			[32]byte{0x01, 0x23, 0x45, 0x67, 0x89, 0xab, 0xcd, 0xef, 0xfe, 0xdc, 0xba, 0x98, 0x76, 0x54, 0x32, 0x10, 0, 1, 9, 10, 15, 16, 25, 26, 127, 128, 159, 160, 240, 249, 250, 255},
			"0123456789abcdeffedcba98765432100001090a0f10191a7f809fa0f0f9faff",
		},
	} {
		if got := Text(c.sum); got != c.want {
			t.Errorf("Text(%v): %s, not %s", c.sum, got, c.want)
		}
		wantParse(t, c.want, c.sum)
	}
}

// SU1: each byte at each place has its own two digits, and only these places change.
func TestTextOfEachByte(t *testing.T) {
	const digits = "0123456789abcdef"
	for place := range 32 {
		for v := range 256 {
			var s [32]byte
			s[place] = byte(v)
			want := strings.Repeat("00", place) + digits[v/16:v/16+1] + digits[v%16:v%16+1] + strings.Repeat("00", 31-place)
			if got := Text(s); got != want {
				t.Errorf("Text(%v): %s, not %s", s, got, want)
			}
			wantParse(t, want, s)
		}
	}
}

// SU1: a text of another length is ErrForm, whatever its digits are.
func TestParseOfOtherLengths(t *testing.T) {
	for n := range 200 {
		if n == 64 {
			continue
		}
		for _, digit := range []string{"0", "1", "a", "f", "A", "g", " "} {
			wantNoParse(t, strings.Repeat(digit, n))
		}
	}
	text := Text(Of([]byte("abc")))
	wantNoParse(t, "")
	wantNoParse(t, text[:63])
	wantNoParse(t, text[1:])
	wantNoParse(t, text+"0")
	wantNoParse(t, "0"+text)
	wantNoParse(t, text+"\n")
	wantNoParse(t, " "+text)
	wantNoParse(t, text+"\x00")
	wantNoParse(t, "0x"+text)
	wantNoParse(t, text+text)
	wantNoParse(t, strings.Repeat(text, 1000))
}

// SU1: of all bytes only the sixteen digits may stand in a text, wherever it is: no great
// letter, none beyond f, no sign and no blank.
func TestParseOfOtherBytes(t *testing.T) {
	for _, text := range []string{strings.Repeat("0", 64), Text(Of([]byte("abc")))} {
		for place := range 64 {
			for v := range 256 {
				s := text[:place] + string([]byte{byte(v)}) + text[place+1:]
				if v >= '0' && v <= '9' || v >= 'a' && v <= 'f' {
					if _, err := Parse(s); err != nil {
						t.Errorf("Parse(%q): %v", s, err)
					}
				} else {
					wantNoParse(t, s)
				}
			}
		}
	}
}

// SU1: texts that are nearly numbers, of 64 bytes.
func TestParseOfOtherNumbers(t *testing.T) {
	text := Text(Of([]byte("abc")))
	wantNoParse(t, strings.ToUpper(text))
	wantNoParse(t, "B"+text[1:])
	wantNoParse(t, text[:63]+"D")
	wantNoParse(t, "0x"+text[2:])
	wantNoParse(t, "+"+text[1:])
	wantNoParse(t, "-"+text[1:])
	wantNoParse(t, text[:31]+"_"+text[32:])
	wantNoParse(t, text[:63]+"\n")
	wantNoParse(t, text[:62]+"\r\n")
	wantNoParse(t, text[:32]+" "+text[33:])
	wantNoParse(t, strings.Repeat("g", 64))
	wantNoParse(t, strings.Repeat(" ", 64))
	wantNoParse(t, strings.Repeat("\x00", 64))
	wantNoParse(t, strings.Repeat("\xff", 64))
}

// SU1: characters of more than one byte are no digits, whether 64 characters or 64 bytes
// are counted, and though some of them look like digits.
func TestParseOfLongCharacters(t *testing.T) {
	text := Text(Of([]byte("abc")))
	for _, c := range []string{"\u00e9", "\u0661", "\u0430", "\uff10", "\uff41", "\u2460", "\U0001d7ce", "\U0001f600"} {
		for _, place := range []int{0, 1, 2, 31, 32, 33, 64 - len(c)} {
			wantNoParse(t, text[:place]+c+text[place+len(c):])
			wantNoParse(t, text[:place]+c+text[place+1:])
		}
		wantNoParse(t, text[:63]+c)
		wantNoParse(t, strings.Repeat(c, 64))
		wantNoParse(t, strings.Repeat(c, 64/len(c))+text[:64%len(c)])
	}
}

// SU2: a sum comes back from its text, and a text from its sum.
func TestSumsComeBack(t *testing.T) {
	for _, s := range sums() {
		text := Text(s)
		wantParse(t, text, s)
		back, _ := Parse(text)
		if len(text) != 64 || Text(back) != text {
			t.Errorf("Text(%v): %s, then %s", s, text, Text(back))
		}
	}
	for n := range 200 {
		wantParse(t, Text(Of(pattern(n))), Of(pattern(n)))
	}
}

// SU2: no two sums have one text.
func TestTextsAreApart(t *testing.T) {
	seen := map[string][32]byte{}
	for _, s := range sums() {
		text := Text(s)
		if other, ok := seen[text]; ok && other != s {
			t.Errorf("%v and %v are both %s", s, other, text)
		}
		seen[text] = s
	}
}

// SU1: what is summed stays as it was, spare room too, of whatever length.
func TestArgumentsStay(t *testing.T) {
	for n := range 200 {
		room := mixed(n+200, 5)
		want := bytes.Clone(room)
		sum := Of(room[:n])
		if !bytes.Equal(room, want) {
			t.Errorf("of %d bytes: what is handed in, or its spare room, has changed", n)
		}
		if sum != Of(bytes.Clone(want[:n])) {
			t.Errorf("of %d bytes: the sum hangs on the spare room", n)
		}
	}
	s := Of(pattern(64))
	want := s
	Text(s)
	if s != want {
		t.Errorf("Text has changed a sum")
	}
}

// SU1: what is handed in is not kept, and an answer is nobody else's.
func TestAnswersAreNew(t *testing.T) {
	b := pattern(130)
	first := Of(b)
	want := first
	clear(b)
	if second := Of(b); first != want || second == first || second != Of(make([]byte, 130)) {
		t.Errorf("Of keeps what it was handed")
	}
	text := Text(first)
	wantText := strings.Clone(text)
	clear(first[:])
	if text != wantText || Text(want) != wantText {
		t.Errorf("Text keeps what it was handed")
	}
	given := []byte(wantText)
	back, err := Parse(string(given))
	clear(given)
	if err != nil || back != want {
		t.Errorf("Parse keeps what it was handed")
	}
	clear(back[:])
	wantParse(t, wantText, want)
}

// SU1, SU2: no call hangs on the calls ahead of it, failed ones too.
func TestAsksStandAlone(t *testing.T) {
	const abc = "ba7816bf8f01cfea414140de5dae2223b00361a396177a9cb410ff61f20015ad"
	for n := range 130 {
		Of(pattern(n))
		wantNoParse(t, abc[:63]+"x")
		wantNoParse(t, abc[:n%64])
		wantOf(t, []byte("abc"), abc)
		wantParse(t, abc, Of([]byte("abc")))
	}
}

// Many ask at once, as clients of the package may.
func TestAsksAtOnce(t *testing.T) {
	done := make(chan [32]byte)
	for range 8 {
		go func() { done <- Of(pattern(1000)) }()
	}
	want := Of(pattern(1000))
	for range 8 {
		if got := <-done; got != want {
			t.Errorf("Of at once: %v, not %v", got, want)
		}
	}
}
