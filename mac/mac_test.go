package mac

import (
	"bytes"
	"strconv"
	"strings"
	"testing"

	"caucus/sha"
)

// keyOf is a key of so many bytes, of which no two neighbours are the same.
func keyOf(n int) []byte {
	list := make([]byte, n)
	for i := range list {
		list[i] = byte(7*i + 3)
	}
	return list
}

// textOf is a text of so many bytes, of which no two neighbours are the same.
func textOf(n int) []byte {
	list := make([]byte, n)
	for i := range list {
		list[i] = byte(11*i + 5)
	}
	return list
}

// mixed is bytes of all values, always the same ones of a seed.
func mixed(n int, seed uint64) []byte {
	list := make([]byte, n)
	v := seed*2 + 1
	for i := range list {
		for range 3 {
			v ^= v << 13
			v ^= v >> 7
			v ^= v << 17
		}
		list[i] = byte(v >> 40)
	}
	return list
}

// noughts is bytes, and so many bytes 0 behind them.
func noughts(b []byte, many int) []byte {
	return append(bytes.Clone(b), make([]byte, many)...)
}

// xored are hexadecimal digits, two a byte, of which each byte is xor one other. It goes
// bit by bit, so that it does not lean on what the package does.
func xored(digits string, mask byte) string {
	out := ""
	for ; digits != ""; digits = digits[2:] {
		v, err := strconv.ParseUint(digits[:2], 16, 8)
		if err != nil {
			panic(err)
		}
		sum := uint64(0)
		for i := range 8 {
			if v>>i%2 != uint64(mask)>>i%2 {
				sum += 1 << i
			}
		}
		out += digitsOf([]byte{byte(sum)})
	}
	return out
}

// digitsOf are bytes as hexadecimal digits, two a byte.
func digitsOf(b []byte) string {
	var out strings.Builder
	for _, v := range b {
		if v < 16 {
			out.WriteString("0")
		}
		out.WriteString(strconv.FormatUint(uint64(v), 16))
	}
	return out.String()
}

// bytesOf are the bytes of hexadecimal digits.
func bytesOf(digits string) []byte {
	list := []byte{}
	for ; digits != ""; digits = digits[2:] {
		v, err := strconv.ParseUint(digits[:2], 16, 8)
		if err != nil {
			panic(err)
		}
		list = append(list, byte(v))
	}
	return list
}

// plainBlock is a key's block in digits, as the chapter says it.
func plainBlock(key []byte) string {
	digits := digitsOf(key)
	if len(digits) > 128 {
		digits = sha.Text(sha.Of(key))
	}
	return digits + strings.Repeat("0", 128-len(digits))
}

// plain is the sum told in digits, as the chapter says it.
func plain(key, text []byte) string {
	block := plainBlock(key)
	inner := sha.Text(sha.Of(bytesOf(xored(block, 0x36) + digitsOf(text))))
	return sha.Text(sha.Of(bytesOf(xored(block, 0x5c) + inner)))
}

func wantOf(t *testing.T, key, text []byte, want string) {
	t.Helper()
	got := Of(key, text)
	if sha.Text(got) != want {
		t.Errorf("a key of %d bytes, a text of %d: %s, not %s", len(key), len(text), sha.Text(got), want)
	}
	wantCheck(t, key, text, [32]byte(bytesOf(want)), true)
}

func wantBlock(t *testing.T, key []byte, want string) {
	t.Helper()
	got := Block(key)
	if digitsOf(got[:]) != want {
		t.Errorf("the block of a key of %d bytes: %s, not %s", len(key), digitsOf(got[:]), want)
	}
}

func wantCheck(t *testing.T, key, text []byte, s [32]byte, want bool) {
	t.Helper()
	if got := Check(key, text, s); got != want {
		t.Errorf("Check, a key of %d bytes, a text of %d, %s: %v", len(key), len(text), sha.Text(s), got)
	}
}

// wantSame wants two keys to have one block and one sum of each text, or neither.
func wantSame(t *testing.T, key, other []byte, want bool) {
	t.Helper()
	if got := Block(key) == Block(other); got != want {
		t.Errorf("keys of %d and %d bytes: one block: %v", len(key), len(other), got)
	}
	for _, n := range []int{0, 1, 28, 64, 200} {
		if got := Of(key, textOf(n)) == Of(other, textOf(n)); got != want {
			t.Errorf("keys of %d and %d bytes, a text of %d: one sum: %v", len(key), len(other), n, got)
		}
		wantCheck(t, other, textOf(n), Of(key, textOf(n)), want)
	}
}

// MA1: the document's example, and others that are well known.
func TestKnownSums(t *testing.T) {
	if s := sha.Text(Of([]byte("Jefe"), []byte("what do ya want for nothing?"))); s[:8] != "5bdcc146" {
		t.Errorf("the example: %s", s)
	}
	count := make([]byte, 25)
	for i := range count {
		count[i] = byte(i + 1)
	}
	long := bytes.Repeat([]byte{0xaa}, 131)
	for _, c := range []struct {
		key, text []byte
		want      string
	}{
		{[]byte("Jefe"), []byte("what do ya want for nothing?"), "5bdcc146bf60754e6a042426089575c75a003f089d2739839dec58b964ec3843"},
		{[]byte("key"), []byte("The quick brown fox jumps over the lazy dog"), "f7bc83f430538424b13298e6aa6fb143ef4d59a14946175997479dbc2d1a3cd8"},
		{nil, nil, "b613679a0814d9ec772f95d778c35fc5ff1697c493715653c6c712144292c5ad"},
		{bytes.Repeat([]byte{0x0b}, 20), []byte("Hi There"), "b0344c61d8db38535ca8afceaf0bf12b881dc200c9833da726e9376c2e32cff7"},
		{bytes.Repeat([]byte{0xaa}, 20), bytes.Repeat([]byte{0xdd}, 50), "773ea91e36800e46854db8ebd09181a72959098b3ef8c122d9635514ced565fe"},
		{count, bytes.Repeat([]byte{0xcd}, 50), "82558a389a443c0ea4cc819899f2083a85f0faa3e578f8077a2e3ff46729665b"},
		{bytes.Repeat([]byte{0x0c}, 20), []byte("Test With Truncation"), "a3b6167473100ee06e0c796c2955552bfa6f7c0a6a8aef8b93f860aab0cd20c5"},
		{long, []byte("Test Using Larger Than Block-Size Key - Hash Key First"), "60e431591ee0b67f0d8a26aacbf5b77f8e0bc6213728c5140546040f0ee37f54"},
		{long, []byte("This is a test using a larger than block-size key and a larger than block-size data. The key needs to be hashed before being used by the HMAC algorithm."), "9b09ffa71b942fcb27635fbcd5b0e944bfdc63644f0713938a7f51535c3a35e2"},
	} {
		wantOf(t, c.key, c.text, c.want)
	}
}

// MA1: keys and texts of lengths around which a block is full, and long ones.
func TestKnownSumsOfEachLength(t *testing.T) {
	for _, c := range []struct {
		key, text int
		want      string
	}{
		{0, 0, "b613679a0814d9ec772f95d778c35fc5ff1697c493715653c6c712144292c5ad"},
		{0, 3, "8b043e3b185d8c06a33cc5be058e537fdcadfde7b3701f9d58e704d832ccce03"},
		{1, 0, "be8d44d01aa938627809668b7364a21ed8e9fc8cffa64d18846d126789d4cef8"},
		{1, 1, "d0c9918673d81e054f55f2491b1442611919bb206b9d788108496c27e8214338"},
		{31, 64, "2989cee91d2811316587798a71b8c7987e003bd22944127c555ff261ecd6d634"},
		{32, 32, "969898a1d1dc97f931702b1e6b2f3ccf68333b18b7587ee24cb92d65b7b47d5b"},
		{33, 55, "48208224de0dae3211ecd6740b86e4853acb45963f514a049ba4e82cc8ec75e3"},
		{63, 0, "646aefd3a921995422ef7683d9726a66715f7e764d7e2211478f1c19b2ca13c8"},
		{63, 20, "f5a2d15149448ab6abf2be1ff49a40adfdcfebbb77bf85397d9ee69dad82a50a"},
		{64, 0, "58c7e63111455c2bf96038a7f89d0b8003da9a940571640f70d14f4f3f983fc1"},
		{64, 20, "88604ad4d60c070b5c255d0c7170f2fb4c550f53e2eaddecce8f61cb5abed774"},
		{65, 0, "34bb3ae87adcec2d42a585be6634ffec56e8cf0caac667a4e398ee1e46015c15"},
		{65, 20, "4cd9ae664c283df067a238a90be2729a177ae8e00433e064a821a1ef74ded4da"},
		{66, 64, "c265304764413a335648356e65d8fdcb41449205701165fc5e18c2a6e5016a4e"},
		{127, 1, "4caf5d47abfa2dde1966488db24042fa6af05f8d4371d3ecc5d550631b864a0d"},
		{128, 119, "9e7fc06a1e9256c2c0b0c9237dca84d18e18f8f708ed670c5811b49c18b85780"},
		{129, 120, "56b37f63c859abab8f1098cc4b8a045406da2ebf4e70f7d3d1eae2bdc10ba99b"},
		{1000, 1000, "a312538309b32d33d575c05acc7da56a905597e41033083f7c5a98f5d5bdedf8"},
		{65536, 3, "f833023c14f4ac8ea258370ca794d4a4700e10eadfdc04b4a73d97f489f17f70"},
		{3, 65536, "f499e355da95e170d557119ac2b2eff861da7e64b9f7976f8a9a9206c19eb77e"},
		{20, 54, "406bdb29f95be2056a769fb08fad17a2d55c1ececc0048aeff4a4ed45de6cd1a"},
		{20, 55, "197ee1e9f4c31062b728efd35e637e7a83aac75411016fcdc802d0feac118a9a"},
		{20, 56, "10684776d5a2d53ec764d2e12e57911d8929b6c89928ce9ed334f371409c1ac0"},
		{20, 63, "1e7aeb1ecebc161e714ce51cb96a3e2824373364e212d1ebed05f7abe7e6928c"},
		{20, 64, "4c2155ca2c1ecd7a295bbc4972b045da178425673cff01d8d02bf0e6b42cce99"},
		{20, 65, "5c7a4db0bd92ed23cc65c0589bd7d2dfb7719d7246bde8200d256040d22f0e03"},
	} {
		wantOf(t, keyOf(c.key), textOf(c.text), c.want)
	}
}

// MA1: keys of each length up to some blocks, with texts of some, digit by digit.
func TestSumsAsPlainDigits(t *testing.T) {
	for n := range 200 {
		for _, m := range []int{0, 1, 64, (n * 37) % 200} {
			key, text := mixed(n, uint64(n)), mixed(m, uint64(1000+m))
			wantOf(t, key, text, plain(key, text))
		}
	}
	for m := range 200 {
		wantOf(t, keyOf(32), mixed(m, uint64(m)), plain(keyOf(32), mixed(m, uint64(m))))
	}
	wantOf(t, mixed(8192, 1), mixed(8192, 2), plain(mixed(8192, 1), mixed(8192, 2)))
	for v := range 256 {
		b := []byte{byte(v)}
		for _, n := range []int{1, 64, 65} {
			wantOf(t, bytes.Repeat(b, n), bytes.Repeat(b, n), plain(bytes.Repeat(b, n), bytes.Repeat(b, n)))
		}
	}
}

// MA1: a key of up to 64 bytes is its block's beginning, and what is behind is 0.
func TestBlockOfShortKeys(t *testing.T) {
	wantBlock(t, nil, strings.Repeat("0", 128))
	wantBlock(t, []byte{}, strings.Repeat("0", 128))
	wantBlock(t, []byte{255}, "ff"+strings.Repeat("0", 126))
	wantBlock(t, []byte("Jefe"), "4a656665"+strings.Repeat("0", 120))
	wantBlock(t, bytes.Repeat([]byte{1}, 63), strings.Repeat("01", 63)+"00")
	wantBlock(t, bytes.Repeat([]byte{1}, 64), strings.Repeat("01", 64))
	for n := range 65 {
		wantBlock(t, keyOf(n), digitsOf(keyOf(n))+strings.Repeat("00", 64-n))
		wantBlock(t, mixed(n, 7), plainBlock(mixed(n, 7)))
	}
	for place := range 64 {
		for v := range 256 {
			key := make([]byte, 64)
			key[place] = byte(v)
			if Block(key) != [64]byte(key) || Block(key[:place+1]) != [64]byte(key) {
				t.Errorf("the byte %d at %d is not the block's", v, place)
			}
		}
	}
}

// MA1: a key of more than 64 bytes has its sum as its block's beginning.
func TestBlockOfLongKeys(t *testing.T) {
	for _, c := range []struct {
		n    int
		want string
	}{
		{65, "aacca6ff74fdbb296d165a45cecfa04e5127bc008770fbbdd48006f2d2fae95e"},
		{66, "11fdf00350687cdd9dc4312de9734ad3ddf5eeb4d0c442ad34b05f3e484e8ffd"},
		{127, "a8d23e75d936f303d248888d9b165ee543f4cbafcad3c9dd2a79bd84faa11d07"},
		{128, "d2742f1f4ac6bb7ca2b239ee18402ba8b3f9f8e652d2a72973c2b9ba11c08cf6"},
		{1000, "1e9bc38cbf860b9ec31918b065f9b52476c549a782e0e7990bed8ce3868d2371"},
		{65536, "510b126e1d4ced49107fe4ab03ee54cb1c8e4caf6064e1dd29c48d4a3e74c38b"},
	} {
		wantBlock(t, keyOf(c.n), c.want+strings.Repeat("0", 64))
	}
	for n := 65; n < 400; n++ {
		wantBlock(t, mixed(n, 8), plainBlock(mixed(n, 8)))
	}
}

// MA1, MA2: a long key and its sum are one key; a key of 64 bytes and its sum are not.
func TestSumsStandForLongKeys(t *testing.T) {
	for _, n := range []int{0, 1, 31, 32, 33, 63, 64, 65, 66, 127, 128, 129, 1000, 65536} {
		sum := sha.Of(keyOf(n))
		wantSame(t, keyOf(n), sum[:], n > 64)
		wantSame(t, keyOf(n), noughts(sum[:], 32), n > 64)
	}
}

// MA1: of all sums that differ in one bit, or a byte, none is taken.
func TestCheckOfOtherSums(t *testing.T) {
	for _, c := range [][2]int{{0, 0}, {4, 28}, {64, 64}, {65, 0}, {200, 200}} {
		key, text := keyOf(c[0]), textOf(c[1])
		right := Of(key, text)
		wantCheck(t, key, text, right, true)
		for bit := range 256 {
			other := right
			other[bit/8] ^= 1 << (bit % 8)
			wantCheck(t, key, text, other, false)
		}
		for _, place := range []int{0, 15, 16, 31} {
			for v := range 256 {
				other := right
				other[place] = byte(v)
				wantCheck(t, key, text, other, byte(v) == right[place])
			}
		}
		twice := right
		twice[0], twice[31] = twice[0]^1, twice[31]^1
		wantCheck(t, key, text, twice, false)
		wantCheck(t, key, text, [32]byte{}, false)
	}
}

// MA1: sums of something else are not taken, though they are near.
func TestCheckOfSumsOfOthers(t *testing.T) {
	key, text := []byte("Jefe"), []byte("what do ya want for nothing?")
	block := Block(key)
	for _, other := range [][32]byte{
		sha.Of(text),
		sha.Of(key),
		sha.Of(append(bytes.Clone(key), text...)),
		sha.Of(append(bytes.Clone(block[:]), text...)),
		sha.Of(bytesOf(xored(digitsOf(block[:]), 0x36) + digitsOf(text))),
		Of(text, key),
		Of(key, nil),
		Of(nil, text),
		Of(key, text[1:]),
		Of(key, text[:27]),
		Of(key, noughts(text, 1)),
		Of(key[1:], text),
		Of(key[:3], text),
		Of([]byte("jefe"), text),
		Of(append([]byte{0}, key...), text),
	} {
		wantCheck(t, key, text, other, false)
	}
}

// MA2: bytes 0 behind a short key make no difference up to 64, and one beyond does.
func TestNoughtsBehindKeys(t *testing.T) {
	for n := range 65 {
		for many := range 65 - n {
			if want := Block(keyOf(n)); Block(noughts(keyOf(n), many)) != want {
				t.Errorf("a key of %d bytes, and %d bytes 0: another block", n, many)
			}
		}
		for _, many := range []int{1, 2, 63, 64 - n} {
			if n+many <= 64 {
				wantSame(t, keyOf(n), noughts(keyOf(n), many), true)
			}
		}
		for _, many := range []int{65 - n, 66 - n, 128 - n} {
			wantSame(t, keyOf(n), noughts(keyOf(n), many), false)
		}
	}
	wantSame(t, nil, make([]byte, 64), true)
	wantSame(t, nil, make([]byte, 65), false)
	wantSame(t, make([]byte, 1), make([]byte, 64), true)
	wantSame(t, make([]byte, 65), make([]byte, 66), false)
}

// MA2: other bytes 0 make one: ahead of a key, amid it, behind a long one.
func TestNoughtsElsewhere(t *testing.T) {
	for _, n := range []int{1, 4, 32, 62, 63} {
		wantSame(t, keyOf(n), append([]byte{0}, keyOf(n)...), false)
		if n > 1 {
			wantSame(t, keyOf(n), append(append(keyOf(n/2), 0), keyOf(n)[n/2:]...), false)
		}
		wantSame(t, keyOf(n), append(keyOf(n), 1), false)
	}
	for _, n := range []int{65, 66, 127, 128, 1000} {
		for _, many := range []int{1, 2, 64} {
			wantSame(t, keyOf(n), noughts(keyOf(n), many), false)
		}
	}
}

// MA2: bytes 0 behind a text make a difference, and so do those ahead of it.
func TestNoughtsOfTexts(t *testing.T) {
	for _, n := range []int{0, 1, 28, 63, 64, 65, 200} {
		for _, key := range [][]byte{nil, []byte("Jefe"), keyOf(64), keyOf(65)} {
			sum := Of(key, textOf(n))
			for many := 1; many < 70; many++ {
				wantCheck(t, key, noughts(textOf(n), many), sum, false)
				wantCheck(t, key, append(make([]byte, many), textOf(n)...), sum, false)
			}
		}
	}
}

// MA2: each bit of a key and of a text makes a difference.
func TestEachBitCounts(t *testing.T) {
	for _, c := range [][2]int{{1, 1}, {4, 28}, {63, 1}, {64, 64}, {65, 65}, {130, 130}} {
		key, text := keyOf(c[0]), textOf(c[1])
		seen := map[[32]byte]int{Of(key, text): -1}
		for bit := range 8 * (c[0] + c[1]) {
			place := key
			at := bit / 8
			if at >= c[0] {
				place, at = text, at-c[0]
			}
			place[at] ^= 1 << (bit % 8)
			sum := Of(key, text)
			place[at] ^= 1 << (bit % 8)
			if other, ok := seen[sum]; ok {
				t.Errorf("a key of %d bytes, a text of %d: bits %d and %d make no difference", c[0], c[1], bit, other)
			}
			seen[sum] = bit
		}
	}
}

// MA2: where a key ends and its text begins makes a difference.
func TestWhereTheKeyEnds(t *testing.T) {
	whole := mixed(200, 3)
	seen := map[[32]byte]int{}
	for n := range 201 {
		sum := Of(whole[:n], whole[n:])
		if other, ok := seen[sum]; ok {
			t.Errorf("keys of %d and %d bytes of 200 make one sum", n, other)
		}
		seen[sum] = n
	}
}

// MA2: nil and no bytes are the same.
func TestNilAndEmpty(t *testing.T) {
	if Block(nil) != Block([]byte{}) {
		t.Errorf("Block tells nil from no bytes")
	}
	for _, b := range [][]byte{nil, keyOf(4), keyOf(100)} {
		sum := Of(b, nil)
		wantCheck(t, b, []byte{}, sum, true)
		wantCheck(t, b, make([]byte, 0, 64), sum, true)
		sum = Of(nil, b)
		wantCheck(t, []byte{}, b, sum, true)
		wantCheck(t, make([]byte, 0, 64), b, sum, true)
	}
}

// MA2: no spare room counts, where a key and a text lie makes no difference, and they
// may share their memory.
func TestPlaceOfArguments(t *testing.T) {
	for n := range 140 {
		room := mixed(n+200, 5)
		want := plain(bytes.Clone(room[:n]), bytes.Clone(room[n:n+60]))
		wantBlock(t, room[:n], plainBlock(bytes.Clone(room[:n])))
		wantOf(t, room[:n], room[n:n+60], want)
		wantOf(t, room[:n:n], room[n:n+60:n+60], want)
		wantOf(t, room[:n], room[:n], plain(bytes.Clone(room[:n]), bytes.Clone(room[:n])))
		wantOf(t, room[:n], room[n/2:n+9], plain(bytes.Clone(room[:n]), bytes.Clone(room[n/2:n+9])))
	}
}

// MA1: what is handed in stays as it was, spare room too, of whatever length.
func TestArgumentsStay(t *testing.T) {
	for n := range 140 {
		key, text := mixed(n+100, 5), mixed(n/2+100, 6)
		wantKey, wantText := bytes.Clone(key), bytes.Clone(text)
		Block(key[:n])
		sum := Of(key[:n], text[:n/2])
		Check(key[:n], text[:n/2], sum)
		Check(key[:n], text[:n/2], [32]byte{})
		if !bytes.Equal(key, wantKey) || !bytes.Equal(text, wantText) {
			t.Errorf("a key of %d bytes: what is handed in, or its spare room, has changed", n)
		}
	}
	sum := Of(keyOf(4), textOf(4))
	want := sum
	if Check(keyOf(4), textOf(4), sum); sum != want {
		t.Errorf("Check has changed a sum")
	}
}

// MA1: what is handed in is not kept, and an answer is nobody else's.
func TestAnswersAreNew(t *testing.T) {
	for _, n := range []int{1, 32, 64, 65, 200} {
		key, text := keyOf(n), textOf(n)
		sum, block := Of(key, text), Block(key)
		wantSum, wantBlocked := sum, block
		clear(key)
		clear(text)
		if sum != wantSum || block != wantBlocked {
			t.Errorf("of %d bytes: an answer hangs on what was handed in", n)
		}
		wantOf(t, key, text, plain(make([]byte, n), make([]byte, n)))
		wantBlock(t, key, plainBlock(make([]byte, n)))
		clear(sum[:])
		clear(block[:])
		if Of(keyOf(n), textOf(n)) != wantSum || Block(keyOf(n)) != wantBlocked {
			t.Errorf("of %d bytes: an answer is kept", n)
		}
	}
}

// MA2: no call hangs on the calls ahead of it.
func TestAsksStandAlone(t *testing.T) {
	const want = "5bdcc146bf60754e6a042426089575c75a003f089d2739839dec58b964ec3843"
	for n := range 130 {
		Of(keyOf(n), textOf(n))
		Block(keyOf(n))
		wantCheck(t, keyOf(n), textOf(n), [32]byte{1}, false)
		wantOf(t, []byte("Jefe"), []byte("what do ya want for nothing?"), want)
		wantBlock(t, []byte("Jefe"), "4a656665"+strings.Repeat("0", 120))
	}
}

// Many ask at once, as clients of the package may.
func TestAsksAtOnce(t *testing.T) {
	done := make(chan [32]byte)
	key, text := keyOf(100), textOf(1000)
	for range 8 {
		go func() { done <- Of(key, text) }()
	}
	want := Of(keyOf(100), textOf(1000))
	for range 8 {
		if got := <-done; got != want {
			t.Errorf("Of at once: %v, not %v", got, want)
		}
	}
}
