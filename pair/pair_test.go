package pair

import (
	"errors"
	"math"
	"math/big"
	"slices"
	"strconv"
	"testing"

	"caucus/api"
	"caucus/prg"
)

const (
	prime = 1<<61 - 1
	top   = math.MaxUint64
)

// edges are keys at both ends, at the ends of the field, and at those of its powers, which
// come round after 2^61 - 2 of them.
func edges() []uint64 {
	return []uint64{0, 1, 2, 3, prime - 2, prime - 1, prime, prime + 1, 2 * prime, 1 << 63, 0x0123456789abcdef, top - 1, top}
}

// publics are numbers that may be public, at the ends of these, and amid.
func publics() []uint64 {
	return []uint64{1, 2, 3, 1 << 32, 0x0123456789abcdef, prime - 2, prime - 1}
}

// strangers are numbers that may not be public.
func strangers() []uint64 {
	return []uint64{0, prime, prime + 1, 2*prime - 1, 2 * prime, 1 << 61, 1 << 62, 1 << 63, top - 1, top}
}

// power is b, so many times, told by whole numbers.
func power(b, n uint64) uint64 {
	whole := func(v uint64) *big.Int { return new(big.Int).SetUint64(v) }
	return new(big.Int).Exp(whole(b), whole(n), whole(prime)).Uint64()
}

// keyOf is a key of a client, all over the 64 bits, or, of each fourth one, an edge.
func keyOf(id int) uint64 {
	if id%4 == 0 {
		return edges()[id/4%len(edges())]
	}
	v := uint64(id)*0x9e3779b97f4a7c15 + 1
	v ^= v >> 29
	return v * 0xbf58476d1ce4e5b9
}

// peersOf are peers of these IDs, of whom that is public which belongs to keyOf.
func peersOf(ids ...int) []api.Peer {
	list := []api.Peer{}
	for _, id := range ids {
		list = append(list, api.Peer{ID: id, Public: power(3, keyOf(id))})
	}
	return list
}

// upTo are the IDs 0 up to ahead of n.
func upTo(n int) []int {
	ids := []int{}
	for id := range n {
		ids = append(ids, id)
	}
	return ids
}

// groups are lists of IDs that peers may have.
func groups() [][]int {
	list := [][]int{{0}, {63}, {0, 1}, {0, 63}, {62, 63}, {7, 8, 9}, {0, 31, 32, 63}, {1, 2, 4, 8, 16, 32}, {3, 5, 7, 11, 13, 17, 19, 23, 29, 31, 37, 41}}
	for _, n := range []int{1, 2, 3, 12, 31, 32, 33, 63, 64} {
		list = append(list, upTo(n))
	}
	return list
}

// dims are how many numbers a row may have, at both ends, and where blocks end.
func dims() []int { return []int{0, 1, 2, 7, 8, 9, 31, 32} }

// words are what a pair adds to the row of the one with the smaller ID.
func words(t *testing.T, seed uint64, dim int) []uint32 {
	t.Helper()
	list, err := prg.Words(seed, "pair", dim)
	if err != nil {
		t.Fatalf("Words(%d, \"pair\", %d): %v", seed, dim, err)
	}
	return list
}

// plainRow is a row told number by number, as the chapter says it.
func plainRow(t *testing.T, me int, key uint64, peers []api.Peer, dim int) []uint32 {
	t.Helper()
	row := make([]uint32, dim)
	for _, p := range peers {
		if p.ID == me {
			continue
		}
		for i, w := range words(t, power(p.Public, key), dim) {
			if me > p.ID {
				w = uint32(1<<32 - uint64(w))
			}
			row[i] += w
		}
	}
	return row
}

// rowOf are the numbers of hexadecimal digits, eight each.
func rowOf(digits string) []uint32 {
	row := []uint32{}
	for ; digits != ""; digits = digits[8:] {
		v, err := strconv.ParseUint(digits[:8], 16, 32)
		if err != nil {
			panic(err)
		}
		row = append(row, uint32(v))
	}
	return row
}

func wantRow(t *testing.T, me int, key uint64, peers []api.Peer, dim int, want []uint32) {
	t.Helper()
	got, err := Row(me, key, peers, dim)
	if err != nil || !slices.Equal(got, want) {
		t.Errorf("Row(%d, %d, %v, %d): %x, %v, not %x", me, key, peers, dim, got, err, want)
	}
}

func isArg(err error) bool {
	var no api.Errno
	return errors.As(err, &no) && no == api.ErrArg
}

func wantNoRow(t *testing.T, me int, key uint64, peers []api.Peer, dim int) {
	t.Helper()
	if got, err := Row(me, key, peers, dim); !isArg(err) || len(got) != 0 {
		t.Errorf("Row(%d, %d, %v, %d): %x, %v, not ErrArg alone", me, key, peers, dim, got, err)
	}
}

// wantPeers holds that peers may be: each of them has a row, too.
func wantPeers(t *testing.T, peers []api.Peer) {
	t.Helper()
	if err := Check(peers); err != nil {
		t.Errorf("Check(%v): %v", peers, err)
	}
	for _, p := range peers {
		if _, err := Row(p.ID, 5, peers, 1); err != nil {
			t.Errorf("Row(%d, 5, %v, 1): %v", p.ID, peers, err)
		}
	}
}

// wantNoPeers holds that peers may not be: neither is there a row, of whomever.
func wantNoPeers(t *testing.T, peers []api.Peer) {
	t.Helper()
	if err := Check(peers); !isArg(err) {
		t.Errorf("Check(%v): %v, not ErrArg", peers, err)
	}
	for _, dim := range []int{-1, 0, 1, 32, 33} {
		for _, p := range peers {
			wantNoRow(t, p.ID, 5, peers, dim)
		}
		wantNoRow(t, 0, 5, peers, dim)
	}
}

// PA1: what is public of known keys, reckoned apart from the project.
func TestKnownPublics(t *testing.T) {
	for _, c := range [][2]uint64{
		{0, 1}, {1, 3}, {2, 9}, {3, 27},
		{38, 1350851717672992089}, {39, 1746712143805282316}, {61, 921258839456700278},
		{prime - 2, 1537228672809129301}, {prime - 1, 1}, {prime, 3}, {prime + 1, 9},
		{1 << 62, 81}, {1 << 63, 6561}, {top - 1, 4782969}, {top, 14348907},
		{0x0123456789abcdef, 259203900885365206},
	} {
		if got := Public(c[0]); got != c[1] {
			t.Errorf("Public(%d): %d, not %d", c[0], got, c[1])
		}
	}
}

// PA1: what is public of a key is 3, so many times, and may be public.
func TestPublic(t *testing.T) {
	keys := edges()
	for bit := range 64 {
		keys = append(keys, 1<<bit-1, 1<<bit, 1<<bit+1, keyOf(bit))
	}
	for _, key := range keys {
		got := Public(key)
		if got != power(3, key) {
			t.Errorf("Public(%d): %d, not %d", key, got, power(3, key))
		}
		if err := Check([]api.Peer{{ID: 0, Public: got}}); err != nil {
			t.Errorf("Public(%d): %d, which may not be public", key, got)
		}
	}
}

// PA1: seeds of known keys, and of numbers that are known to be public, reckoned apart
// from the project; numbers that may not be public, too.
func TestKnownSeeds(t *testing.T) {
	for _, c := range [][3]uint64{
		{0, 0, 1}, {0, 1, 1}, {0, 5, 1}, {0, prime, 1}, {0, top, 1},
		{1, 0, 0}, {1, 5, 5}, {2, 5, 25}, {1, prime, 0}, {3, prime, 0}, {3, prime + 2, 8}, {2, top, 49},
		{5, prime - 1, prime - 1}, {6, prime - 1, 1},
		{prime - 1, 5, 1}, {prime, 5, 5}, {top, 5, 30517578125}, {top, 2, 32768}, {prime - 2, 2, 1 << 60},
		{0x0123456789abcdef, 0xfedcba9876543210, 572670122438185682},
		{top, top, 4747561509943}, {top, prime - 2, prime - 32768},
	} {
		if got := Shared(c[0], c[1]); got != c[2] {
			t.Errorf("Shared(%d, %d): %d, not %d", c[0], c[1], got, c[2])
		}
	}
}

// PA1: a seed is what is public, so many times, whatever both numbers are.
func TestShared(t *testing.T) {
	for _, key := range edges() {
		for _, public := range append(append(publics(), strangers()...), edges()...) {
			if got, want := Shared(key, public), power(public, key); got != want {
				t.Errorf("Shared(%d, %d): %d, not %d", key, public, got, want)
			}
		}
	}
}

// PA1: peers are none, one, or up to 64, whose IDs ascend from 0 to 63, with gaps or none.
func TestPeersThatMayBe(t *testing.T) {
	wantPeers(t, nil)
	wantPeers(t, []api.Peer{})
	for _, ids := range groups() {
		wantPeers(t, peersOf(ids...))
	}
	for id := range 64 {
		wantPeers(t, peersOf(id))
	}
	for _, public := range publics() {
		for _, at := range []int{0, 1, 32, 62, 63} {
			peers := peersOf(upTo(64)...)
			peers[at].Public = public
			wantPeers(t, peers)
			wantPeers(t, peers[at:at+1])
		}
	}
}

// PA1: no peer has an ID below 0 or above 63, alone, ahead or behind.
func TestPeersOfNoID(t *testing.T) {
	for _, id := range []int{math.MinInt, math.MinInt32, -64, -2, -1, 64, 65, 127, 255, 256, 1 << 32, 1<<32 + 5, math.MaxInt} {
		wantNoPeers(t, []api.Peer{{ID: id, Public: 3}})
		wantNoPeers(t, []api.Peer{{ID: id, Public: 3}, {ID: 5, Public: 3}})
		wantNoPeers(t, []api.Peer{{ID: 5, Public: 3}, {ID: id, Public: 3}})
		wantNoPeers(t, []api.Peer{{ID: 0, Public: 3}, {ID: id, Public: 3}, {ID: 63, Public: 3}})
	}
}

// PA1: there are not 65 peers, or more, however that comes.
func TestPeersThatAreTooMany(t *testing.T) {
	all := peersOf(upTo(64)...)
	for _, id := range []int{-1, 0, 1, 32, 62, 63, 64} {
		for _, at := range []int{0, 1, 32, 63, 64} {
			wantNoPeers(t, slices.Insert(slices.Clone(all), at, api.Peer{ID: id, Public: 3}))
		}
	}
	for _, n := range []int{65, 66, 128, 1000} {
		wantNoPeers(t, peersOf(upTo(n)...))
	}
	wantNoPeers(t, slices.Concat(all, all))
	wantNoPeers(t, make([]api.Peer, 65))
}

// PA1: IDs ascend, each once: of no two neighbours the other way round, nor the same.
func TestPeersOutOfOrder(t *testing.T) {
	for _, ids := range [][]int{{0, 0}, {63, 63}, {1, 0}, {63, 0}, {63, 62}, {0, 2, 1}, {1, 0, 2}, {2, 1, 0}, {0, 1, 0}, {0, 1, 1}, {0, 0, 1}, {5, 7, 6, 8}, {5, 6, 7, 5}} {
		wantNoPeers(t, peersOf(ids...))
	}
	for at := 1; at < 64; at++ {
		ids := upTo(64)
		ids[at-1], ids[at] = ids[at], ids[at-1]
		wantNoPeers(t, peersOf(ids...))
		wantNoPeers(t, peersOf(slices.Insert(upTo(40), at*39/63, at*39/63)...))
	}
	back := peersOf(upTo(64)...)
	slices.Reverse(back)
	wantNoPeers(t, back)
}

// PA1: what is public is below Prime and not 0, of each of the peers.
func TestPublicsThatMayNotBe(t *testing.T) {
	for _, public := range strangers() {
		for _, id := range []int{0, 1, 63} {
			wantNoPeers(t, []api.Peer{{ID: id, Public: public}})
		}
	}
	for _, public := range []uint64{0, prime, top} {
		for at := range 64 {
			peers := peersOf(upTo(64)...)
			peers[at].Public = public
			wantNoPeers(t, peers)
		}
	}
}

// PA2: rows of known peers and keys, reckoned apart from the project.
func TestKnownRows(t *testing.T) {
	three := []api.Peer{{ID: 0, Public: 2187}, {ID: 5, Public: 1537228672809129301}, {ID: 63, Public: 259203900885365206}}
	two := []api.Peer{{ID: 3, Public: 59049}, {ID: 4, Public: 14348907}}
	four := []api.Peer{{ID: 0, Public: 1}, {ID: 1, Public: prime - 1}, {ID: 62, Public: 2}, {ID: 63, Public: 3}}
	for _, c := range []struct {
		me     int
		key    uint64
		peers  []api.Peer
		digits string
	}{
		{0, 7, three, "8101fb4e2de4b8064a87d3566aa582e7abdcd2f283ee2abe2d08668030035e7b" +
			"1c1aa2e4ae5978650e3d306419418cfcf84b336d1a0eff03975ce601bbe88a49" +
			"29aa7b0c010cab4119102fab1326da57e10467ef374fbf216cd531fdde7b8b49" +
			"cc55c5d89f6ae2af93ad11b9e54066fc7c22217453f55e7e9d03f6cf948a0441"},
		{5, prime - 2, three, "57ceb4ad1bd79112917c41e529fdc9097ee41083c509f444ed6be0eea4476a8d" +
			"7b7ab9b3ba322898ef1e93bb4d5419b89d210b1d5e651ea4d23ca8ec3fca382a" +
			"99404d691a2fdb5ace21cdfcb623fb4d3624f125d3b4e359aade5f408512d8c7" +
			"25b4a82c6685aae2f5b987e5a293b0958d254e0318c36d7d66477ea09a4762d8"},
		{63, 0x0123456789abcdef, three, "272f5005b643b6e823fbeac56b5cb410d53f1c8bb707e0fee58bb8922bb536f8" +
			"686aa36997745f0302a43be1996a594c6a93c176878be25996667113044d3d8d" +
			"3d15378be4c3796518ce025936b52a5ce8d6a6ecf4fb5d86e84c6ec39c719bf0" +
			"0df591fcfa0f726f76996662782be86ff6b8908993473405fcb48a91d12e98e7"},
		{3, 10, two, "60a635ae7ffc9d04e495c70decc1a56232a5a3e0ec3836b5a9b55b51a41addac" +
			"6c9b36d5229f353dcfaf547ca134db3c211a12775c4026eaea66b34bed10af79" +
			"df1ead37cd827fb04d78c72b37d978d052916dde68d01fd0408546f6c794125f" +
			"54023d839c5d52a5154d59c4d04abefbb8803eb55aa6a52b1f900ac44885e07d"},
		{4, top, two, "9f59ca52800362fc1b6a38f3133e5a9ecd5a5c2013c7c94b564aa4af5be52254" +
			"9364c92bdd60cac33050ab845ecb24c4dee5ed89a3bfd91615994cb512ef5087" +
			"20e152c9327d8050b28738d5c8268730ad6e9222972fe030bf7ab90a386beda1" +
			"abfdc27d63a2ad5beab2a63c2fb54105477fc14ba5595ad5e06ff53cb77a1f83"},
		{0, 5, four, "33cb2f921f93d7977e2cdff5854034cd273d95c44eceaf4dbf409b3cb2bcd2ca798d4624"},
		{1, 5, four, "c03468e3b3982402fc1c21c93c00a3e06f215d6116eabbf53f99c08a14b2456a6c396d63"},
		{62, 5, four, "e01b90d0992e22f9bdfa68a3514de9549c752f89cc5c31c795f0750e7f30bd43006105f3"},
		{63, 5, four, "4816bc3b06e88e62bdd347171d81784059dbe6e2aa4084ffd365d051021f1bd32eaed2a3"},
	} {
		all := rowOf(c.digits)
		for n := range len(all) + 1 {
			wantRow(t, c.me, c.key, c.peers, n, all[:n])
		}
	}
}

// PA2: to the row of the one with the smaller ID a pair adds Words of its seed and the
// label pair, and to that of the other one each of them taken from 0.
func TestWhatPairAdds(t *testing.T) {
	for _, ids := range [][2]int{{0, 1}, {0, 63}, {62, 63}, {31, 32}, {9, 10}, {2, 10}} {
		for _, key := range edges() {
			for _, public := range publics() {
				peers := []api.Peer{{ID: ids[0], Public: public}, {ID: ids[1], Public: public}}
				add := words(t, power(public, key), 32)
				wantRow(t, ids[0], key, peers, 32, add)
				for i, w := range add {
					add[i] = 0 - w
				}
				wantRow(t, ids[1], key, peers, 32, add)
			}
		}
	}
}

// PA2: a row is the sum of what me adds with each other one, of few and of many peers,
// wherever me stands among them.
func TestRow(t *testing.T) {
	for _, ids := range groups() {
		peers := peersOf(ids...)
		for _, me := range ids {
			wantRow(t, me, keyOf(me), peers, 9, plainRow(t, me, keyOf(me), peers, 9))
		}
	}
}

// PA2: of each key, and with each number that may be public, those of two peers the same too.
func TestRowOfEdges(t *testing.T) {
	for _, one := range publics() {
		for _, other := range publics() {
			peers := []api.Peer{{ID: 0, Public: one}, {ID: 17, Public: 3}, {ID: 40, Public: other}, {ID: 63, Public: one}}
			for _, key := range edges() {
				for _, p := range peers {
					wantRow(t, p.ID, key, peers, 3, plainRow(t, p.ID, key, peers, 3))
				}
			}
		}
	}
}

// PA2: a row has dim numbers, from 0 to 32, and fewer are the first ones of more.
func TestHowManyNumbers(t *testing.T) {
	peers := peersOf(0, 20, 40, 63)
	for _, p := range peers {
		all := plainRow(t, p.ID, keyOf(p.ID), peers, 32)
		for dim := range 33 {
			wantRow(t, p.ID, keyOf(p.ID), peers, dim, all[:dim])
		}
	}
}

// PA2: ErrArg, unless dim is from 0 to 32, also where nothing is to be added.
func TestDimsThatMayNotBe(t *testing.T) {
	for _, dim := range []int{math.MinInt, math.MinInt32, -32, -2, -1, 33, 34, 64, 256, 1 << 32, 1<<32 + 1, math.MaxInt} {
		for _, ids := range groups() {
			wantNoRow(t, ids[0], 5, peersOf(ids...), dim)
		}
		wantNoRow(t, 0, 5, nil, dim)
	}
}

// PA2: ErrArg, unless me is the ID of one of the peers.
func TestMeIsNoPeer(t *testing.T) {
	for _, dim := range []int{-1, 0, 1, 32, 33} {
		for _, me := range []int{math.MinInt, -64, -1, 1, 4, 6, 20, 62, 64, 65, 256, 261, 1 << 32, 1<<32 + 5, math.MaxInt} {
			wantNoRow(t, me, 5, peersOf(0, 5, 63), dim)
		}
		for _, me := range []int{math.MinInt, -1, 0, 1, 63, 64, math.MaxInt} {
			wantNoRow(t, me, 5, nil, dim)
			wantNoRow(t, me, 5, []api.Peer{}, dim)
		}
		for _, me := range []int{-1, 64} {
			wantNoRow(t, me, 5, peersOf(upTo(64)...), dim)
		}
		for me := range 64 {
			wantNoRow(t, me, 5, peersOf(slices.DeleteFunc(upTo(64), func(id int) bool { return id == me })...), dim)
		}
	}
}

// The document's example: one peer alone: noughts, as many as are asked for, whatever its
// key is, and what is public of it.
func TestOnePeerAlone(t *testing.T) {
	for _, id := range []int{0, 1, 32, 62, 63} {
		for _, key := range edges() {
			for _, public := range publics() {
				for dim := range 33 {
					wantRow(t, id, key, []api.Peer{{ID: id, Public: public}}, dim, make([]uint32, dim))
				}
			}
		}
	}
}

// PA2: what is public of me makes no difference to its row, for it adds by its key.
func TestOwnPublicIsNotUsed(t *testing.T) {
	for at, me := range []int{0, 20, 63} {
		peers := peersOf(0, 20, 63)
		want := plainRow(t, me, 99, peers, 32)
		for _, public := range publics() {
			peers[at].Public = public
			wantRow(t, me, 99, peers, 32, want)
		}
	}
}

// PA2: how many peers stand between two IDs makes no difference, nor how far apart they
// are: only which of them is smaller does.
func TestOnlySmallerCounts(t *testing.T) {
	want := words(t, power(3, 5), 32)
	for id := range 63 {
		for other := id + 1; other < 64; other++ {
			wantRow(t, id, 5, []api.Peer{{ID: id, Public: 2}, {ID: other, Public: 3}}, 32, want)
		}
	}
}

// PA3: the two of a pair have one seed, which is of the field and not 0.
func TestOneSeed(t *testing.T) {
	keys := edges()
	for id := range 40 {
		keys = append(keys, keyOf(id))
	}
	for _, a := range keys {
		for _, b := range keys {
			one, other := Shared(a, Public(b)), Shared(b, Public(a))
			if one != other || one == 0 || one >= prime {
				t.Errorf("of the keys %d and %d: the seeds %d and %d", a, b, one, other)
			}
		}
	}
}

// PA3: unlike pairs have unlike seeds, where keys are all over the 64 bits.
func TestSeedsOfUnlikePairs(t *testing.T) {
	seen := map[uint64]string{}
	for a := range 64 {
		for b := range a {
			if a%4 == 0 || b%4 == 0 {
				continue
			}
			name := strconv.Itoa(b) + " and " + strconv.Itoa(a)
			seed := Shared(keyOf(a), Public(keyOf(b)))
			if other, ok := seen[seed]; ok {
				t.Errorf("%s have the seed of %s", name, other)
			}
			seen[seed] = name
		}
	}
}

// together is the sum of the rows of all, each by its key, with what is public of it.
func together(t *testing.T, ids []int, keys []uint64, dim int) []uint32 {
	t.Helper()
	peers := []api.Peer{}
	for i, id := range ids {
		peers = append(peers, api.Peer{ID: id, Public: Public(keys[i])})
	}
	sum := make([]uint32, dim)
	for i, id := range ids {
		row, err := Row(id, keys[i], peers, dim)
		if err != nil || len(row) != dim {
			t.Fatalf("Row(%d, %d, %v, %d): %x, %v", id, keys[i], peers, dim, row, err)
		}
		for at, v := range row {
			sum[at] += v
		}
	}
	return sum
}

// PA3: the rows of all peers together are noughts, of few and of many of them.
func TestNoughtsTogether(t *testing.T) {
	for _, ids := range groups() {
		keys := []uint64{}
		for _, id := range ids {
			keys = append(keys, keyOf(id))
		}
		for _, dim := range dims() {
			if sum := together(t, ids, keys, dim); !slices.Equal(sum, make([]uint32, dim)) {
				t.Errorf("the rows of %v: %x", ids, sum)
			}
		}
	}
}

// PA3: the rows of all peers together are noughts, whatever their keys are, those of all
// of them the same too.
func TestNoughtsOfAnyKeys(t *testing.T) {
	none := make([]uint32, 32)
	for _, a := range edges() {
		for _, b := range edges() {
			for _, c := range []uint64{0, 1, a, b, prime, top} {
				if sum := together(t, []int{0, 30, 63}, []uint64{a, b, c}, 32); !slices.Equal(sum, none) {
					t.Errorf("the rows of the keys %d, %d and %d: %x", a, b, c, sum)
				}
			}
		}
	}
	for _, key := range edges() {
		if sum := together(t, upTo(12), slices.Repeat([]uint64{key}, 12), 32); !slices.Equal(sum, none) {
			t.Errorf("the rows of twelve times the key %d: %x", key, sum)
		}
	}
}

// PA3: the rows of some of the peers are not noughts: they hide what others have.
func TestRowsOfSomeAreNoNoughts(t *testing.T) {
	peers := peersOf(upTo(12)...)
	sum := make([]uint32, 32)
	for _, p := range peers[:11] {
		row, err := Row(p.ID, keyOf(p.ID), peers, 32)
		if err != nil || slices.Equal(row, make([]uint32, 32)) {
			t.Errorf("Row of %d: %x, %v", p.ID, row, err)
		}
		for i, v := range row {
			sum[i] += v
		}
		if slices.Equal(sum, make([]uint32, 32)) {
			t.Errorf("the rows of the first of the peers, up to %d, are noughts", p.ID)
		}
	}
}

// What is handed in is not changed, nor is the spare room behind its end.
func TestArgumentsStay(t *testing.T) {
	room := append(peersOf(upTo(64)...), api.Peer{ID: 64, Public: 0}, api.Peer{ID: -1, Public: prime}, api.Peer{ID: 3, Public: top})
	want := slices.Clone(room)
	for n := range len(room) {
		for _, from := range []int{0, n / 2} {
			for _, me := range []int{-1, from, n - 1, 63, 64} {
				for _, dim := range []int{-1, 0, 5, 33} {
					Row(me, 5, room[from:n], dim)
				}
			}
			Check(room[from:n])
		}
		if !slices.Equal(room, want) {
			t.Fatalf("of %d peers: what is handed in, or its spare room, has changed", n)
		}
	}
}

// What stands in the spare room behind an end is no peer.
func TestSpareRoomIsNotRead(t *testing.T) {
	peers := peersOf(2, 5, 63)
	for _, behind := range []api.Peer{{ID: 63, Public: 3}, {ID: -1, Public: 3}, {ID: 63, Public: 0}, {ID: 6, Public: 5}} {
		room := append(slices.Clone(peers[:2]), behind)
		wantRow(t, 2, 7, room[:2], 32, plainRow(t, 2, 7, peers[:2], 32))
		wantNoRow(t, behind.ID, 7, room[:2], 32)
		wantPeers(t, room[:2])
		wantPeers(t, room[:0])
	}
}

// An answer is new memory, spare room too, and what is handed in is not kept.
func TestAnswersAreNew(t *testing.T) {
	for _, ids := range [][]int{{7}, {7, 8}, {0, 7, 20, 63}} {
		for _, dim := range dims() {
			peers := peersOf(ids...)
			want := plainRow(t, 7, 5, peers, dim)
			one, errOne := Row(7, 5, peers, dim)
			other, errOther := Row(7, 5, peers, dim)
			if errOne != nil || errOther != nil {
				t.Fatalf("Row of %v: %v, %v", ids, errOne, errOther)
			}
			one = one[:cap(one)]
			for i := range one {
				one[i] = 0xdeadbeef
			}
			clear(peers)
			if !slices.Equal(other, want) || slices.Contains(other[:cap(other)], 0xdeadbeef) {
				t.Errorf("Row of %v, %d numbers: two answers share memory, or one hangs on what was handed in", ids, dim)
			}
			wantNoRow(t, 7, 5, peers, dim)
			wantRow(t, 7, 5, peersOf(ids...), dim, want)
		}
	}
}

// No call hangs on the calls ahead of it.
func TestAsksStandAlone(t *testing.T) {
	peers := peersOf(0, 5, 63)
	want := plainRow(t, 5, 99, peers, 32)
	for _, key := range edges() {
		Public(key)
		Shared(key, key)
		Check([]api.Peer{{ID: 5, Public: key}})
		for _, me := range []int{-1, 0, 5, 63, 64} {
			Row(me, key, peersOf(0, 5, 6), 32)
			Row(me, key, peersOf(5, 0), 32)
			Row(me, key, peers, 33)
		}
		wantRow(t, 5, 99, peers, 32, want)
	}
}

// Many ask at once, as clients of the package may.
func TestAsksAtOnce(t *testing.T) {
	peers := peersOf(upTo(12)...)
	want := plainRow(t, 5, 99, peers, 32)
	done := make(chan []uint32)
	for range 8 {
		go func() {
			row, err := Row(5, 99, peers, 32)
			if err != nil || Check(peers) != nil || Shared(2, Public(1)) != 9 {
				row = nil
			}
			done <- row
		}()
	}
	for range 8 {
		if got := <-done; !slices.Equal(got, want) {
			t.Errorf("Row at once: %x, not %x", got, want)
		}
	}
}
