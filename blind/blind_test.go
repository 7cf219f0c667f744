package blind

import (
	"errors"
	"maps"
	"math"
	"math/bits"
	"slices"
	"strconv"
	"testing"

	"caucus/api"
	"caucus/pair"
	"caucus/prg"
)

const (
	prime = 1<<61 - 1
	top   = math.MaxUint64
)

// edges are seeds and keys at both ends, and at the end of the field.
func edges() []uint64 { return []uint64{0, 1, prime - 1, prime, prime + 1, 1 << 63, top - 1, top} }

// dims are how many numbers a row may have, at both ends, and where blocks end.
func dims() []int { return []int{0, 1, 2, 7, 8, 9, 31, 32} }

// notDims are how many numbers no row has.
func notDims() []int {
	return []int{math.MinInt, math.MinInt32, -32, -1, 33, 34, 64, 1 << 32, 1<<32 + 1, math.MaxInt}
}

// some is a number all over the 64 bits, another one for each place; of each fourth place
// it is an edge.
func some(at int) uint64 {
	if at%4 == 0 {
		return edges()[at/4%len(edges())]
	}
	v := uint64(at)*0x9e3779b97f4a7c15 + 1
	v ^= v >> 29
	return v * 0xbf58476d1ce4e5b9
}

func keyOf(id int) uint64  { return some(id + 1) }
func seedOf(id int) uint64 { return some(id + 1002) }

// xOf is what a client has, near both ends of what a number may be.
func xOf(id, dim int) []uint32 {
	row := make([]uint32, dim)
	for i := range row {
		row[i] = uint32(some(id*37 + i + 5000))
	}
	return row
}

// peersOf are peers of these IDs, of whom that is public which belongs to keyOf.
func peersOf(ids ...int) []api.Peer {
	list := []api.Peer{}
	for _, id := range ids {
		list = append(list, api.Peer{ID: id, Public: pair.Public(keyOf(id))})
	}
	return list
}

// upTo are the IDs 0 up to ahead of n.
func upTo(n int) []int {
	ids := []int{}
	for id := range n {
		ids = append(ids, id)
	}
	return ids
}

// groups are lists of IDs that peers may have.
func groups() [][]int {
	return [][]int{{0}, {63}, {0, 1}, {0, 63}, {62, 63}, {7, 8, 9}, {0, 31, 32, 63}, {1, 2, 4, 8, 16, 32}, upTo(5)}
}

// seedsOf and keysOf are those of these clients.
func seedsOf(ids ...int) map[int]uint64 {
	m := map[int]uint64{}
	for _, id := range ids {
		m[id] = seedOf(id)
	}
	return m
}

func keysOf(ids ...int) map[int]uint64 {
	m := map[int]uint64{}
	for _, id := range ids {
		m[id] = keyOf(id)
	}
	return m
}

// parts are all lists of some of the IDs, none and all too, as they ascend.
func parts(ids []int) [][]int {
	list := [][]int{}
	for mask := range 1 << len(ids) {
		part := []int{}
		for i, id := range ids {
			if mask>>i&1 == 1 {
				part = append(part, id)
			}
		}
		list = append(list, part)
	}
	return list
}

// without are those IDs that are not among others.
func without(ids, others []int) []int {
	rest := []int{}
	for _, id := range ids {
		if !slices.Contains(others, id) {
			rest = append(rest, id)
		}
	}
	return rest
}

// words are Words that must be.
func words(t *testing.T, seed uint64, label string, dim int) []uint32 {
	t.Helper()
	list, err := prg.Words(seed, label, dim)
	if err != nil {
		t.Fatalf("Words(%d, %q, %d): %v", seed, label, dim, err)
	}
	return list
}

// adds is what one of a pair adds to its row, number by number, as chapter 9 says it.
func adds(t *testing.T, me int, key uint64, other api.Peer, dim int) []uint32 {
	t.Helper()
	row := words(t, pair.Shared(key, other.Public), "pair", dim)
	if me > other.ID {
		for i, w := range row {
			row[i] = uint32(1<<32 - uint64(w))
		}
	}
	return row
}

// plainRow is a hidden row told number by number, as the chapter says it.
func plainRow(t *testing.T, x []uint32, me int, seed, key uint64, peers []api.Peer) []uint32 {
	t.Helper()
	row := slices.Clone(x)
	for i, w := range words(t, seed, "own", len(x)) {
		row[i] += w
	}
	for _, p := range peers {
		if p.ID == me {
			continue
		}
		for i, w := range adds(t, me, key, p, len(x)) {
			row[i] += w
		}
	}
	return row
}

// plainOpen is what hides a sum told number by number, as the chapter says it.
func plainOpen(t *testing.T, came []int, peers []api.Peer, seeds, keys map[int]uint64, dim int) []uint32 {
	t.Helper()
	row := make([]uint32, dim)
	for _, id := range came {
		for i, w := range words(t, seeds[id], "own", dim) {
			row[i] += w
		}
	}
	for _, gone := range peers {
		for _, p := range peers {
			if slices.Contains(came, gone.ID) || !slices.Contains(came, p.ID) {
				continue
			}
			for i, w := range adds(t, gone.ID, keys[gone.ID], p, dim) {
				row[i] -= w
			}
		}
	}
	return row
}

// rowOf are the numbers of hexadecimal digits, eight each.
func rowOf(digits string) []uint32 {
	row := []uint32{}
	for ; digits != ""; digits = digits[8:] {
		v, err := strconv.ParseUint(digits[:8], 16, 32)
		if err != nil {
			panic(err)
		}
		row = append(row, uint32(v))
	}
	return row
}

// isOnly tells whether an answer is this error, and nothing beside it.
func isOnly(want api.Errno, got []uint32, err error) bool {
	var no api.Errno
	return errors.As(err, &no) && no == want && len(got) == 0
}

func wantOwn(t *testing.T, seed uint64, dim int, want []uint32) {
	t.Helper()
	got, err := Own(seed, dim)
	if err != nil || !slices.Equal(got, want) {
		t.Errorf("Own(%d, %d): %x, %v, not %x", seed, dim, got, err, want)
	}
}

func wantRow(t *testing.T, x []uint32, me int, seed, key uint64, peers []api.Peer, want []uint32) {
	t.Helper()
	got, err := Row(x, me, seed, key, peers)
	if err != nil || !slices.Equal(got, want) {
		t.Errorf("Row(%x, %d, %d, %d, %v): %x, %v, not %x", x, me, seed, key, peers, got, err, want)
	}
}

func wantNoRow(t *testing.T, x []uint32, me int, peers []api.Peer) {
	t.Helper()
	for _, seed := range []uint64{0, 5, top} {
		if got, err := Row(x, me, seed, 5, peers); !isOnly(api.ErrArg, got, err) {
			t.Errorf("Row(%x, %d, %d, 5, %v): %x, %v, not ErrArg alone", x, me, seed, peers, got, err)
		}
	}
}

func wantOpen(t *testing.T, came []int, peers []api.Peer, seeds, keys map[int]uint64, dim int, want []uint32) {
	t.Helper()
	got, err := Open(came, peers, seeds, keys, dim)
	if err != nil || !slices.Equal(got, want) {
		t.Errorf("Open(%v, %v, %v, %v, %d): %x, %v, not %x", came, peers, seeds, keys, dim, got, err, want)
	}
}

func wantNone(t *testing.T, came []int, peers []api.Peer, seeds, keys map[int]uint64, dim int) {
	t.Helper()
	if got, err := Open(came, peers, seeds, keys, dim); !isOnly(api.ErrNone, got, err) {
		t.Errorf("Open(%v, %v, %v, %v, %d): %x, %v, not ErrNone alone", came, peers, seeds, keys, dim, got, err)
	}
}

// wantArg holds that ErrArg is answered, whether all seeds and keys are there, or none.
func wantArg(t *testing.T, came []int, peers []api.Peer, dim int) {
	t.Helper()
	all := slices.Concat(came, []int{-1, 64, 65}, upTo(64))
	for _, seeds := range []map[int]uint64{nil, seedsOf(all...), seedsOf(3)} {
		for _, keys := range []map[int]uint64{nil, keysOf(all...), keysOf(3)} {
			if got, err := Open(came, peers, seeds, keys, dim); !isOnly(api.ErrArg, got, err) {
				t.Errorf("Open(%v, %v, %v, %v, %d): %x, %v, not ErrArg alone", came, peers, seeds, keys, dim, got, err)
			}
		}
	}
}

// notPeers are peers that may not be.
func notPeers() [][]api.Peer {
	return [][]api.Peer{
		{{ID: -1, Public: 3}}, {{ID: 64, Public: 3}}, {{ID: math.MinInt, Public: 3}}, {{ID: 1<<32 + 5, Public: 3}},
		{{ID: 5, Public: 3}, {ID: 64, Public: 3}}, {{ID: -1, Public: 3}, {ID: 5, Public: 3}},
		{{ID: 5, Public: 3}, {ID: 5, Public: 3}}, {{ID: 5, Public: 3}, {ID: 5, Public: 9}},
		{{ID: 6, Public: 3}, {ID: 5, Public: 9}}, {{ID: 5, Public: 3}, {ID: 7, Public: 3}, {ID: 6, Public: 3}},
		{{ID: 5, Public: 0}}, {{ID: 5, Public: prime}}, {{ID: 5, Public: top}}, {{ID: 5}, {ID: 7, Public: 3}},
		{{ID: 5, Public: 3}, {ID: 7, Public: prime}}, {{ID: 5, Public: 3}, {ID: 7}},
		peersOf(upTo(65)...), append(peersOf(upTo(64)...), api.Peer{ID: 63, Public: 3}), make([]api.Peer, 65), make([]api.Peer, 1),
	}
}

// BL1: Own of known seeds, reckoned apart from the project, and of fewer numbers.
func TestKnownOwn(t *testing.T) {
	for _, c := range []struct {
		seed   uint64
		digits string
	}{
		{0, "ebd9f2ef390068934bcdc7658a80321cf9f14de99dca81b571b1a914e7f686e6aed37eed111023e6d8ab5c692486cea8" +
			"254dcd439c09250dddfced510a5151e8f33a0fce1020693aa19e96db9b192c4918aa2488f36e6e1bfae0fb984708efdf" +
			"2c719748dc7e7c38f6681f4ab9277dfa397c7cd748d1e547caa5eb5fdb92f4ba"},
		{1, "a0df56b43e780c0a3ea3ae1935d6d061e998b064b13f1ee896ec51bc1e3e3e6ee33d3d5305b0fa958cce4986d831910b" +
			"65908d6b8e6e2b9808166c8ebd08862df265842baa9840a4f44fdeb4d57c08fedc78a1097434c8cebcf1be6a83b69ec7" +
			"b85da5be477d877dba2da8ffbcd4b7b667ba8d4628d456a8c91c632a86a4be6f"},
		{prime, "30a8c58980148f7ab7e7ec1711bbf952de6f5a8e5635263295ea2931a8be7f43289550c734aff6913d843001601195c5" +
			"f4ab6de99a7864f8ae99bb600385b399238d85855d8439c4d166e97ab8b672d312e17c8a0b465ac6b47a2465e92fe324" +
			"143d7289cf4d0f110c321873516bc7b80b383dfec62abea24d60c6beec0cd399"},
		{top, "fe7c1d312b73f3a2920894dad462cce34de253e1ce661b7110c5a15ac2ec59f39657a378404f88ab9e6f55e7bf4cefbb" +
			"9ea96ba534b1def93bffafb13e69d00cfa9f0c708b91349b9b88a7cc80e37bd811678556c139e94e1a28ab67c075d32a" +
			"cdec2f9f4452ffcce8f641ed30c3e745bbc8d184d48c5e880a50dd6fd64d0603"},
		{0x0123456789abcdef, "a6727cb4a01f499a8d2eb0a736918773f52179b2f56dd558590a5e693ca05abc9412cb48c73506eff669f34bee859005" +
			"40bfe54c3e6aeeba9dc22f74eb6bc9eaf97edf116a851b1adc65479c3336532813528bb3fe83b754912688b1e481cc39" +
			"59fbc542f9216b9117d2fabf95db159571312b55bedc4ef2436493b166890f46"},
	} {
		all := rowOf(c.digits)
		for n := range len(all) + 1 {
			wantOwn(t, c.seed, n, all[:n])
		}
	}
}

// BL1: Own are Words of the seed and the label own, of each seed.
func TestOwn(t *testing.T) {
	seeds := edges()
	for at := range 64 {
		seeds = append(seeds, 1<<at, some(at))
	}
	for _, seed := range seeds {
		for _, dim := range dims() {
			wantOwn(t, seed, dim, words(t, seed, "own", dim))
		}
	}
}

// BL1: ErrArg, unless dim is from 0 to 32.
func TestOwnOfDimsThatMayNotBe(t *testing.T) {
	for _, dim := range notDims() {
		for _, seed := range edges() {
			if got, err := Own(seed, dim); !isOnly(api.ErrArg, got, err) {
				t.Errorf("Own(%d, %d): %x, %v, not ErrArg alone", seed, dim, got, err)
			}
		}
	}
}

// known are peers, their keys and seeds, and what they have, of the values that are
// reckoned apart from the project.
func known() (peers []api.Peer, seeds, keys map[int]uint64, x []uint32) {
	peers = []api.Peer{{ID: 0, Public: 2187}, {ID: 5, Public: 1537228672809129301}, {ID: 63, Public: 259203900885365206}}
	seeds = map[int]uint64{0: 0, 5: top, 63: prime}
	keys = map[int]uint64{0: 7, 5: prime - 2, 63: 0x0123456789abcdef}
	for i := range uint32(32) {
		x = append(x, i*0x9e3779b9+0xfffffff0)
	}
	return
}

// BL1: rows of known peers, seeds and keys, reckoned apart from the project, and of fewer
// numbers.
func TestKnownRows(t *testing.T) {
	peers, seeds, keys, x := known()
	for _, c := range []struct {
		me     int
		digits string
	}{
		{0, "6cdbee2d051c9a42d2c48e1dcfcc221e1eac07af38ce0d005406e9da6b7e3960bca9ef894f5ce3bc15134df70a2a9687" +
			"8832b54cbee952651c627b600b79fdf8005c265a92dc29b4da9555786c5e0f4b56040edb254b2959007aa36b5c806ab7" +
			"cdfac668ef5441e89bb78dbd4e41bb6903afee7789100daaf22a25cc98d4b652"},
		{5, "564ad1cee582fe5d5ff3ca21d907030745a44b38aa857042b37e5c8ebab8187f038e2ae38a74f8b4bbb8aaccd9034456" +
			"a6642b5e9be82bf2b54500abc37429fd7756f5592770252e899104baf5257fd0a3e1f8df8f7bc8c45dcb807d7c849b80" +
			"c8d441131e438daff052268c83316e4d96ff6fb3d99895eafb189fad994c2632"},
		{63, "57d8157ed48fc00b1852ca3e57bf1a7d2c8c5ded245267bd30c2bc0927f80a3a82bbc1e85c179d056e532d0cc5de29f4" +
			"c9d8e3fb2ad575a6ec08d4814d1312ed441a5890c3f6c8620a1b7ac5ad89a5da580da5dafaceb469358b08febc9d6ea3" +
			"f7666dcd3cc76481946ddb8f7971869a50021eb345babc8cd49594ede5f329d7"},
	} {
		all := rowOf(c.digits)
		for n := range len(all) + 1 {
			wantRow(t, x[:n], c.me, seeds[c.me], keys[c.me], peers, all[:n])
		}
	}
}

// BL1: a row is the sum of x, Own and the pairs', of each of few and of many peers.
func TestRow(t *testing.T) {
	for _, ids := range append(groups(), upTo(12), upTo(64)) {
		peers := peersOf(ids...)
		for _, me := range ids {
			x := xOf(me, 9)
			wantRow(t, x, me, seedOf(me), keyOf(me), peers, plainRow(t, x, me, seedOf(me), keyOf(me), peers))
		}
	}
}

// BL1: of each seed and each key, the seed the same as the key too, and of rows of 0 up
// to 32 numbers.
func TestRowOfEdges(t *testing.T) {
	peers := peersOf(2, 30, 63)
	for _, seed := range edges() {
		for _, key := range edges() {
			for _, p := range peers {
				x := xOf(p.ID, 32)
				want := plainRow(t, x, p.ID, seed, key, peers)
				for _, dim := range dims() {
					wantRow(t, x[:dim], p.ID, seed, key, peers, want[:dim])
				}
			}
		}
	}
}

// BL1: one peer alone adds no pair's.
func TestRowOfOnePeer(t *testing.T) {
	for _, id := range []int{0, 1, 62, 63} {
		for _, seed := range edges() {
			row := words(t, seed, "own", 32)
			wantRow(t, make([]uint32, 32), id, seed, 5, peersOf(id), row)
			for i := range row {
				row[i] += math.MaxUint32
			}
			wantRow(t, slices.Repeat([]uint32{math.MaxUint32}, 32), id, seed, 5, peersOf(id), row)
		}
	}
}

// BL1: ErrArg, if x has more than 32 numbers.
func TestRowsThatAreTooLong(t *testing.T) {
	for _, n := range []int{33, 34, 40, 64, 100000} {
		for _, ids := range groups() {
			wantNoRow(t, make([]uint32, n), ids[0], peersOf(ids...))
		}
		wantNoRow(t, make([]uint32, n), 0, nil)
		wantNoRow(t, make([]uint32, n), -1, peersOf(1, 2))
	}
}

// BL1: ErrArg, if peers may not be, or me is the ID of none, of rows of no number too.
func TestRowsThatNobodyHas(t *testing.T) {
	for _, n := range []int{0, 1, 32, 33} {
		x := make([]uint32, n)
		for _, peers := range notPeers() {
			for _, p := range peers {
				wantNoRow(t, x, p.ID, peers)
			}
		}
		for _, me := range []int{math.MinInt, -1, 0, 1, 4, 6, 62, 64, 65, 1<<32 + 5, math.MaxInt} {
			wantNoRow(t, x, me, peersOf(5, 63))
			wantNoRow(t, x, me, nil)
			wantNoRow(t, x, me, []api.Peer{})
		}
		for _, me := range []int{-1, 64} {
			wantNoRow(t, x, me, peersOf(upTo(64)...))
		}
	}
	wantNoRow(t, nil, 7, peersOf(5, 63))
}

// BL2: what hides the sums of known peers, whoever came, reckoned apart from the project.
func TestKnownOpen(t *testing.T) {
	peers, seeds, keys, _ := known()
	for _, c := range []struct {
		came   []int
		digits string
	}{
		{[]int{0}, "6cdbee3d66e5209996559abbf525b503a5ce20db21b8ac739eba0f9417f9e561caee21d1bf699c4be6e88ccd3dc85ba4" +
			"1d9900b0b61824107559d352c639dc311ce48ada112d147bbaaec686ae4006a0f9ae8c772abe2d3c67b62d9525847b28" +
			"f8c75d207be95ee78a1531039e67e4f6b59e9e4b9cc743c567a9e22e701cf8fb"},
		{[]int{5}, "564ad1de474b84b42384d6bffe6095ecccc6646493700fb5fe3182486733c48011d25d2bfa81b1438d8de9a20ca10973" +
			"3bca76c29316fd9d0e3c589d7e34083693df59d9a5c10ff569aa75c837077725478c767b94eecca7c5070aa74588abf1" +
			"f3a0d7cbaad8aaaedeafc9d2d35797da48ee1f87ed4fcc0570985c0f709468db"},
		{[]int{63}, "57d8158e36584662dbe3d6dc7d18ad62b3ae77190d3d07307b75e1c3d473b63b90fff430cc24559440286be2f97bef11" +
			"5f3f2f5f2204475145002c7307d2f12660a2bd104247b329ea34ebd3ef6b9d2ffbb823760041b84c9cc6932885a17f14" +
			"22330485c95c818082cb7ed5c997b02701f0ce875971f2a74a15514fbd3b6c80"},
		{[]int{0, 5}, "c326c01bae30a54db9da717af3864aef7294853fb528bc289ceb91dc7f2da9e1dcc07efcb9eb4d8e7476766f4a696517" +
			"59637772492f21ad83962bef446de467b0c3e4b3b6ee247024593c4ee5477dc5413b02f2bfacf9e32cbd383c6b0d2719" +
			"ec6834eb26c2099568c4fad571bf7cd0fe8cbdd28a170fcad8423e3de0b161d6"},
		{[]int{0, 63}, "c4b403cb9d3d66fb72397197723e6265597c97f42ef5b3a31a2ff157ec6d9b9c5bee16018b8df1df2710f8af37444ab5" +
			"7cd8300fd81c6b61ba59ffc5ce0ccd577d8747ea5374c7a4a4e3b2599daba3cff566afed2affe588047cc0bdab25fa3c" +
			"1afa61a54545e0670ce0afd867ff951db78f6cd2f639366cb1bf337d2d58657b"},
		{[]int{5, 63}, "ae22e76c7da3cb16ff68ad9b7b79434e8074db7da0ad16e579a7640b3ba77abba2d2515bc6a606d7cdb65584061cf884" +
			"9b09a621b51b44ee533c85108606f95cf48216e9e808c31e53df619b26731454434499f1953084f361cd9dcfcb2a2b05" +
			"15d3dc5074352c2e617b48a79cef48014adeee0e46c1beacbaadad5e2dcfd55b"},
		{[]int{0, 5, 63}, "1afed5a9e488ebaf95be4856709ef8512642fc58c265c3581861739f53a1601c6dc0732c860fa322b49ee25143e55428" +
			"b8a2a6d16b3368fec89658624c40d58d1166a1c3f935d7990e8e2821d4b31af43cf32668bfeeb22fc983cb64f0aea62d" +
			"0e9b3970f01e8b15eb9079aa3b572cf7007d8c59e389027122578f8c9decce56"},
	} {
		all := rowOf(c.digits)
		for n := range len(all) + 1 {
			wantOpen(t, c.came, peers, seeds, keys, n, all[:n])
		}
	}
}

// The document's example: nobody came, nobody is a peer: noughts, as many as are asked
// for, whatever seeds and keys are there.
func TestNobodyCameOfNobody(t *testing.T) {
	for dim := range 33 {
		none := make([]uint32, dim)
		wantOpen(t, nil, nil, nil, nil, dim, none)
		wantOpen(t, []int{}, []api.Peer{}, map[int]uint64{}, map[int]uint64{}, dim, none)
		wantOpen(t, nil, nil, seedsOf(0, 1, 64), keysOf(-1, 0, 63), dim, none)
	}
}

// BL2: where nobody of the peers came, nothing hides; their keys must be there.
func TestNobodyCame(t *testing.T) {
	for _, ids := range append(groups(), upTo(64)) {
		for _, dim := range dims() {
			wantOpen(t, nil, peersOf(ids...), nil, keysOf(ids...), dim, make([]uint32, dim))
			wantOpen(t, []int{}, peersOf(ids...), seedsOf(ids...), keysOf(ids...), dim, make([]uint32, dim))
			wantNone(t, nil, peersOf(ids...), seedsOf(ids...), nil, dim)
		}
	}
}

// BL2: where all came, their own seeds alone hide; no keys are asked for.
func TestAllCame(t *testing.T) {
	for _, ids := range append(groups(), upTo(63), upTo(64)) {
		sum := make([]uint32, 32)
		for _, id := range ids {
			for i, w := range words(t, seedOf(id), "own", 32) {
				sum[i] += w
			}
		}
		for _, dim := range dims() {
			wantOpen(t, ids, peersOf(ids...), seedsOf(ids...), nil, dim, sum[:dim])
			wantOpen(t, ids, peersOf(ids...), seedsOf(ids...), keysOf(ids...), dim, sum[:dim])
		}
	}
}

// BL2: whoever came, what hides is what the chapter says, number by number; of seeds those
// of who came are enough, and of keys those of the others.
func TestOpen(t *testing.T) {
	for _, ids := range groups() {
		peers := peersOf(ids...)
		for _, came := range parts(ids) {
			seeds, keys := seedsOf(came...), keysOf(without(ids, came)...)
			want := plainOpen(t, came, peers, seeds, keys, 32)
			for _, dim := range []int{0, 1, 9, 32} {
				wantOpen(t, came, peers, seeds, keys, dim, want[:dim])
			}
		}
	}
}

// BL2: of many peers too, of whom many came or few.
func TestOpenOfMany(t *testing.T) {
	for _, n := range []int{12, 63, 64} {
		peers := peersOf(upTo(n)...)
		for _, came := range [][]int{{0}, {n - 1}, {3, 5, 7}, upTo(n / 2), upTo(n - 1), upTo(n)[1:], without(upTo(n), []int{1, 4, 11})} {
			seeds, keys := seedsOf(came...), keysOf(without(upTo(n), came)...)
			wantOpen(t, came, peers, seeds, keys, 2, plainOpen(t, came, peers, seeds, keys, 2))
		}
	}
}

// BL2: of any seeds and keys, those of two the same too, and keys to which what is public
// does not belong.
func TestOpenOfEdges(t *testing.T) {
	peers := peersOf(3, 9, 40, 63)
	for _, a := range edges() {
		for _, b := range edges() {
			seeds := map[int]uint64{3: a, 9: b, 40: a, 63: b}
			keys := map[int]uint64{3: b, 9: a, 40: b, 63: b}
			for _, came := range parts([]int{3, 9, 40, 63}) {
				wantOpen(t, came, peers, seeds, keys, 2, plainOpen(t, came, peers, seeds, keys, 2))
			}
		}
	}
}

// BL2: more seeds and keys than are asked for make no difference: those of others, of
// nobody, and of no ID.
func TestMoreThanIsAskedFor(t *testing.T) {
	ids := []int{0, 5, 20, 63}
	peers := peersOf(ids...)
	for _, came := range parts(ids) {
		seeds, keys := seedsOf(came...), keysOf(without(ids, came)...)
		want := plainOpen(t, came, peers, seeds, keys, 9)
		for _, id := range slices.Concat([]int{math.MinInt, -1, 64, 1<<32 + 5, math.MaxInt}, upTo(64)) {
			if _, ok := seeds[id]; !ok {
				seeds[id] = 99
			}
			if _, ok := keys[id]; !ok {
				keys[id] = 98
			}
		}
		wantOpen(t, came, peers, seeds, keys, 9, want)
	}
}

// BL2: ErrNone, if one of those that came has no seed, whatever keys are there; one of 0
// is one.
func TestNoSeed(t *testing.T) {
	for _, ids := range append(groups(), upTo(64)) {
		peers := peersOf(ids...)
		for _, came := range [][]int{ids, ids[:1], ids[len(ids)-1:], ids[len(ids)/2:]} {
			for _, id := range came {
				for _, dim := range []int{0, 1, 32} {
					lacks := seedsOf(without(append(upTo(64), -1, 64), []int{id})...)
					wantNone(t, came, peers, lacks, keysOf(ids...), dim)
					wantNone(t, came, peers, lacks, nil, dim)
					wantNone(t, came, peers, nil, keysOf(ids...), dim)
				}
			}
		}
	}
	wantOpen(t, []int{5}, peersOf(5), map[int]uint64{5: 0}, nil, 3, words(t, 0, "own", 3))
}

// BL2: ErrNone, if one of the other peers has no key, whatever seeds are there; one of 0
// is one.
func TestNoKey(t *testing.T) {
	for _, ids := range append(groups(), upTo(64)) {
		peers := peersOf(ids...)
		for _, came := range [][]int{nil, ids[1:], ids[:len(ids)-1], ids[:len(ids)/2]} {
			for _, id := range without(ids, came) {
				for _, dim := range []int{0, 1, 32} {
					lacks := keysOf(without(append(upTo(64), -1, 64), []int{id})...)
					wantNone(t, came, peers, seedsOf(ids...), lacks, dim)
					wantNone(t, came, peers, nil, lacks, dim)
					wantNone(t, came, peers, seedsOf(ids...), nil, dim)
				}
			}
		}
	}
	peers := []api.Peer{{ID: 5, Public: 3}, {ID: 6, Public: 9}}
	seeds, keys := map[int]uint64{5: 1}, map[int]uint64{6: 0}
	wantOpen(t, []int{5}, peers, seeds, keys, 3, plainOpen(t, []int{5}, peers, seeds, keys, 3))
}

// BL2: a seed is no key, and a key no seed.
func TestSeedsAreNoKeys(t *testing.T) {
	peers := peersOf(5, 6)
	wantNone(t, []int{5}, peers, keysOf(6), seedsOf(5), 4)
	wantNone(t, []int{5}, peers, seedsOf(6), keysOf(5), 4)
	wantNone(t, []int{5, 6}, peers, nil, keysOf(5, 6), 4)
	wantNone(t, nil, peers, seedsOf(5, 6), nil, 4)
}

// BL2: ErrArg, unless dim is from 0 to 32, ahead of ErrNone.
func TestOpenOfDimsThatMayNotBe(t *testing.T) {
	for _, dim := range notDims() {
		wantArg(t, nil, nil, dim)
		for _, ids := range groups() {
			wantArg(t, nil, peersOf(ids...), dim)
			wantArg(t, ids[:1], peersOf(ids...), dim)
			wantArg(t, ids, peersOf(ids...), dim)
		}
	}
}

// BL2: ErrArg, if peers may not be, whoever came, ahead of ErrNone.
func TestOpenOfPeersThatMayNotBe(t *testing.T) {
	for _, peers := range notPeers() {
		ids := []int{}
		for _, p := range peers {
			ids = append(ids, p.ID)
		}
		for _, dim := range []int{-1, 0, 1, 32, 33} {
			wantArg(t, nil, peers, dim)
			wantArg(t, ids[:1], peers, dim)
			wantArg(t, ids[len(ids)-1:], peers, dim)
			wantArg(t, ids, peers, dim)
		}
	}
}

// BL2: ErrArg, unless those who came are IDs of peers, ascending, each once, ahead of
// ErrNone.
func TestWhoCameThatMayNotBe(t *testing.T) {
	peers := peersOf(0, 5, 20, 63)
	for _, came := range [][]int{
		{-1}, {1}, {4}, {6}, {62}, {64}, {math.MinInt}, {math.MaxInt}, {1 << 32}, {1<<32 + 5},
		{-1, 0}, {0, 1}, {0, 5, 6}, {4, 5}, {0, 5, 20, 62}, {0, 5, 20, 64}, {63, 64}, {0, 5, 20, 63, 64}, {-1, 0, 5, 20, 63},
		{0, 0}, {5, 5}, {63, 63}, {0, 5, 5}, {0, 0, 5}, {0, 5, 20, 63, 63}, {0, 0, 5, 20, 63}, {0, 5, 0}, {5, 5, 5},
		{5, 0}, {63, 0}, {20, 5}, {0, 20, 5}, {5, 0, 20}, {63, 20, 5, 0}, {0, 5, 63, 20}, {5, 0, 20, 63}, {5, 0, 5},
		{0, 5, 20, 63, 0, 5, 20, 63}, upTo(64), slices.Repeat([]int{5}, 1000),
	} {
		for _, dim := range []int{-1, 0, 1, 32, 33} {
			wantArg(t, came, peers, dim)
		}
	}
	for _, id := range []int{-1, 0, 5, 63, 64} {
		wantArg(t, []int{id}, nil, 3)
		wantArg(t, []int{id}, peersOf(30), 3)
	}
	all := peersOf(upTo(64)...)
	for _, at := range []int{0, 1, 32, 63, 64} {
		for _, id := range []int{-1, 0, 32, 63, 64} {
			wantArg(t, slices.Insert(upTo(64), at, id), all, 3)
		}
	}
}

// leftOver is the sum of the rows of those that came, less what Open answers.
func leftOver(t *testing.T, came []int, peers []api.Peer, seeds, keys map[int]uint64, dim int) []uint32 {
	t.Helper()
	left := make([]uint32, dim)
	for _, id := range came {
		row, err := Row(xOf(id, dim), id, seeds[id], keys[id], peers)
		if err != nil || len(row) != dim {
			t.Fatalf("Row of %d, of %v: %x, %v", id, peers, row, err)
		}
		for i, v := range row {
			left[i] += v
		}
	}
	hides, err := Open(came, peers, seeds, keys, dim)
	if err != nil || len(hides) != dim {
		t.Fatalf("Open(%v, %v, %v, %v, %d): %x, %v", came, peers, seeds, keys, dim, hides, err)
	}
	for i, v := range hides {
		left[i] -= v
	}
	return left
}

func wantSum(t *testing.T, came []int, peers []api.Peer, seeds, keys map[int]uint64, dim int) {
	t.Helper()
	sum := make([]uint32, dim)
	for _, id := range came {
		for i, v := range xOf(id, dim) {
			sum[i] += v
		}
	}
	if got := leftOver(t, came, peers, seeds, keys, dim); !slices.Equal(got, sum) {
		t.Errorf("of %v, of %v, with %v and %v, is left %x, not %x", came, peers, seeds, keys, got, sum)
	}
}

// BL3: whoever came, the sum of their rows, less what hides it, is that of what they had.
func TestSumOfWhoCame(t *testing.T) {
	for _, ids := range append(groups(), []int{0, 1, 2, 30, 31, 32, 62, 63}) {
		for _, came := range parts(ids) {
			wantSum(t, came, peersOf(ids...), seedsOf(ids...), keysOf(ids...), 9)
		}
	}
}

// BL3: of rows of 0 up to 32 numbers.
func TestSumOfRowsOfAnyLength(t *testing.T) {
	ids := []int{1, 9, 33, 62}
	for dim := range 33 {
		for _, came := range parts(ids) {
			wantSum(t, came, peersOf(ids...), seedsOf(ids...), keysOf(ids...), dim)
		}
	}
}

// BL3: of all peers that there may be too, whether each one came, or each other, or few.
func TestSumOfMany(t *testing.T) {
	for _, n := range []int{12, 33, 64} {
		ids := upTo(n)
		odd := slices.DeleteFunc(upTo(n), func(id int) bool { return id%2 == 0 })
		thue := slices.DeleteFunc(upTo(n), func(id int) bool { return bits.OnesCount(uint(id))%2 == 0 })
		for _, came := range [][]int{nil, ids, odd, thue, ids[:1], ids[n-1:], ids[1:], ids[:n-1], {2, 7, 10}} {
			wantSum(t, came, peersOf(ids...), seedsOf(ids...), keysOf(ids...), 3)
		}
	}
}

// BL3: whatever all keys and seeds are, those of two, or of all, the same too.
func TestSumOfAnyKeysAndSeeds(t *testing.T) {
	ids := []int{0, 7, 63}
	for _, a := range edges() {
		for _, b := range edges() {
			for _, keys := range []map[int]uint64{{0: a, 7: b, 63: a}, {0: b, 7: b, 63: b}, {0: a, 7: 12345, 63: b}} {
				peers := []api.Peer{}
				for _, id := range ids {
					peers = append(peers, api.Peer{ID: id, Public: pair.Public(keys[id])})
				}
				for _, came := range parts(ids) {
					wantSum(t, came, peers, map[int]uint64{0: b, 7: a, 63: b}, keys, 2)
					wantSum(t, came, peers, keys, keys, 2)
				}
			}
		}
	}
}

// BL3: where a row of one who came is not added, or one more is, it is not the sum of what
// they had: what hides fits those who came alone.
func TestSumOfOthersIsNone(t *testing.T) {
	ids := []int{2, 3, 5, 7, 11}
	peers, seeds, keys := peersOf(ids...), seedsOf(ids...), keysOf(ids...)
	for _, came := range parts(ids) {
		one, errOne := Open(came, peers, seeds, keys, 32)
		for _, other := range parts(ids) {
			two, errTwo := Open(other, peers, seeds, keys, 32)
			if errOne != nil || errTwo != nil || slices.Equal(one, two) != slices.Equal(came, other) {
				t.Errorf("what hides the sums of %v and of %v: %x, %v and %x, %v", came, other, one, errOne, two, errTwo)
			}
		}
	}
}

// What is handed in is not changed, nor is the spare room behind its end, nor a map.
func TestArgumentsStay(t *testing.T) {
	x := xOf(1, 40)
	came := []int{0, 3, 5, 5, 70, -1, 2}
	peers := append(peersOf(0, 2, 3, 5, 60), api.Peer{ID: 64, Public: 0}, api.Peer{ID: -1, Public: prime}, api.Peer{ID: 3, Public: top})
	seeds, keys := seedsOf(0, 3, 5, 60, -1), keysOf(2, 3, 60, 64)
	for n := range len(peers) {
		for k := range len(came) {
			for _, dim := range []int{-1, 0, 5, 32, 33, 40} {
				Open(came[:k], peers[:n], seeds, keys, dim)
				Open(came[:k], peers[:n], nil, keys, dim)
				Row(x[:max(dim, 0)], came[k], 5, 6, peers[:n])
			}
		}
	}
	if !slices.Equal(x, xOf(1, 40)) || !slices.Equal(came, []int{0, 3, 5, 5, 70, -1, 2}) {
		t.Errorf("a list that is handed in has changed: %x, %v", x, came)
	}
	if !slices.Equal(peers, append(peersOf(0, 2, 3, 5, 60), api.Peer{ID: 64, Public: 0}, api.Peer{ID: -1, Public: prime}, api.Peer{ID: 3, Public: top})) {
		t.Errorf("peers that are handed in have changed: %v", peers)
	}
	if !maps.Equal(seeds, seedsOf(0, 3, 5, 60, -1)) || !maps.Equal(keys, keysOf(2, 3, 60, 64)) {
		t.Errorf("a map that is handed in has changed: %v, %v", seeds, keys)
	}
}

// What stands in the spare room behind an end is not read: no number, no peer, nobody who
// came.
func TestSpareRoomIsNotRead(t *testing.T) {
	room := append(peersOf(2, 5), api.Peer{ID: 63, Public: 3})
	peers, came := peersOf(2, 5), []int{2, 5, 63}
	seeds, keys := seedsOf(2, 5, 63), keysOf(2, 5, 63)
	for k := range 3 {
		wantOpen(t, came[:k], room[:2], seeds, keys, 9, plainOpen(t, came[:k], peers, seeds, keys, 9))
	}
	wantArg(t, came, room[:2], 9)
	x := xOf(2, 9)
	wantRow(t, x[:4], 2, 7, 8, room[:2], plainRow(t, x[:4], 2, 7, 8, peers))
	wantNoRow(t, x, 63, room[:2])
}

// An answer is new memory, spare room too, and what is handed in is not kept.
func TestAnswersAreNew(t *testing.T) {
	for _, dim := range dims() {
		for _, came := range parts([]int{7, 20}) {
			calls := []func() ([]uint32, error){
				func() ([]uint32, error) { return Own(5, dim) },
				func() ([]uint32, error) { return Row(xOf(7, dim), 7, 5, 6, peersOf(7, 20)) },
				func() ([]uint32, error) { return Row(make([]uint32, dim, 64), 7, 5, 6, peersOf(7)) },
				func() ([]uint32, error) { return Open(came, peersOf(7, 20), seedsOf(7, 20), keysOf(7, 20), dim) },
				func() ([]uint32, error) { return Open(nil, nil, nil, nil, dim) },
			}
			for at, call := range calls {
				one, errOne := call()
				other, errOther := call()
				want := slices.Clone(one)
				one = one[:cap(one)]
				for i := range one {
					one[i] = 0xdeadbeef
				}
				if errOne != nil || errOther != nil || !slices.Equal(other, want) || slices.Contains(other[:cap(other)], 0xdeadbeef) {
					t.Errorf("call %d, of %d numbers: two answers share memory", at, dim)
				}
			}
		}
	}
}

// No answer shares memory with what is handed in, the other way round neither.
func TestArgumentsAreNotKept(t *testing.T) {
	ids := []int{0, 7, 63}
	for _, came := range parts(ids) {
		x, peers, seeds, keys := xOf(7, 9), peersOf(ids...), seedsOf(ids...), keysOf(ids...)
		wantHides := plainOpen(t, came, peers, seeds, keys, 9)
		wantHidden := plainRow(t, x, 7, 5, 6, peers)
		here := slices.Clone(came)
		hides, errHides := Open(here, peers, seeds, keys, 9)
		hidden, errHidden := Row(x, 7, 5, 6, peers)
		clear(x)
		clear(here)
		clear(peers)
		clear(seeds)
		clear(keys)
		if errHides != nil || errHidden != nil || !slices.Equal(hides, wantHides) || !slices.Equal(hidden, wantHidden) {
			t.Errorf("of %v: %x, %v and %x, %v, after what was handed in was cleared", came, hides, errHides, hidden, errHidden)
		}
		wantArg(t, []int{0}, peers, 9)
		wantNone(t, nil, peersOf(ids...), seeds, keys, 9)
		wantOpen(t, came, peersOf(ids...), seedsOf(ids...), keysOf(ids...), 9, wantHides)
	}
}

// No call hangs on the calls ahead of it.
func TestAsksStandAlone(t *testing.T) {
	ids := []int{0, 5, 63}
	peers, seeds, keys := peersOf(ids...), seedsOf(ids...), keysOf(ids...)
	x := xOf(5, 32)
	own := words(t, 5, "own", 32)
	hidden := plainRow(t, x, 5, 5, 6, peers)
	hides := plainOpen(t, []int{0, 63}, peers, seeds, keys, 32)
	for _, v := range edges() {
		Own(v, 32)
		Own(v, 33)
		Row(x, 5, v, v, peers)
		Row(x, 6, v, v, peers)
		Open([]int{0, 5}, peers, map[int]uint64{0: v, 5: v}, map[int]uint64{63: v}, 32)
		Open([]int{0, 5}, peers, map[int]uint64{0: v}, nil, 32)
		Open([]int{5, 0}, peers, seeds, keys, 32)
		wantOwn(t, 5, 32, own)
		wantRow(t, x, 5, 5, 6, peers, hidden)
		wantOpen(t, []int{0, 63}, peers, seeds, keys, 32, hides)
	}
}

// Many ask at once, as clients of the package may, of the same lists and maps.
func TestAsksAtOnce(t *testing.T) {
	ids := upTo(8)
	came := []int{1, 2, 5}
	peers, seeds, keys, x := peersOf(ids...), seedsOf(ids...), keysOf(ids...), xOf(1, 9)
	hides, hidden := plainOpen(t, came, peers, seeds, keys, 9), plainRow(t, x, 1, 5, 6, peers)
	done := make(chan bool)
	for range 8 {
		go func() {
			one, errOne := Open(came, peers, seeds, keys, 9)
			other, errOther := Row(x, 1, 5, 6, peers)
			done <- errOne == nil && errOther == nil && slices.Equal(one, hides) && slices.Equal(other, hidden)
		}()
	}
	for range 8 {
		if !<-done {
			t.Error("asked at once, Open or Row answers something else")
		}
	}
}
