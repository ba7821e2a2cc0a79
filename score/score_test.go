package score

import (
	"math"
	"math/big"
	"slices"
	"testing"

	"scarp/api"
)

// nanBits is the NaN's pattern, written out so that a slip in a package's constants can't hide.
const nanBits = 0x7ff8000000000000

// The ends that the chapter names, written out again for the same reason.
const (
	greatSize = 1 << 30
	greatTime = 1 << 40
)

var (
	inf = math.Inf(1)
	nan = math.Float64frombits(nanBits)
)

func zone(live, size, time int) api.Zone { return api.Zone{Live: live, Size: size, Time: time} }

// pattern looks at a number without the program, so that zeros and NaNs are told apart.
func pattern(x float64) uint64 { return math.Float64bits(x) }

// wrongZones are beyond each of the chapter's ends, by one and by far.
func wrongZones() []api.Zone {
	return []api.Zone{
		zone(-1, 4, 0),
		zone(math.MinInt, 4, 0),
		zone(-1, 0, 0),
		zone(-greatSize, greatSize, 0),
		zone(5, 4, 0),
		zone(1, 0, 0),
		zone(greatSize, greatSize-1, 0),
		zone(math.MaxInt, 4, 0),
		zone(0, -1, 0),
		zone(-1, -1, 0),
		zone(-2, -1, 0),
		zone(0, math.MinInt, 0),
		zone(math.MinInt, math.MinInt, 0),
		zone(0, greatSize+1, 0),
		zone(1, greatSize+1, 0),
		zone(greatSize+1, greatSize+1, 0),
		zone(0, math.MaxInt, 0),
		zone(math.MaxInt, math.MaxInt, 0),
		zone(0, 4, -1),
		zone(0, 0, -1),
		zone(1, 4, math.MinInt),
		zone(0, 4, greatTime+1),
		zone(0, 0, greatTime+1),
		zone(4, 4, math.MaxInt),
		zone(-1, -1, -1),
		zone(math.MaxInt, math.MinInt, math.MaxInt),
	}
}

// rounded is the number nearest to an exact value that is not below 0.
func rounded(exact *big.Rat) float64 {
	x, _ := exact.Float64()
	return x
}

func rat(x float64) *big.Rat { return new(big.Rat).SetFloat64(x) }

// useByWords works exactly and rounds once.
func useByWords(z api.Zone) float64 {
	if z.Size == 0 {
		return nan
	}
	return rounded(big.NewRat(int64(z.Live), int64(z.Size)))
}

// scoreByWords works each operation exactly and rounds it once, so that nothing can be fused in it.
func scoreByWords(z api.Zone, now int) float64 {
	if z.Size == 0 {
		return nan
	}
	if z.Live == 0 {
		return inf
	}
	u := useByWords(z)
	a := big.NewRat(int64(now-z.Time), 1)
	less := rounded(new(big.Rat).Sub(rat(1), rat(u)))
	product := rounded(new(big.Rat).Mul(rat(less), a))
	more := rounded(new(big.Rat).Add(rat(1), rat(u)))
	return rounded(new(big.Rat).Quo(rat(product), rat(more)))
}

// may tells by whole numbers whether a zone may stand in Rank, and asks no score.
func may(z api.Zone, now int) bool {
	if z.Live < 0 || z.Size < 0 || z.Time < 0 || z.Live > z.Size || z.Size > greatSize || z.Time > now || now > greatTime {
		return false
	}
	return z.Size > 0 && (z.Live == 0 || z.Live < z.Size && z.Time < now)
}

// rankByWords takes the best one that is left, the first one of equals, as long as there is one.
func rankByWords(l []api.Zone, now int) []int {
	var left []int
	scores := make([]float64, len(l))
	for i, z := range l {
		if may(z, now) {
			left = append(left, i)
			scores[i] = scoreByWords(z, now)
		}
	}
	var out []int
	for len(left) > 0 {
		best := 0
		for k, i := range left {
			if scores[i] > scores[left[best]] {
				best = k
			}
		}
		out = append(out, left[best])
		left = slices.Delete(left, best, best+1)
	}
	return out
}

// check compares patterns; where a NaN is wanted it is the NaN.
func check(t *testing.T, what string, z api.Zone, now int, got float64, code api.Errno, want float64) {
	t.Helper()
	if code != api.OK || pattern(got) != pattern(want) {
		t.Fatalf("%s of %v at %d = %x (%v), %d, want %x (%v)", what, z, now, pattern(got), got, code, pattern(want), want)
	}
}

func checkUse(t *testing.T, z api.Zone, want float64) {
	t.Helper()
	got, code := Use(z)
	check(t, "Use", z, 0, got, code, want)
}

func checkScore(t *testing.T, z api.Zone, now int, want float64) {
	t.Helper()
	got, code := Score(z, now)
	check(t, "Score", z, now, got, code, want)
}

func checkUseRefused(t *testing.T, z api.Zone) {
	t.Helper()
	if got, code := Use(z); code != api.ErrArg || pattern(got) != 0 {
		t.Errorf("Use of %v = %v, %d, want 0, %d", z, got, code, api.ErrArg)
	}
}

func checkScoreRefused(t *testing.T, z api.Zone, now int) {
	t.Helper()
	if got, code := Score(z, now); code != api.ErrArg || pattern(got) != 0 {
		t.Errorf("Score of %v at %d = %v, %d, want 0, %d", z, now, got, code, api.ErrArg)
	}
}

// checkRank checks Rank, and Choose beside it.
func checkRank(t *testing.T, l []api.Zone, now int, want []int) {
	t.Helper()
	if got := Rank(l, now); !slices.Equal(got, want) {
		t.Fatalf("Rank of %v at %d = %v, want %v", l[:min(len(l), 20)], now, got, want)
	}
	first, wantCode := 0, api.ErrNone
	if len(want) > 0 {
		first, wantCode = want[0], api.OK
	}
	if got, code := Choose(l, now); got != first || code != wantCode {
		t.Fatalf("Choose of %v at %d = %d, %d, want %d, %d", l[:min(len(l), 20)], now, got, code, first, wantCode)
	}
}

// dice answers numbers below n, the same ones at each run.
func dice(seed int) func(n int) int {
	state := uint64(seed)
	return func(n int) int {
		state = state*6364136223846793005 + 1442695040888963407
		return int((state >> 16) % uint64(n))
	}
}

// smallZones calls f with every zone of at most size blocks at some times.
func smallZones(size int, f func(z api.Zone)) {
	for s := range size + 1 {
		for live := range s + 1 {
			for _, time := range []int{0, 1, 7, greatTime - 1, greatTime} {
				f(zone(live, s, time))
			}
		}
	}
}

// greatZones calls f with zones of many blocks, among them those at the ends.
func greatZones(f func(z api.Zone)) {
	throw := dice(5)
	sizes := []int{greatSize, greatSize - 1, 1<<29 + 1, 3 << 28, 1e9, 65537}
	for range 20 {
		sizes = append(sizes, 1+throw(greatSize))
	}
	for _, size := range sizes {
		for _, live := range []int{0, 1, 2, size / 3, size / 2, size - 1, size, throw(size + 1), throw(size + 1)} {
			for _, time := range []int{0, 1, greatTime - 1, greatTime, throw(greatTime)} {
				f(zone(live, size, time))
			}
		}
	}
}

// nows are times at which a zone is asked for its score: just now, and up to the end.
func nows(time int) []int {
	var out []int
	for _, now := range []int{time, time + 1, time + 2, time + 7, time + 10, time + 1e6 + 1, time + 1<<35 + 3, (time + greatTime) / 2, greatTime - 1, greatTime} {
		if time <= now && now <= greatTime {
			out = append(out, now)
		}
	}
	return out
}

func TestP5_1UseKnown(t *testing.T) {
	for _, c := range []struct {
		want float64
		z    api.Zone
	}{
		{0.25, zone(1, 4, 0)}, // the chapter's example
		{0, zone(0, 4, 0)},
		{0, zone(0, 1, 0)},
		{0, zone(0, greatSize, 0)},
		{1, zone(1, 1, 0)},
		{1, zone(4, 4, 3)},
		{1, zone(greatSize, greatSize, greatTime)},
		{0.5, zone(96, 192, 9)},
		{1.0 / 3, zone(1, 3, 0)},
		{1.0 / 3, zone(64, 192, 0)},
		{0.1, zone(1, 10, 0)},
		{0x1p-30, zone(1, greatSize, 0)},
		{1 - 0x1p-30, zone(greatSize-1, greatSize, 0)},
		{nan, zone(0, 0, 0)},
		{nan, zone(0, 0, 5)},
		{nan, zone(0, 0, greatTime)},
	} {
		checkUse(t, c.z, c.want)
	}
}

func TestP5_1UseOfManyZones(t *testing.T) {
	smallZones(60, func(z api.Zone) { checkUse(t, z, useByWords(z)) })
	greatZones(func(z api.Zone) { checkUse(t, z, useByWords(z)) })
}

func TestP5_1UseRefuses(t *testing.T) {
	for _, z := range wrongZones() {
		checkUseRefused(t, z)
	}
}

func TestP5_1ScoreKnown(t *testing.T) {
	for _, c := range []struct {
		want float64
		z    api.Zone
		now  int
	}{
		{6, zone(1, 4, 0), 10}, // the chapter's example
		{6, zone(1, 4, 90), 100},
		{6, zone(48, 192, 0), 10},
		{1, zone(1, 2, 0), 3},
		{1.0 / 3, zone(1, 2, 2), 3},
		{0x1p40 * 3 / 5, zone(1, 4, 0), greatTime},
		{0.6, zone(1, 4, greatTime-1), greatTime},
		{0, zone(1, 4, 5), 5}, // written just now
		{0, zone(1, 4, 0), 0},
		{0, zone(greatSize-1, greatSize, greatTime), greatTime},
		{0, zone(4, 4, 0), 9}, // nothing to win
		{0, zone(4, 4, 9), 9},
		{0, zone(1, 1, 0), greatTime},
		{0, zone(greatSize, greatSize, 0), greatTime},
		{inf, zone(0, 4, 5), 9},
		{inf, zone(0, 4, 5), 5}, // also just now
		{inf, zone(0, 1, 0), 0},
		{inf, zone(0, greatSize, 0), greatTime},
		{inf, zone(0, greatSize, greatTime), greatTime},
		{nan, zone(0, 0, 0), 0},
		{nan, zone(0, 0, 0), 9},
		{nan, zone(0, 0, 9), 9},
		{nan, zone(0, 0, 0), greatTime},
		{nan, zone(0, 0, greatTime), greatTime},
	} {
		checkScore(t, c.z, c.now, c.want)
	}
}

func TestP5_1ScoreOfManyZones(t *testing.T) {
	score := func(z api.Zone) {
		for _, now := range nows(z.Time) {
			checkScore(t, z, now, scoreByWords(z, now))
		}
	}
	smallZones(40, score)
	greatZones(score)
}

// The zones here are such that every other way to round the formula gives another number.
func TestP5_1ScoreRoundsEachOperation(t *testing.T) {
	found := [4]int{}
	for size := 2; size < 200; size++ {
		for live := 1; live < size; live++ {
			z, now := zone(live, size, 0), size+live
			want := scoreByWords(z, now)
			checkScore(t, z, now, want)
			u, a := float64(live)/float64(size), float64(now)
			for k, other := range []float64{
				(1 - u) * (a / (1 + u)),
				(1 - u) / (1 + u) * a,
				math.FMA(-u, a, a) / (1 + u),
				rounded(big.NewRat(int64((size-live)*now), int64(size+live))), // once, at the end
			} {
				if other != want {
					found[k]++
				}
			}
		}
	}
	for k, n := range found {
		if n == 0 {
			t.Errorf("way %d is never told apart", k)
		}
	}
}

func TestP5_1ScoreRefusesZones(t *testing.T) {
	for _, z := range wrongZones() {
		for _, now := range []int{0, 1, 9, greatTime - 1, greatTime, greatTime + 1, -1, z.Time, math.MaxInt, math.MinInt} {
			checkScoreRefused(t, z, now)
		}
	}
}

func TestP5_1ScoreRefusesTimes(t *testing.T) {
	smallZones(3, func(z api.Zone) {
		for _, now := range []int{z.Time - 1, -1, math.MinInt, greatTime + 1, 2 * greatTime, math.MaxInt, math.MinInt + z.Time} {
			checkScoreRefused(t, z, now)
		}
		if z.Time > 0 {
			checkScoreRefused(t, z, 0)
		}
	})
}

func TestP5_2RankOfNone(t *testing.T) {
	for _, now := range []int{0, 7, greatTime, -1, greatTime + 1} {
		checkRank(t, nil, now, nil)
		checkRank(t, []api.Zone{}, now, nil)
	}
}

func TestP5_2RankOfOne(t *testing.T) {
	for _, size := range []int{1, 2, 4, greatSize} {
		checkRank(t, []api.Zone{zone(0, size, 3)}, 3, []int{0})
		checkRank(t, []api.Zone{zone(0, size, 3)}, 4, []int{0})
		checkRank(t, []api.Zone{zone(0, size, 3)}, greatTime, []int{0})
		checkRank(t, []api.Zone{zone(0, size, 3)}, 2, nil)
		checkRank(t, []api.Zone{zone(size, size, 3)}, greatTime, nil)
		checkRank(t, []api.Zone{zone(size/2, size, 3)}, greatTime+1, nil)
	}
	checkRank(t, []api.Zone{zone(1, 4, 3)}, 4, []int{0})
	checkRank(t, []api.Zone{zone(1, 4, 3)}, 3, nil)
	checkRank(t, []api.Zone{zone(1, 4, 3)}, 2, nil)
	checkRank(t, []api.Zone{zone(greatSize-1, greatSize, greatTime-1)}, greatTime, []int{0}) // the least score
	checkRank(t, []api.Zone{zone(0, 0, 3)}, 9, nil)
	for _, z := range wrongZones() {
		checkRank(t, []api.Zone{z}, greatTime, nil)
	}
}

func TestP5_2RankKnown(t *testing.T) {
	for _, c := range []struct {
		l    []api.Zone
		now  int
		want []int
	}{
		{[]api.Zone{zone(0, 4, 0), zone(1, 4, 0)}, 9, []int{0, 1}}, // the chapter's example
		{[]api.Zone{zone(1, 4, 0), zone(0, 4, 0)}, 9, []int{1, 0}},
		{[]api.Zone{zone(1, 4, 0), zone(0, 4, 9)}, 9, []int{1, 0}},                                                // though written just now
		{[]api.Zone{zone(3, 4, 0), zone(2, 4, 0), zone(1, 4, 0)}, 9, []int{2, 1, 0}},                              // the fewer live ones
		{[]api.Zone{zone(1, 4, 8), zone(1, 4, 4), zone(1, 4, 6)}, 9, []int{1, 2, 0}},                              // the older ones
		{[]api.Zone{zone(3, 4, 0), zone(1, 4, 8)}, 9, []int{0, 1}},                                                // 9/7 and 3/5
		{[]api.Zone{zone(3, 4, 0), zone(1, 4, 6)}, 9, []int{1, 0}},                                                // 9/7 and 9/5
		{[]api.Zone{zone(1, 4, 0), zone(2, 8, 0), zone(3, 12, 0), zone(1, 4, 0)}, 9, []int{0, 1, 2, 3}},           // all equal
		{[]api.Zone{zone(0, 4, 9), zone(0, 9, 0), zone(0, 1, 5)}, 9, []int{0, 1, 2}},                              // all infinite
		{[]api.Zone{zone(4, 4, 0), zone(1, 4, 9), zone(0, 0, 0)}, 9, nil},                                         // 0, 0 and the NaN
		{[]api.Zone{zone(0, 0, 0), zone(1, 4, 0), zone(0, 0, 0), zone(2, 4, 0), zone(0, 0, 0)}, 9, []int{1, 3}},   // NaNs between
		{[]api.Zone{zone(4, 4, 0), zone(2, 4, 0), zone(1, 4, 9), zone(1, 4, 0), zone(9, 9, 9)}, 9, []int{3, 1}},   // 0 between
		{[]api.Zone{zone(5, 4, 0), zone(2, 4, 0), zone(-1, 4, 0), zone(1, 4, 0), zone(0, 4, 10)}, 9, []int{3, 1}}, // refused ones between
		{[]api.Zone{zone(2, 4, 0), zone(0, 4, 0), zone(2, 4, 0), zone(0, 4, 0), zone(1, 4, 0)}, 9, []int{1, 3, 4, 0, 2}},
		{[]api.Zone{zone(2, 4, 0), zone(0, 4, 0)}, -1, nil},
		{[]api.Zone{zone(2, 4, 0), zone(0, 4, 0)}, greatTime + 1, nil},
		{[]api.Zone{zone(2, 4, 0), zone(0, 4, 0)}, math.MaxInt, nil},
		{[]api.Zone{zone(2, 4, 0), zone(0, 4, 0)}, math.MinInt, nil},
		{[]api.Zone{zone(2, 4, 0), zone(0, 4, 0), zone(1, 4, 1)}, greatTime, []int{1, 2, 0}},
	} {
		checkRank(t, c.l, c.now, c.want)
	}
}

// few are enough zones to build every short list of: a NaN, two infinities, zeros, equals, refused ones.
func few() []api.Zone {
	return []api.Zone{
		zone(0, 0, 0), zone(0, 4, 9), zone(0, 9, 0), zone(4, 4, 0), zone(1, 4, 9),
		zone(1, 4, 0), zone(2, 8, 0), zone(3, 4, 0), zone(5, 4, 0), zone(1, 4, 10),
	}
}

func TestP5_2RankOfShortLists(t *testing.T) {
	var grow func(l []api.Zone)
	grow = func(l []api.Zone) {
		checkRank(t, l, 9, rankByWords(l, 9))
		if len(l) == 4 {
			return
		}
		for _, z := range few() {
			grow(append(slices.Clone(l), z))
		}
	}
	grow(nil)
}

// everyOrder calls f with the zones in each order.
func everyOrder(l []api.Zone, f func(l []api.Zone)) {
	var arrange func(fixed int)
	arrange = func(fixed int) {
		if fixed == len(l) {
			f(l)
			return
		}
		for i := fixed; i < len(l); i++ {
			l[fixed], l[i] = l[i], l[fixed]
			arrange(fixed + 1)
			l[fixed], l[i] = l[i], l[fixed]
		}
	}
	arrange(0)
}

func TestP5_2RankInEveryOrder(t *testing.T) {
	for _, l := range [][]api.Zone{
		{zone(0, 4, 0), zone(1, 4, 0), zone(2, 4, 0), zone(3, 4, 0), zone(1, 4, 3), zone(1, 4, 6), zone(3, 4, 8)},
		{zone(0, 4, 0), zone(0, 9, 9), zone(1, 4, 0), zone(2, 8, 0), zone(0, 0, 0), zone(4, 4, 0), zone(5, 4, 0)},
	} {
		everyOrder(slices.Clone(l), func(l []api.Zone) {
			checkRank(t, l, 9, rankByWords(l, 9))
		})
	}
}

// mixed are zones of every kind, the same ones at each run: one in five is an edge or a wrong one; with few sizes and times many are equal.
func mixed(seed, count, sizes, times int) []api.Zone {
	throw := dice(seed)
	edges := append(wrongZones(), few()...)
	out := make([]api.Zone, count)
	for i := range out {
		size := 1 + throw(sizes)
		out[i] = zone(throw(size+1), size, throw(times))
		if throw(5) == 0 {
			out[i] = edges[throw(len(edges))]
		}
	}
	return out
}

func TestP5_2RankOfManyLists(t *testing.T) {
	for seed := range 120 {
		for _, ends := range [][2]int{{3, 3}, {12, 9}, {192, 1000}, {greatSize, greatTime}} {
			l := mixed(seed, seed*2, ends[0], ends[1])
			for _, now := range []int{0, 5, 9, 700, greatTime / 2, greatTime} {
				checkRank(t, l, now, rankByWords(l, now))
			}
		}
	}
}

// One after the other is enough for a list that is too long to rank by words.
func TestP5_2RankOfLongLists(t *testing.T) {
	for _, ends := range [][2]int{{3, 3}, {192, 1000}, {greatSize, greatTime}} {
		l := mixed(ends[0], 100_003, ends[0], ends[1])
		now := greatTime
		got := Rank(l, now)
		count := 0
		for _, z := range l {
			if may(z, now) {
				count++
			}
		}
		if len(got) != count {
			t.Fatalf("%d zones are ranked, want %d", len(got), count)
		}
		for k, i := range got {
			if !may(l[i], now) {
				t.Fatalf("%v may not be ranked", l[i])
			}
			if k == 0 {
				continue
			}
			before := got[k-1]
			x, y := scoreByWords(l[before], now), scoreByWords(l[i], now)
			if x < y || x == y && before >= i {
				t.Fatalf("%d (%v) stands before %d (%v)", before, x, i, y)
			}
		}
		if best, code := Choose(l, now); best != got[0] || code != api.OK {
			t.Errorf("Choose = %d, %d, want %d", best, code, got[0])
		}
	}
}

func TestP5_2ChooseOfNone(t *testing.T) {
	none := [][]api.Zone{nil, {}, {zone(0, 0, 0)}, {zone(4, 4, 0), zone(1, 4, 9)}, wrongZones()}
	for _, l := range none {
		if got, code := Choose(l, 9); got != 0 || code != api.ErrNone {
			t.Errorf("Choose of %v = %d, %d, want 0, %d", l, got, code, api.ErrNone)
		}
	}
	for _, now := range []int{-1, greatTime + 1, math.MaxInt, math.MinInt} {
		if got, code := Choose(few(), now); got != 0 || code != api.ErrNone {
			t.Errorf("Choose at %d = %d, %d, want 0, %d", now, got, code, api.ErrNone)
		}
	}
}

// checkFewerFirst checks that the first one of two zones stands before the second one, wherever each is in the list.
func checkFewerFirst(t *testing.T, fewer, more api.Zone, now int) {
	t.Helper()
	checkRank(t, []api.Zone{fewer, more}, now, []int{0, 1})
	checkRank(t, []api.Zone{more, fewer}, now, []int{1, 0})
}

func TestP5_3FewerLiveBlocksFirst(t *testing.T) {
	for size := 2; size <= 24; size++ {
		for more := 1; more < size; more++ {
			for fewer := range more {
				checkFewerFirst(t, zone(fewer, size, 2), zone(more, size, 2), 3)
				checkFewerFirst(t, zone(fewer, size, 0), zone(more, size, 0), greatTime)
			}
		}
	}
	for _, size := range []int{greatSize, greatSize - 1, 3 << 28, 65537} {
		for _, more := range []int{1, 2, 3, size / 3, size / 2, size/2 + 1, size - 2, size - 1} {
			for _, time := range []int{0, 1, greatTime - 1} {
				checkFewerFirst(t, zone(more-1, size, time), zone(more, size, time), greatTime)
			}
		}
	}
}

func TestP5_3ArgumentsStay(t *testing.T) {
	all := mixed(7, 60, 9, 9)
	before := slices.Clone(all)
	for _, now := range []int{9, -1, greatTime} {
		Rank(all[:40], now)
		Choose(all[:40], now)
		Rank(all[:0], now)
		Choose(all[:0], now)
		if !slices.Equal(all, before) {
			t.Fatalf("the zones were turned to %v", all)
		}
	}
}

func TestP5_3ArgumentsAreNotKept(t *testing.T) {
	l := []api.Zone{zone(3, 4, 0), zone(1, 4, 0), zone(2, 4, 0)}
	first := Rank(l, 9)
	l[0] = zone(0, 4, 0)
	l[1] = zone(4, 4, 0)
	second := Rank(l, 9)
	if best, code := Choose(l, 9); best != 0 || code != api.OK {
		t.Errorf("of other zones in the same list Choose = %d, %d, want 0", best, code)
	}
	if want := []int{1, 2, 0}; !slices.Equal(first, want) {
		t.Errorf("at first %v, want %v", first, want)
	}
	if want := []int{0, 2}; !slices.Equal(second, want) {
		t.Errorf("of other zones in the same list %v, want %v", second, want)
	}
}

func TestP5_3ResultsAreNew(t *testing.T) {
	l := []api.Zone{zone(3, 4, 0), zone(1, 4, 0), zone(2, 4, 0)}
	first := Rank(l, 9)
	second := Rank(l, 9)
	for i := range first {
		first[i] = 77
	}
	if want := []int{1, 2, 0}; !slices.Equal(second, want) || !slices.Equal(Rank(l, 9), want) {
		t.Errorf("a change of one result was seen in another: %v", second)
	}
}
