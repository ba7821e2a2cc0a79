package batch

import (
	"bytes"
	"encoding/binary"
	"fmt"
	"hash/crc32"
	"math"
	"slices"
	"testing"

	"scarp/api"
)

// The chapter's numbers, of their own.
const (
	dataSize  = 40
	blockSize = 64
	mostTxs   = 8
	mostPuts  = 32
	mostOfTx  = 16
	latest    = 1 << 40
	topLBA    = 1 << 20
	topEpoch  = 1<<32 - 1
	longGap   = 65535
	errArg    = api.Errno(1)
	errBad    = api.Errno(13)
	errNone   = api.Errno(14)
	kindData  = 1
	kindEnd   = 2
)

// dice answers numbers, the same ones at each run.
func dice(seed uint64) func(n int) int {
	state := seed
	return func(n int) int {
		state = state*6364136223846793005 + 1442695040888963407
		return int((state >> 33) % uint64(n))
	}
}

// data is 40 bytes, other ones for each block and each version of it.
func data(lba, version int) []byte {
	b := bytes.Repeat([]byte{byte(lba*31 + version*17)}, dataSize)
	binary.LittleEndian.PutUint64(b[8:], uint64(lba))
	binary.LittleEndian.PutUint64(b[24:], uint64(version))
	return b
}

// tx is a transaction that writes blocks, in the order given.
func tx(time int, blocks ...int) api.Tx {
	t := api.Tx{Time: time}
	for _, lba := range blocks {
		t.Puts = append(t.Puts, api.Put{LBA: lba, Data: data(lba, time)})
	}
	return t
}

// row is a transaction that writes n blocks from first on.
func row(time, n, first int) api.Tx {
	t := api.Tx{Time: time}
	for k := range n {
		t.Puts = append(t.Puts, api.Put{LBA: first + k, Data: data(first+k, time)})
	}
	return t
}

// rows are transactions of so many Puts each, of the times 1, 2 and on.
func rows(counts ...int) []api.Tx {
	var l []api.Tx
	for k, n := range counts {
		l = append(l, row(k+1, n, 3*k))
	}
	return l
}

func made(num int, l ...api.Tx) api.Batch { return api.Batch{Num: num, Txs: l} }

// copyOf is a batch of its own, its bytes too.
func copyOf(b api.Batch) api.Batch {
	b.Txs = slices.Clone(b.Txs)
	for k := range b.Txs {
		b.Txs[k].Puts = slices.Clone(b.Txs[k].Puts)
		for i, p := range b.Txs[k].Puts {
			b.Txs[k].Puts[i].Data = slices.Clone(p.Data)
		}
	}
	return b
}

func copyBlocks(l [][]byte) [][]byte {
	l = slices.Clone(l)
	for i := range l {
		l[i] = slices.Clone(l[i])
	}
	return l
}

func same(a, b api.Batch) bool {
	return a.Num == b.Num && slices.EqualFunc(a.Txs, b.Txs, func(s, t api.Tx) bool {
		return s.Time == t.Time && slices.EqualFunc(s.Puts, t.Puts, func(p, q api.Put) bool {
			return p.LBA == q.LBA && bytes.Equal(p.Data, q.Data)
		})
	})
}

func sameBlocks(a, b [][]byte) bool { return slices.EqualFunc(a, b, bytes.Equal) }

func zero(b api.Batch) bool { return b.Num == 0 && len(b.Txs) == 0 }

// raw lays a block's bytes one by one as chapter 8's table tells.
func raw(kind, epoch, seq, lba int, body ...byte) []byte {
	p := make([]byte, blockSize)
	p[0], p[1] = byte(kind), byte(len(body))
	binary.LittleEndian.PutUint32(p[2:], uint32(epoch))
	binary.LittleEndian.PutUint64(p[6:], uint64(seq))
	binary.LittleEndian.PutUint32(p[14:], uint32(lba))
	copy(p[18:58], body)
	return seal(p)
}

// seal writes the check sum that the bytes before it ask for, whatever they are.
func seal(p []byte) []byte {
	binary.LittleEndian.PutUint32(p[60:], crc32.Checksum(p[:60], crc32.MakeTable(crc32.Castagnoli)))
	return p
}

// endBody is the Body of a Commit block, of any numbers.
func endBody(first uint64, count int, gaps, puts []int) []byte {
	body := binary.LittleEndian.AppendUint64(nil, first)
	body = append(body, byte(count))
	for _, g := range gaps {
		body = append(body, byte(g), byte(g/256))
	}
	for _, n := range puts {
		body = append(body, byte(n))
	}
	return body
}

// bodyOf is what a batch's Commit block has.
func bodyOf(b api.Batch) []byte {
	var gaps, puts []int
	for k, t := range b.Txs {
		gaps = append(gaps, t.Time-b.Txs[max(k, 1)-1].Time)
		puts = append(puts, len(t.Puts))
	}
	return endBody(uint64(b.Txs[0].Time), len(b.Txs), gaps, puts)
}

// dataOf is the Data blocks of Puts, as they stand.
func dataOf(b api.Batch, epoch int) [][]byte {
	var l [][]byte
	for _, t := range b.Txs {
		for _, p := range t.Puts {
			l = append(l, raw(kindData, epoch, b.Num, p.LBA, p.Data...))
		}
	}
	return l
}

// byHand is a batch's encoding by another hand, whether it may be or not.
func byHand(b api.Batch, epoch int) [][]byte {
	l := dataOf(b, epoch)
	return append(l, raw(kindEnd, epoch, b.Num, len(l), bodyOf(b)...))
}

// formed is Form by another hand: the greatest number first.
func formed(queue []api.Tx) int {
	for n := min(mostTxs, len(queue)); n > 1; n-- {
		sum := 0
		for _, t := range queue[:n] {
			sum += len(t.Puts)
		}
		if sum <= mostPuts {
			return n
		}
	}
	return min(1, len(queue))
}

// may is Check by another hand.
func may(b api.Batch) bool {
	ok := 1 <= b.Num && b.Num <= latest && 1 <= len(b.Txs) && len(b.Txs) <= mostTxs
	sum := 0
	for k, t := range b.Txs {
		ok = ok && 1 <= t.Time && t.Time <= latest
		if k > 0 && ok {
			gap := t.Time - b.Txs[k-1].Time
			ok = 1 <= gap && gap <= longGap
		}
		ok = ok && 1 <= len(t.Puts) && len(t.Puts) <= mostOfTx
		sum += len(t.Puts)
		for i, p := range t.Puts {
			ok = ok && 0 <= p.LBA && p.LBA <= topLBA && len(p.Data) == dataSize
			ok = ok && (i == 0 || t.Puts[i-1].LBA < p.LBA)
		}
	}
	return ok && sum <= mostPuts
}

// goodBatches are some that may be, at their edges.
func goodBatches() []api.Batch {
	return []api.Batch{
		made(1, tx(1, 0)),
		made(latest, tx(latest, topLBA)),
		made(3, tx(300, 9), tx(301, 5, 6)),
		made(2, row(5, mostOfTx, 0)),
		made(7, row(5, mostOfTx, topLBA-15), row(6, mostOfTx, 0)),
		made(255, rows(4, 4, 4, 4, 4, 4, 4, 4)...),
		made(256, rows(1, 1, 1, 1, 1, 1, 1, 1)...),
		made(1<<32, rows(16, 1, 15)...),
		made(1<<39+77, tx(1<<39, 5), tx(1<<39+1, 5), tx(1<<39+256, 5), tx(1<<39+512, 5), tx(1<<39+512+longGap, 5)),
		made(9, tx(7, 0, topLBA), tx(7+longGap, 1, 2), tx(7+2*longGap, 3)),
		made(latest-1, tx(latest-longGap, 1), tx(latest, 1)),
	}
}

// badBatches are some that Check refuses, one for each way and edge.
func badBatches() map[string]api.Batch {
	nine := rows(1, 1, 1, 1, 1, 1, 1, 1, 1)
	ok := tx(5, 9)
	l := map[string]api.Batch{
		"nothing":                 {},
		"no Txs":                  {Num: 1},
		"an empty list of Txs":    {Num: 1, Txs: []api.Tx{}},
		"nine Txs":                made(1, nine...),
		"Txs without Puts":        made(1, tx(1), tx(2)),
		"a first Tx without Puts": made(1, tx(4), ok),
		"a last Tx without Puts":  made(1, ok, tx(6)),
		"an empty list of Puts":   made(1, api.Tx{Time: 1, Puts: []api.Put{}}),
		"equal Times":             made(1, ok, tx(5, 3)),
		"falling Times":           made(1, ok, tx(4, 3)),
		"falling Times, later":    made(1, ok, tx(6, 3), tx(5, 3)),
		"equal LBAs":              made(1, tx(5, 3, 3)),
		"falling LBAs":            made(1, tx(5, 3, 2)),
		"falling LBAs, later":     made(1, ok, tx(7, 1, 3, 2)),
		"a gap too long":          made(1, ok, tx(5+longGap+1, 3)),
		"a later gap too long":    made(1, ok, tx(6, 3), tx(7, 3), tx(7+longGap+1, 3)),
		"a gap of 2^32":           made(1, ok, tx(5+1<<32, 3)),
		"a gap of all times":      made(1, tx(1, 1), tx(latest, 1)),
		"33 Puts":                 made(1, rows(16, 16, 1)...),
		"33 Puts, the first one":  made(1, rows(1, 16, 16)...),
		"33 Puts of eight":        made(1, rows(5, 4, 4, 4, 4, 4, 4, 4)...),
		"17 Puts of one":          made(1, rows(17)...),
		"17 Puts of the last one": made(1, rows(1, 17)...),
		"32 Puts of one":          made(1, rows(32)...),
		"33 Puts of one":          made(1, rows(33)...),
		"256 Puts of one":         made(1, rows(256)...),
		"272 Puts of one":         made(1, rows(272)...),
	}
	for _, num := range []int{math.MinInt, -1 << 40, -1, 0, latest + 1, 1<<40 + 1<<32, 1 << 41, math.MaxInt} {
		l[fmt.Sprint("Num ", num)] = made(num, ok)
	}
	for _, time := range []int{math.MinInt, -1 << 40, -1, 0, latest + 1, 1 << 41, math.MaxInt} {
		l[fmt.Sprint("Time ", time)] = made(1, tx(time, 9))
		l[fmt.Sprint("a second Time ", time)] = made(1, ok, tx(time, 9))
		l[fmt.Sprint("a first Time ", time)] = made(1, tx(time, 9), ok)
	}
	l["a last Time too great"] = made(1, tx(latest, 3), tx(latest+1, 3))
	for _, lba := range []int{math.MinInt, -1 << 40, -1 << 20, -1, topLBA + 1, 1 << 21, 1 << 32, 1<<32 + 5, math.MaxInt} {
		l[fmt.Sprint("LBA ", lba)] = made(1, tx(5, lba))
		l[fmt.Sprint("a later LBA ", lba)] = made(1, ok, tx(6, min(lba, 1), max(lba, 1)))
	}
	for _, n := range []int{0, 1, 39, 41, 64, 256, 296} {
		l[fmt.Sprint("Data of ", n)] = made(1, api.Tx{Time: 1, Puts: []api.Put{{LBA: 5, Data: make([]byte, n)}}})
		last := tx(6, 1, 2)
		last.Puts[1].Data = make([]byte, n)
		l[fmt.Sprint("later Data of ", n)] = made(1, ok, last)
	}
	l["Data of nil"] = made(1, api.Tx{Time: 1, Puts: []api.Put{{LBA: 5}}})
	return l
}

// thrownBatch is one that may be.
func thrownBatch(throw func(int) int) api.Batch {
	b := api.Batch{Num: 1 + throw(latest)>>throw(41)}
	time, left := 1+throw(latest-mostTxs*longGap)>>throw(41), mostPuts
	for range 1 + throw(mostTxs) {
		n := 1 + throw(min(mostOfTx, 1+left/2))
		if n > left {
			break
		}
		left -= n
		t, lba := api.Tx{Time: time}, throw(topLBA/2)>>throw(20)
		for range n {
			t.Puts = append(t.Puts, api.Put{LBA: lba, Data: data(lba, time)})
			lba += 1 + throw(20000)>>throw(15)
		}
		b.Txs = append(b.Txs, t)
		time += 1 + throw(longGap)>>throw(17)
	}
	return b
}

func checkForm(t *testing.T, want int, queue []api.Tx) {
	t.Helper()
	for range 2 {
		if got := Form(queue); got != want {
			var counts []int
			for _, one := range queue {
				counts = append(counts, len(one.Puts))
			}
			t.Fatalf("Form of Txs with %v Puts = %d, want %d", counts, got, want)
		}
	}
}

// checkRefused holds a batch to be refused wherever it is handed in.
func checkRefused(t *testing.T, what string, b api.Batch) {
	t.Helper()
	for range 2 {
		if code := Check(b); code != errArg {
			t.Fatalf("Check with %s = %d, want %d", what, code, errArg)
		}
	}
	for _, epoch := range []int{0, 7, topEpoch, -1, topEpoch + 1} {
		if l, code := Encode(b, epoch); code != errArg || len(l) != 0 {
			t.Fatalf("Encode with %s, epoch %d = %d blocks, %d, want none, %d", what, epoch, len(l), code, errArg)
		}
	}
}

// checkEncode holds an encoding to the bytes of another hand, also when it is asked again.
func checkEncode(t *testing.T, b api.Batch, epoch int) [][]byte {
	t.Helper()
	want := byHand(b, epoch)
	for range 2 {
		if code := Check(b); code != api.OK {
			t.Fatalf("Check(%v) = %d", b, code)
		}
		l, code := Encode(b, epoch)
		if code != api.OK || !sameBlocks(l, want) {
			t.Fatalf("Encode(%v, %d) = %x, %d, want %x", b, epoch, l, code, want)
		}
		if n := Blocks(b); n != len(l) {
			t.Fatalf("Blocks(%v) = %d, want %d", b, n, len(l))
		}
	}
	return want
}

func checkDecode(t *testing.T, l [][]byte, b api.Batch, epoch, n int) {
	t.Helper()
	for range 2 {
		got, e, k, code := Decode(l)
		if code != api.OK || !same(got, b) || e != epoch || k != n {
			t.Fatalf("Decode = %v, %d, %d, %d, want %v, %d, %d", got, e, k, code, b, epoch, n)
		}
	}
}

func checkNoDecode(t *testing.T, what string, want api.Errno, l ...[]byte) {
	t.Helper()
	for range 2 {
		b, epoch, n, code := Decode(l)
		if code != want || !zero(b) || epoch != 0 || n != 0 {
			t.Fatalf("Decode with %s = %v, %d, %d, %d, want nothing and %d", what, b, epoch, n, code, want)
		}
	}
}

func TestP17_1FormOfTheChaptersExamples(t *testing.T) {
	checkForm(t, 2, rows(16, 16, 16))
	checkForm(t, 1, rows(40, 1))
}

func TestP17_1FormAtItsEdges(t *testing.T) {
	checkForm(t, 0, nil)
	checkForm(t, 0, []api.Tx{})
	for n := 1; n <= 20; n++ {
		checkForm(t, min(n, 8), rows(slices.Repeat([]int{1}, n)...))
		checkForm(t, min(n, 8), rows(slices.Repeat([]int{0}, n)...))
		checkForm(t, min(n, 8), rows(slices.Repeat([]int{4}, n)...))
		checkForm(t, min(n, 6), rows(slices.Repeat([]int{5}, n)...))
	}
	checkForm(t, 3, rows(16, 15, 0))
	checkForm(t, 2, rows(16, 15))
	checkForm(t, 3, rows(16, 15, 1))
	checkForm(t, 2, rows(16, 15, 2))
	checkForm(t, 3, rows(16, 15, 1, 1))
	checkForm(t, 8, rows(4, 4, 4, 4, 4, 4, 4, 4, 0))
	checkForm(t, 7, rows(4, 4, 4, 4, 4, 4, 4, 5, 0))
	checkForm(t, 8, rows(4, 4, 4, 4, 4, 4, 4, 3, 1))
}

func TestP17_1FormOfAFirstOneThatIsTooGreat(t *testing.T) {
	for _, n := range []int{33, 34, 40, 64, 255, 256, 257, 1000} {
		checkForm(t, 1, rows(n))
		for _, behind := range [][]int{{0}, {1}, {16}, {n}, {0, 0}, {0, 1, 0}, {1, 1, 1, 1, 1, 1, 1, 1, 1}} {
			checkForm(t, 1, rows(append([]int{n}, behind...)...))
		}
		checkForm(t, 1, rows(0, n))
		checkForm(t, 2, rows(0, 0, n, 0))
		checkForm(t, 2, rows(1, 0, n, 0))
	}
	checkForm(t, 1, rows(32))
	checkForm(t, 1, rows(32, 1))
	checkForm(t, 2, rows(32, 0, 1))
}

func TestP17_1FormOfTxsWithoutPutsAmongOthers(t *testing.T) {
	checkForm(t, 4, rows(0, 0, 32, 0, 1))
	checkForm(t, 5, rows(0, 31, 0, 1, 0, 1))
	checkForm(t, 8, rows(0, 16, 0, 16, 0, 0, 0, 0, 0))
	checkForm(t, 2, rows(0, 16, 17, 0, 0))
}

// Form looks at numbers of Puts alone: not at times, blocks or bytes.
func TestP17_1FormOfWhatCheckRefuses(t *testing.T) {
	for _, time := range []int{math.MinInt, -1, 0, 5, latest + 1, math.MaxInt} {
		one := api.Tx{Time: time, Puts: []api.Put{{LBA: -1}, {LBA: math.MaxInt, Data: []byte{}}, {LBA: -1, Data: make([]byte, 99)}}}
		checkForm(t, 1, []api.Tx{one})
		checkForm(t, 8, slices.Repeat([]api.Tx{one}, 9))
		checkForm(t, 1, []api.Tx{{Time: time, Puts: make([]api.Put, 30)}, one})
	}
	for _, b := range badBatches() {
		checkForm(t, formed(b.Txs), b.Txs)
	}
}

func TestP17_1FormOfAllShortQueues(t *testing.T) {
	counts := []int{0, 1, 2, 15, 16, 17, 31, 32, 33}
	var walk func(row []int)
	walk = func(row []int) {
		queue := rows(row...)
		checkForm(t, formed(queue), queue)
		if len(row) < 4 {
			for _, n := range counts {
				walk(append(slices.Clone(row), n))
			}
		}
	}
	walk(nil)
}

func TestP17_1FormOfThrownQueues(t *testing.T) {
	throw := dice(17)
	hits := map[int]int{}
	for range 20000 {
		var counts []int
		most := []int{2, 5, 7, 17, 40}[throw(5)]
		for range throw(13) {
			counts = append(counts, throw(most))
		}
		queue := rows(counts...)
		want := formed(queue)
		hits[want]++
		checkForm(t, want, queue)
	}
	for n := range mostTxs + 1 {
		if hits[n] < 100 {
			t.Errorf("only %d of the queues form a batch of %d", hits[n], n)
		}
	}
}

// The batch that Form answers may be one by its numbers, and one more would be too many.
func TestP17_1FormIsTheGreatest(t *testing.T) {
	throw := dice(71)
	for range 3000 {
		var queue []api.Tx
		for k := range 1 + throw(12) {
			queue = append(queue, row(k+1, 1+throw(mostOfTx), throw(100)))
		}
		n := Form(queue)
		if code := Check(api.Batch{Num: 1, Txs: queue[:n]}); code != api.OK {
			t.Fatalf("Check of the %d that Form answers = %d", n, code)
		}
		if n < len(queue) {
			checkRefused(t, "one more", api.Batch{Num: 1, Txs: queue[:n+1]})
		}
	}
}

func TestP17_1Blocks(t *testing.T) {
	for _, one := range []struct {
		counts []int
		want   int
	}{
		{nil, 1}, {[]int{}, 1}, {[]int{0}, 1}, {[]int{0, 0, 0}, 1}, {[]int{1}, 2}, {[]int{3, 2}, 6}, {[]int{0, 7, 0}, 8},
		{[]int{16, 16}, 33}, {[]int{16, 16, 1}, 34}, {[]int{40, 1}, 42}, {[]int{300}, 301}, {[]int{1, 1, 1, 1, 1, 1, 1, 1, 1}, 10},
	} {
		for _, num := range []int{math.MinInt, -1, 0, 1, latest, math.MaxInt} {
			for range 2 {
				if got := Blocks(made(num, rows(one.counts...)...)); got != one.want {
					t.Errorf("Blocks of a batch with %v Puts = %d, want %d", one.counts, got, one.want)
				}
			}
		}
	}
	if got := Blocks(api.Batch{Txs: []api.Tx{}}); got != 1 {
		t.Errorf("Blocks of an empty list of Txs = %d", got)
	}
}

func TestP17_1BlocksOfWhatCheckRefuses(t *testing.T) {
	for what, b := range badBatches() {
		want := 1
		for _, one := range b.Txs {
			want += len(one.Puts)
		}
		if got := Blocks(b); got != want {
			t.Errorf("Blocks with %s = %d, want %d", what, got, want)
		}
	}
}

func TestP17_2CheckOfWhatMayBe(t *testing.T) {
	for _, b := range goodBatches() {
		for range 2 {
			if code := Check(b); code != api.OK {
				t.Errorf("Check(%v) = %d", b, code)
			}
		}
	}
}

func TestP17_2CheckOfWhatMayNotBe(t *testing.T) {
	for what, b := range badBatches() {
		checkRefused(t, what, b)
	}
}

func TestP17_2CheckAtEachEdgeOfNumbers(t *testing.T) {
	type edge struct {
		most int
		made func(n int) api.Batch
	}
	ok := tx(5, 9)
	for what, one := range map[string]edge{
		"Num":       {latest, func(n int) api.Batch { return made(n, ok) }},
		"Time":      {latest, func(n int) api.Batch { return made(1, tx(n, 9)) }},
		"last Time": {latest, func(n int) api.Batch { return made(1, tx(n-longGap, 9), tx(n, 9)) }},
		"gap":       {longGap, func(n int) api.Batch { return made(1, ok, tx(5+n, 9)) }},
		"later gap": {longGap, func(n int) api.Batch { return made(1, ok, tx(6, 9), tx(6+n, 9), tx(7+n, 9)) }},
		"Txs":       {mostTxs, func(n int) api.Batch { return made(1, rows(slices.Repeat([]int{1}, n)...)...) }},
		"Puts":      {mostOfTx, func(n int) api.Batch { return made(1, row(1, n, 0), tx(2, 5)) }},
		"last Puts": {mostOfTx, func(n int) api.Batch { return made(1, tx(1, 5), row(2, n, 0)) }},
		"all Puts":  {mostPuts, func(n int) api.Batch { return made(1, row(1, n/2, 0), row(2, n-n/2-1, 0), tx(3, 5)) }},
		"LBA":       {topLBA, func(n int) api.Batch { return made(1, tx(1, n)) }},
		"last LBA":  {topLBA, func(n int) api.Batch { return made(1, ok, tx(6, 0, n)) }},
	} {
		for _, n := range []int{one.most - 1, one.most} {
			if code := Check(one.made(n)); code != api.OK {
				t.Errorf("%s %d: Check = %d", what, n, code)
			}
			checkEncode(t, one.made(n), 3)
		}
		for _, n := range []int{one.most + 1, one.most + 2} {
			checkRefused(t, fmt.Sprint(what, " ", n), one.made(n))
		}
	}
}

// LBAs are asked of each Tx alone: several ones may write the same blocks.
func TestP17_2CheckOfTxsWithTheSameBlocks(t *testing.T) {
	for _, b := range []api.Batch{made(1, tx(1, 5, 6), tx(2, 5, 6)), made(1, tx(1, 5, 6), tx(2, 1), tx(3, 0, topLBA))} {
		checkDecode(t, checkEncode(t, b, 0), b, 0, Blocks(b))
	}
}

func TestP17_2CheckOfThrownBatches(t *testing.T) {
	throw := dice(2)
	hits := map[bool]int{}
	for range 20000 {
		b := thrownBatch(throw)
		for range throw(3) {
			one := &b.Txs[throw(len(b.Txs))]
			switch throw(8) {
			case 0:
				one.Time += throw(5) - 2
			case 1:
				one.Time += throw(2*longGap) - longGap
			case 2:
				one.Puts = one.Puts[:throw(len(one.Puts)+1)]
			case 3:
				one.Puts = append(one.Puts, row(0, throw(12), topLBA-throw(12)).Puts...)
			case 4:
				b.Num = []int{-1, 0, 1, latest, latest + 1}[throw(5)]
			case 5:
				b.Txs = append(b.Txs, tx(b.Txs[len(b.Txs)-1].Time+1+throw(longGap+1), 7))
			case 6:
				if len(one.Puts) > 0 {
					one.Puts[throw(len(one.Puts))].LBA += throw(7) - 3
				}
			case 7:
				if len(one.Puts) > 0 {
					one.Puts[throw(len(one.Puts))].Data = make([]byte, 39+throw(3))
				}
			}
		}
		ok := may(b)
		hits[ok]++
		if !ok {
			checkRefused(t, fmt.Sprint(b), b)
			continue
		}
		epoch := throw(topEpoch + 1)
		checkDecode(t, checkEncode(t, b, epoch), b, epoch, Blocks(b))
	}
	if hits[true] < 4000 || hits[false] < 4000 {
		t.Errorf("the throws are of one side: %v", hits)
	}
}

func TestP17_3EncodeOfOneTxToTheByte(t *testing.T) {
	b := made(3, tx(300, 9))
	l := checkEncode(t, b, 0x04030201)
	want := append([]byte{1, 40, 1, 2, 3, 4, 3, 0, 0, 0, 0, 0, 0, 0, 9, 0, 0, 0}, data(9, 300)...)
	if got := l[0][:58]; len(l) != 2 || !bytes.Equal(got, want) {
		t.Errorf("the Data block of %v begins with % x, want % x", b, got, want)
	}
	want = []byte{2, 12, 1, 2, 3, 4, 3, 0, 0, 0, 0, 0, 0, 0, 1, 0, 0, 0, 0x2c, 1, 0, 0, 0, 0, 0, 0, 1, 0, 0, 1, 0}
	if got := l[1][:31]; !bytes.Equal(got, want) {
		t.Errorf("the Commit block of %v begins with % x, want % x", b, got, want)
	}
}

func TestP17_3EncodeOfGapsToTheByte(t *testing.T) {
	first := 0x0102030405
	b := made(0xa0b0c0d0e0, tx(first, 7), tx(first+1, 1, 2), tx(first+256, 3, 4, 5), tx(first+512, 8), tx(first+512+longGap, 6, 7))
	l, code := Encode(b, 5)
	if code != api.OK || len(l) != 10 {
		t.Fatalf("Encode(%v) = %d blocks, %d", b, len(l), code)
	}
	want := []byte{2, 24, 5, 0, 0, 0, 0xe0, 0xd0, 0xc0, 0xb0, 0xa0, 0, 0, 0, 9, 0, 0, 0}
	want = append(want, 5, 4, 3, 2, 1, 0, 0, 0, 5)
	want = append(want, 0, 0, 1, 0, 255, 0, 0, 1, 255, 255)
	want = append(want, 1, 2, 3, 1, 2, 0)
	if got := l[9][:len(want)]; !bytes.Equal(got, want) {
		t.Errorf("the Commit block begins with % x, want % x", got, want)
	}
	k := 0
	for _, one := range b.Txs {
		for _, p := range one.Puts {
			if want := raw(kindData, 5, b.Num, p.LBA, p.Data...); !bytes.Equal(l[k], want) {
				t.Errorf("block %d is % x, want % x", k, l[k], want)
			}
			k++
		}
	}
}

func TestP17_3EncodeOfWhatMayBe(t *testing.T) {
	for _, b := range goodBatches() {
		for _, epoch := range []int{0, 1, 255, 256, 1 << 31, topEpoch - 1, topEpoch} {
			checkDecode(t, checkEncode(t, b, epoch), b, epoch, Blocks(b))
		}
	}
}

func TestP17_3EncodeOfEpochsThatMayNotBe(t *testing.T) {
	for _, b := range goodBatches() {
		for _, epoch := range []int{math.MinInt, -1 << 40, -1 << 32, -5, -1, topEpoch + 1, topEpoch + 2, 1 << 33, 1 << 40, math.MaxInt} {
			if l, code := Encode(b, epoch); code != errArg || len(l) != 0 {
				t.Fatalf("Encode of epoch %d = %d blocks, %d, want none, %d", epoch, len(l), code, errArg)
			}
		}
	}
}

func TestP17_3DecodeOfNoBlock(t *testing.T) {
	checkNoDecode(t, "no block", errNone)
	checkNoDecode(t, "an empty list", errNone, [][]byte{}...)
}

func TestP17_3DecodeOfEachBeginning(t *testing.T) {
	for _, b := range goodBatches() {
		l := byHand(b, 7)
		for n := range l {
			checkNoDecode(t, fmt.Sprintf("%d of %d blocks", n, len(l)), errNone, l[:n]...)
		}
	}
}

// Without a Commit block, whatever the Data blocks are, there is no batch; it is none that is bad either.
func TestP17_3DecodeOfDataBlocksAlone(t *testing.T) {
	for _, one := range [][]byte{
		raw(kindData, 0, 0, 5), raw(kindData, 0, 1, 5), raw(kindData, topEpoch, latest, topLBA, make([]byte, 39)...), raw(kindData, 0, 1, 5, make([]byte, 40)...),
	} {
		for _, n := range []int{1, 2, 32, 33, 40, 300} {
			checkNoDecode(t, fmt.Sprint(n, " Data blocks"), errNone, slices.Repeat([][]byte{one}, n)...)
		}
	}
	falling := [][]byte{raw(kindData, 0, 1, 5, 1), raw(kindData, 0, 1, 3), raw(kindData, 0, 1, 3, 2, 2)}
	checkNoDecode(t, "Data blocks of falling LBAs", errNone, falling...)
}

func TestP17_3DecodeOfDataBlocksThatDiffer(t *testing.T) {
	one := raw(kindData, 4, 6, 5, make([]byte, 40)...)
	end := raw(kindEnd, 4, 6, 2, endBody(9, 1, []int{0}, []int{2})...)
	for _, other := range [][]byte{
		raw(kindData, 5, 6, 7, make([]byte, 40)...), raw(kindData, 4, 7, 7, make([]byte, 40)...), raw(kindData, 3, 5, 7, make([]byte, 40)...),
		raw(kindData, 0, 6, 7, make([]byte, 40)...), raw(kindData, 4, 0, 7, make([]byte, 40)...),
	} {
		checkNoDecode(t, "a second one that differs", errBad, one, other)
		checkNoDecode(t, "a second one that differs and an end", errBad, one, other, end)
		checkNoDecode(t, "a first one that differs and an end", errBad, other, one, end)
		checkNoDecode(t, "a last one of many that differs", errBad, append(slices.Repeat([][]byte{one}, 40), other)...)
		checkNoDecode(t, "one of the middle that differs", errBad, one, other, one)
	}
	b := made(6, tx(9, 5, 7))
	two := byHand(b, 4)
	checkDecode(t, two, b, 4, 3)
	for _, epoch := range []int{0, 3, 5, topEpoch} {
		checkNoDecode(t, "an end of another Epoch", errBad, two[0], two[1], raw(kindEnd, epoch, 6, 2, bodyOf(b)...))
	}
	for _, num := range []int{0, 5, 7, latest} {
		checkNoDecode(t, "an end of another Seq", errBad, two[0], two[1], raw(kindEnd, 4, num, 2, bodyOf(b)...))
	}
}

func TestP17_3DecodeOfAnotherFirstBlock(t *testing.T) {
	b := made(6, tx(9, 5, 7))
	l := byHand(b, 4)
	end := raw(kindEnd, 4, 6, 0, endBody(9, 0, nil, nil)...)
	checkNoDecode(t, "an end of no Tx", errBad, end)
	checkNoDecode(t, "an end without a Body", errBad, raw(kindEnd, 4, 6, 0))
	checkNoDecode(t, "an end of a Tx without Puts", errBad, raw(kindEnd, 4, 6, 0, endBody(9, 1, []int{0}, []int{0})...))
	checkNoDecode(t, "the end first", errBad, l[2], l[0], l[1], l[2])
	checkNoDecode(t, "the end alone", errBad, l[2])
	for _, first := range [][]byte{
		nil, {}, {1}, make([]byte, 64), bytes.Repeat([]byte{255}, 64), l[0][:63], append(slices.Clone(l[0]), 0), raw(3, 4, 6, 5, data(5, 9)...),
		raw(4, 4, 6, 5, data(5, 9)...), raw(0, 4, 6, 5, data(5, 9)...), raw(5, 4, 6, 5, data(5, 9)...), raw(3, 4, 6, 0), raw(4, 0, 0, 0),
	} {
		checkNoDecode(t, fmt.Sprintf("% x alone", first), errBad, first)
		checkNoDecode(t, fmt.Sprintf("% x first", first), errBad, first, l[0], l[1], l[2])
		checkNoDecode(t, fmt.Sprintf("% x for the first", first), errBad, first, l[1], l[2])
		checkNoDecode(t, fmt.Sprintf("% x for the second", first), errBad, l[0], first, l[2])
		checkNoDecode(t, fmt.Sprintf("% x for the last", first), errBad, l[0], l[1], first)
		checkNoDecode(t, fmt.Sprintf("% x behind 40", first), errBad, append(slices.Repeat(l[:1], 40), first)...)
		checkDecode(t, append(slices.Clone(l), first), b, 4, 3)
	}
}

func TestP17_3DecodeOfCommitBlocksThatDoNotFit(t *testing.T) {
	body := make([]byte, 40)
	one, two := raw(kindData, 4, 6, 5, body...), raw(kindData, 4, 6, 7, body...)
	end := func(lba int, first uint64, count int, gaps, puts []int, more ...byte) []byte {
		return raw(kindEnd, 4, 6, lba, append(endBody(first, count, gaps, puts), more...)...)
	}
	bad := func(what string, last []byte) {
		t.Helper()
		checkNoDecode(t, what, errBad, one, two, last)
		checkNoDecode(t, what+" and more behind it", errBad, one, two, last, one, two, end(2, 9, 1, []int{0}, []int{2}))
	}
	zeros, each := []int{0, 1}, []int{1, 1}
	if b, _, n, code := Decode([][]byte{one, two, end(2, 9, 2, zeros, each)}); code != api.OK || n != 3 || len(b.Txs) != 2 {
		t.Fatalf("Decode of what is fine = %v, %d, %d", b, n, code)
	}
	for _, lba := range []int{0, 1, 3, 256 + 2, 1 << 16, 1<<16 + 2, topLBA} {
		bad(fmt.Sprint("LBA ", lba), end(lba, 9, 2, zeros, each))
	}
	for _, count := range []int{0, 1, 3, 8, 255} {
		bad(fmt.Sprint(count, " Txs of two"), end(2, 9, count, zeros, each))
	}
	bad("one Put that is nobody's", end(2, 9, 1, []int{0}, []int{1}))
	checkNoDecode(t, "a last Put that is nobody's", errBad, one, two, one, end(3, 9, 2, zeros, each))
	checkNoDecode(t, "a first block that is nobody's", errBad, one, two, one, end(3, 9, 1, []int{0}, []int{2}))
	bad("one byte less", end(2, 9, 2, zeros, []int{2}))
	bad("one byte more", end(2, 9, 2, zeros, each, 0))
	bad("three bytes more", end(2, 9, 2, zeros, each, 1, 0, 1))
	bad("all bytes", end(2, 9, 2, zeros, each, make([]byte, 25)...))
	for n := range 15 {
		bad(fmt.Sprint(n, " bytes of the Body"), raw(kindEnd, 4, 6, 2, endBody(9, 2, zeros, each)[:n]...))
	}
	for _, first := range []uint64{0, latest, latest + 1, 1 << 63, 1<<63 - 1, 1<<63 + 9, 1<<64 - 1, 1<<64 - 2} {
		bad(fmt.Sprint("a first Time of ", first), end(2, first, 2, zeros, each))
	}
	for _, gaps := range [][]int{{0, 0}, {1, 1}, {1, 0}, {256, 1}, {longGap, 1}, {longGap, longGap}} {
		bad(fmt.Sprint("gaps of ", gaps), end(2, 9, 2, gaps, each))
	}
	for _, puts := range [][]int{{0, 0}, {0, 2}, {2, 0}, {1, 0}, {0, 1}, {1, 2}, {2, 1}, {2, 2}, {3, 0}, {3, 255}, {255, 3}, {255, 255}, {1, 255}} {
		bad(fmt.Sprint("numbers of Puts ", puts), end(2, 9, 2, zeros, puts))
	}
}

// Blocks that are fine one by one, of batches that Check refuses.
func TestP17_3DecodeOfBatchesThatMayNotBe(t *testing.T) {
	for what, b := range badBatches() {
		fits := len(b.Txs) > 0 && b.Num >= 0 && b.Num <= latest
		n := 0
		for k, one := range b.Txs {
			gap := one.Time - b.Txs[max(k, 1)-1].Time
			fits = fits && 0 <= gap && gap <= longGap && len(one.Puts) <= 255
			n += len(one.Puts)
			for _, p := range one.Puts {
				fits = fits && 0 <= p.LBA && p.LBA <= topLBA && len(p.Data) <= 40
			}
		}
		if fits {
			checkNoDecode(t, what, errBad, byHand(b, 7)...)
		}
	}
	ten := made(1, rows(1, 1, 1, 1, 1, 1, 1, 1, 1, 1)...)
	checkNoDecode(t, "ten Txs", errBad, byHand(ten, 7)...)
	checkNoDecode(t, "a Num of 0", errBad, byHand(made(0, tx(1, 5)), 7)...)
	for _, n := range []int{0, 1, 39} {
		short := made(1, api.Tx{Time: 1, Puts: []api.Put{{LBA: 5, Data: make([]byte, n)}}})
		checkNoDecode(t, fmt.Sprint("Data of ", n), errBad, byHand(short, 7)...)
	}
}

func TestP17_3DecodeOfOneBitTurned(t *testing.T) {
	b := made(3, tx(300, 9), tx(301, 5, 6))
	l := byHand(b, 0x01020304)
	for k := range l {
		for bit := range 8 * blockSize {
			turned := copyBlocks(l)
			turned[k][bit/8] ^= 1 << (bit % 8)
			checkNoDecode(t, fmt.Sprintf("bit %d of block %d turned", bit, k), errBad, turned...)
		}
	}
}

// The same bits, but under check sums that fit: either it is refused, or it is the encoding of what is answered.
func TestP17_3DecodeOfOneBitTurnedUnderASum(t *testing.T) {
	hits := map[api.Errno]int{}
	for _, b := range []api.Batch{made(3, tx(300, 9), tx(301, 5, 6)), made(1, tx(1, 5)), made(4, tx(latest, 1, 3))} {
		l := byHand(b, 0x01020304)
		for k := range l {
			for bit := range 8 * 60 {
				turned := copyBlocks(l)
				turned[k][bit/8] ^= 1 << (bit % 8)
				seal(turned[k])
				got, epoch, n, code := Decode(turned)
				hits[code]++
				switch {
				case code == api.OK && (n != len(l) || !may(got) || !sameBlocks(turned, byHand(got, epoch))):
					t.Fatalf("Decode with bit %d of block %d turned = %v", bit, k, got)
				case code != api.OK && (!zero(got) || epoch != 0 || n != 0):
					t.Fatalf("beside error %d: %v, %d, %d", code, got, epoch, n)
				}
			}
		}
	}
	if hits[api.OK] < 1000 || hits[errBad] < 1000 {
		t.Errorf("the bits are of one side: %v", hits)
	}
}

func TestP17_4DecodeWhateverFollows(t *testing.T) {
	l := goodBatches()
	for _, b := range l {
		own := byHand(b, 7)
		for _, behind := range [][][]byte{
			{nil}, {{}}, {make([]byte, 64)}, {{1, 2, 3}}, {own[0]}, {own[len(own)-1]}, own, byHand(l[2], 7), byHand(l[2], 8), {nil, nil, own[0], make([]byte, 65)},
			{raw(3, 7, b.Num, 0)}, {raw(4, 7, b.Num, 0)},
		} {
			checkDecode(t, append(copyBlocks(own), behind...), b, 7, len(own))
		}
	}
}

// Batch behind batch: each one begins where the one before it ends.
func TestP17_4DecodeOfABatchBehindAnother(t *testing.T) {
	var l [][]byte
	for k, b := range goodBatches() {
		l = append(l, byHand(b, k)...)
	}
	for k, b := range goodBatches() {
		got, epoch, n, code := Decode(l)
		if code != api.OK || !same(got, b) || epoch != k || n != Blocks(b) {
			t.Fatalf("Decode of batch %d = %v, %d, %d, %d, want %v", k, got, epoch, n, code, b)
		}
		l = l[n:]
	}
	checkNoDecode(t, "nothing left", errNone, l...)
}

func TestP17_4DecodeOfEachPart(t *testing.T) {
	throw := dice(9)
	for _, b := range append(goodBatches(), thrownBatch(throw), thrownBatch(throw), thrownBatch(throw)) {
		l := byHand(b, 7)
		for from := range l {
			for to := from; to <= len(l); to++ {
				switch {
				case from == 0 && to == len(l):
				case to == len(l):
					checkNoDecode(t, fmt.Sprintf("blocks %d to %d", from, to), errBad, l[from:to]...)
				default:
					checkNoDecode(t, fmt.Sprintf("blocks %d to %d", from, to), errNone, l[from:to]...)
				}
			}
		}
		for out := range l[:len(l)-1] {
			checkNoDecode(t, fmt.Sprintf("no block %d", out), errBad, slices.Delete(copyBlocks(l), out, out+1)...)
			checkNoDecode(t, fmt.Sprintf("block %d twice", out), errBad, slices.Insert(copyBlocks(l), out, l[out])...)
		}
	}
}

func TestP17_4ThrownBatchesComeBack(t *testing.T) {
	throw := dice(4)
	sizes := map[int]int{}
	for range 5000 {
		b, epoch := thrownBatch(throw), throw(topEpoch+1)>>throw(33)
		sizes[len(b.Txs)]++
		l, code := Encode(b, epoch)
		if code != api.OK || len(l) != Blocks(b) {
			t.Fatalf("Encode(%v) = %d blocks, %d", b, len(l), code)
		}
		checkDecode(t, append(l, make([]byte, throw(70))), b, epoch, Blocks(b))
	}
	for n := 1; n <= mostTxs; n++ {
		if sizes[n] < 50 {
			t.Errorf("only %d of the throws have %d Txs", sizes[n], n)
		}
	}
}

// spare is a batch whose lists have more room, with something in it.
func spare(b api.Batch) api.Batch {
	fill := bytes.Repeat([]byte{0xee}, 90)
	b = copyOf(b)
	for k := range b.Txs {
		for i, p := range b.Txs[k].Puts {
			b.Txs[k].Puts[i].Data = append(slices.Clone(p.Data), fill...)[:len(p.Data)]
		}
		n := len(b.Txs[k].Puts)
		b.Txs[k].Puts = append(b.Txs[k].Puts, api.Put{LBA: 77, Data: fill}, api.Put{LBA: 78})[:n]
	}
	n := len(b.Txs)
	b.Txs = append(b.Txs, tx(99, 5), tx(98))[:n]
	return b
}

// all is what a batch has, its room too.
func all(b api.Batch) string {
	s := fmt.Sprint(b.Num)
	for _, t := range b.Txs[:cap(b.Txs)] {
		s += fmt.Sprint(" tx ", t.Time)
		for _, p := range t.Puts[:cap(t.Puts)] {
			s += fmt.Sprint(" put ", p.LBA, p.Data[:cap(p.Data)])
		}
	}
	return s
}

func TestP17_4BatchesThatAreHandedInStay(t *testing.T) {
	l := goodBatches()
	for _, b := range badBatches() {
		l = append(l, b)
	}
	for _, b := range l {
		b = spare(b)
		before := all(b)
		Form(b.Txs)
		Check(b)
		Blocks(b)
		Encode(b, 7)
		Encode(b, -1)
		if all(b) != before {
			t.Fatalf("the batch turned from %s to %s", before, all(b))
		}
	}
}

func TestP17_4BlocksThatAreHandedInStay(t *testing.T) {
	for _, b := range goodBatches() {
		l := byHand(b, 7)
		for _, n := range []int{0, 1, len(l) - 1, len(l)} {
			room := copyBlocks(l)
			for i := range room {
				room[i] = append(room[i], 1, 2, 3)[:blockSize]
			}
			before := copyBlocks(room)
			Decode(room[:n])
			for i := range room {
				if !bytes.Equal(room[i], before[i]) || !bytes.Equal(room[i][blockSize:blockSize+3], []byte{1, 2, 3}) {
					t.Fatalf("block %d turned", i)
				}
			}
		}
	}
}

func TestP17_4NothingIsKept(t *testing.T) {
	for _, b := range goodBatches() {
		mine, want := copyOf(b), byHand(b, 7)
		l, _ := Encode(mine, 7)
		for k := range mine.Txs {
			for i := range mine.Txs[k].Puts {
				clear(mine.Txs[k].Puts[i].Data)
				mine.Txs[k].Puts[i] = api.Put{}
			}
			mine.Txs[k] = api.Tx{}
		}
		if !sameBlocks(l, want) {
			t.Fatal("what Encode answered turns with the batch")
		}
		got, _, _, _ := Decode(l)
		for i := range l {
			clear(l[i])
			l[i] = nil
		}
		if !same(got, b) {
			t.Fatal("what Decode answered turns with the blocks")
		}
		checkEncode(t, b, 7)
		checkDecode(t, want, b, 7, len(want))
	}
}

func TestP17_4AnswersAreNew(t *testing.T) {
	for _, b := range goodBatches() {
		want := byHand(b, 7)
		one, _ := Encode(b, 7)
		two, _ := Encode(b, 7)
		for i := range one {
			clear(one[i][:cap(one[i])])
			one[i] = nil
			if !sameBlocks(two, want) {
				t.Fatal("blocks of two answers are one")
			}
		}
		first, _, _, _ := Decode(want)
		second, _, _, _ := Decode(want)
		for k := range first.Txs {
			for i := range first.Txs[k].Puts {
				clear(first.Txs[k].Puts[i].Data)
			}
			clear(first.Txs[k].Puts)
		}
		clear(first.Txs)
		if !same(second, b) {
			t.Fatal("batches of two answers are one")
		}
		checkDecode(t, want, b, 7, len(want))
	}
}

// What is laid behind a list of an answer must not turn another list of it.
func TestP17_4ListsOfAnAnswerStandApart(t *testing.T) {
	for _, b := range goodBatches() {
		got, _, _, _ := Decode(byHand(b, 7))
		for k := range got.Txs {
			_ = append(got.Txs[k].Puts, slices.Repeat([]api.Put{{LBA: -7}}, 40)...)
			for i := range got.Txs[k].Puts {
				_ = append(got.Txs[k].Puts[i].Data, bytes.Repeat([]byte{0xee}, 99)...)
				room := got.Txs[k].Puts[i].Data
				clear(room[len(room):cap(room)])
			}
			for i := range cap(got.Txs[k].Puts) - len(got.Txs[k].Puts) {
				got.Txs[k].Puts[:cap(got.Txs[k].Puts)][len(got.Txs[k].Puts)+i] = api.Put{LBA: -9}
			}
		}
		if !same(got, b) {
			t.Fatal("two lists of one answer share memory")
		}
		l, _ := Encode(b, 7)
		for i := range l {
			_ = append(l[i], bytes.Repeat([]byte{0xee}, 99)...)
			for k := len(l[i]); k < cap(l[i]); k++ {
				l[i][:cap(l[i])][k] = 0xee
			}
		}
		if !sameBlocks(l, byHand(b, 7)) {
			t.Fatal("two blocks of one answer share memory")
		}
	}
}

// Txs and Puts may be one list in several places, and blocks too.
func TestP17_4SharedListsAreTakenAsTheyStand(t *testing.T) {
	puts := tx(1, 5, 6).Puts
	b := made(1, api.Tx{Time: 1, Puts: puts}, api.Tx{Time: 2, Puts: puts}, api.Tx{Time: 9, Puts: puts[1:]})
	l := checkEncode(t, b, 1)
	got, _, _, _ := Decode(l)
	got.Txs[0].Puts[0].Data[0]++
	if got.Txs[1].Puts[0].Data[0] == got.Txs[0].Puts[0].Data[0] {
		t.Error("the Data of two Puts is one list")
	}
	p := l[0]
	twice := [][]byte{p, p, raw(kindEnd, 1, 1, 2, endBody(1, 2, []int{0, 1}, []int{1, 1})...)}
	got, _, _, code := Decode(twice)
	if code != api.OK {
		t.Fatalf("Decode of one block twice = %d", code)
	}
	got.Txs[0].Puts[0].Data[0]++
	if got.Txs[1].Puts[0].Data[0] == got.Txs[0].Puts[0].Data[0] {
		t.Error("the Data of one block twice is one list")
	}
}

// Every nil in every place is an empty list.
func TestP17_4NilAndEmptyAreOne(t *testing.T) {
	if Form(nil) != Form([]api.Tx{}) || Blocks(api.Batch{}) != Blocks(api.Batch{Txs: []api.Tx{}}) {
		t.Error("no Txs are not an empty list of them")
	}
	for _, data := range [][]byte{nil, {}} {
		for _, puts := range [][]api.Put{nil, {}, {{LBA: 5, Data: data}}} {
			for _, b := range []api.Batch{made(1, api.Tx{Time: 1, Puts: puts}), made(1, tx(1, 5), api.Tx{Time: 2, Puts: puts})} {
				checkRefused(t, fmt.Sprint(b), b)
				if got, want := Blocks(b), 1+len(b.Txs)-1+len(puts); got != want {
					t.Errorf("Blocks(%v) = %d, want %d", b, got, want)
				}
				checkForm(t, len(b.Txs), b.Txs)
			}
		}
		checkNoDecode(t, "an empty block", errBad, data)
		checkNoDecode(t, "an empty block behind one", errBad, raw(kindData, 0, 1, 5), data)
	}
}
