package frame

import (
	"bytes"
	"encoding/binary"
	"hash/crc32"
	"math"
	"slices"
	"testing"

	"scarp/api"
)

// dice answers numbers, the same ones at each run.
func dice(seed uint64) func() uint64 {
	state := seed
	return func() uint64 {
		state = state*6364136223846793005 + 1442695040888963407
		return state>>32 ^ state<<31
	}
}

func throwBytes(throw func() uint64, n int) []byte {
	b := make([]byte, n)
	for i := range b {
		b[i] = byte(throw() >> 20)
	}
	return b
}

func rising(n int) []byte {
	b := make([]byte, n)
	for i := range b {
		b[i] = byte(i + 1)
	}
	return b
}

// The chapter's limits, in numbers of their own.
const (
	topEpoch = 4294967295
	topSeq   = 1099511627776
	topLBA   = 1048576
	topBody  = 40
	size     = 64
	sumFrom  = 60
)

// byTable lays the bytes one by one as the chapter's table tells, with a check sum of another hand.
func byTable(b Block) []byte {
	p := make([]byte, size)
	p[0] = byte(b.Kind)
	p[1] = byte(len(b.Body))
	for i := range 4 {
		p[2+i] = byte(b.Epoch >> (8 * i))
		p[14+i] = byte(b.LBA >> (8 * i))
	}
	for i := range 8 {
		p[6+i] = byte(b.Seq >> (8 * i))
	}
	for i, c := range b.Body {
		p[18+i] = c
	}
	seal(p)
	return p
}

// seal writes the check sum that the bytes before it ask for, whatever they are.
func seal(p []byte) {
	sum := crc32.Checksum(p[:sumFrom], crc32.MakeTable(crc32.Castagnoli))
	binary.LittleEndian.PutUint32(p[sumFrom:], sum)
}

func same(a, b Block) bool {
	return a.Kind == b.Kind && a.Epoch == b.Epoch && a.Seq == b.Seq && a.LBA == b.LBA && bytes.Equal(a.Body, b.Body)
}

func isZero(b Block) bool {
	return b.Kind == 0 && b.Epoch == 0 && b.Seq == 0 && b.LBA == 0 && len(b.Body) == 0
}

// edgeBlocks are all blocks whose fields stand at their edges, and some between them.
func edgeBlocks() []Block {
	var all []Block
	for _, kind := range []int{Data, Commit, Head, Mark} {
		for _, epoch := range []int{0, 1, 255, 256, 1 << 31, topEpoch} {
			for _, seq := range []int{0, 1, 1<<32 - 1, 1 << 32, topSeq - 1, topSeq} {
				for _, lba := range []int{0, 1, 65536, topLBA - 1, topLBA} {
					for _, n := range []int{0, 1, 39, topBody} {
						all = append(all, Block{kind, epoch, seq, lba, rising(n)})
					}
				}
			}
		}
	}
	return all
}

// fewBlocks are some that differ in every field.
func fewBlocks() []Block {
	return []Block{
		{Kind: Data},
		{Kind: Mark},
		{Kind: Data, Body: rising(topBody)},
		{Kind: Commit, Epoch: 7, Seq: 9, LBA: 11, Body: []byte{0}},
		{Kind: Commit, Epoch: topEpoch, Seq: topSeq, LBA: topLBA, Body: bytes.Repeat([]byte{255}, topBody)},
		{Kind: Head, Epoch: 0x04030201, Seq: 0x0a09080706, LBA: 0x0c0b0a, Body: []byte("xy")},
		{Kind: Head, Epoch: 0x04030201, Seq: 0xa09080706, LBA: 0xc0b0a, Body: make([]byte, 39)},
		{Kind: Mark, Seq: 1 << 39, Body: rising(20)},
	}
}

// thrownBlock is one that may be.
func thrownBlock(throw func() uint64) Block {
	return Block{
		Kind:  int(throw()%4) + 1,
		Epoch: int(throw() % (topEpoch + 1) >> (throw() % 33)),
		Seq:   int(throw() % (topSeq + 1) >> (throw() % 41)),
		LBA:   int(throw() % (topLBA + 1) >> (throw() % 21)),
		Body:  throwBytes(throw, int(throw()%(topBody+1))),
	}
}

func mustEncode(t *testing.T, b Block) []byte {
	t.Helper()
	p, code := Encode(b)
	if code != api.OK {
		t.Fatalf("Encode(%v) is refused by %d", b, code)
	}
	return p
}

func checkEncode(t *testing.T, b Block) {
	t.Helper()
	if p := mustEncode(t, b); !bytes.Equal(p, byTable(b)) {
		t.Fatalf("Encode(%v) =\n% x, want\n% x", b, p, byTable(b))
	}
}

func checkNoEncode(t *testing.T, b Block, want api.Errno) {
	t.Helper()
	if p, code := Encode(b); code != want || len(p) != 0 {
		t.Fatalf("Encode(%v) = % x, %d, want none, %d", b, p, code, want)
	}
}

func checkDecode(t *testing.T, p []byte, want Block) {
	t.Helper()
	if b, code := Decode(p); code != api.OK || !same(b, want) {
		t.Fatalf("Decode(% x) = %v, %d, want %v, 0", p, b, code, want)
	}
}

func checkNoDecode(t *testing.T, p []byte, want api.Errno) {
	t.Helper()
	if b, code := Decode(p); code != want || !isZero(b) {
		t.Fatalf("Decode(%d bytes % x) = %v, %d, want the zero Block, %d", len(p), p[:min(len(p), 80)], b, code, want)
	}
}

func TestP8_1Kinds(t *testing.T) {
	if Data != 1 || Commit != 2 || Head != 3 || Mark != 4 {
		t.Error("the kinds are not those of the chapter")
	}
}

func TestP8_1EncodeExample(t *testing.T) {
	p := mustEncode(t, Block{Kind: Mark})
	if !bytes.HasPrefix(p, []byte{4, 0, 0}) || len(p) != size {
		t.Errorf("% x", p)
	}
	if !bytes.Equal(p[3:sumFrom], make([]byte, sumFrom-3)) {
		t.Errorf("a block of a kind only has other bytes: % x", p)
	}
}

// Every byte of every field has a number of its own here, so that each is seen at its offset.
func TestP8_1EncodeOffsets(t *testing.T) {
	b := Block{Kind: Head, Epoch: 0xa4a3a2a1, Seq: 0xb5b4b3b2b1, LBA: 0x0cc2c1, Body: rising(topBody)}
	p := mustEncode(t, b)
	want := append([]byte{
		3, 40,
		0xa1, 0xa2, 0xa3, 0xa4,
		0xb1, 0xb2, 0xb3, 0xb4, 0xb5, 0, 0, 0,
		0xc1, 0xc2, 0x0c, 0,
	}, rising(topBody)...)
	want = append(want, 0, 0)
	sum := crc32.Checksum(want, crc32.MakeTable(crc32.Castagnoli))
	want = append(want, byte(sum), byte(sum>>8), byte(sum>>16), byte(sum>>24))
	if !bytes.Equal(p, want) {
		t.Errorf("\n% x, want\n% x", p, want)
	}
	checkDecode(t, want, b)
}

func TestP8_1EncodeAtEdges(t *testing.T) {
	for _, b := range edgeBlocks() {
		checkEncode(t, b)
	}
}

// Each bit of each number by itself, and each length of Body, of bytes that are not 0 and of zeros.
func TestP8_1EncodeEachField(t *testing.T) {
	for k := range 32 {
		checkEncode(t, Block{Kind: Data, Epoch: 1 << k})
	}
	for k := range 41 {
		checkEncode(t, Block{Kind: Data, Seq: 1 << k})
	}
	for k := range 21 {
		checkEncode(t, Block{Kind: Data, LBA: 1 << k})
	}
	for n := range topBody + 1 {
		checkEncode(t, Block{Kind: Data, Body: rising(n)})
		checkEncode(t, Block{Kind: Data, Body: make([]byte, n)})
		checkEncode(t, Block{Kind: Data, Body: rising(60)[:n]}) // what stands behind is no part of it
	}
}

func TestP8_1EncodeThrown(t *testing.T) {
	throw := dice(8)
	for range 5000 {
		checkEncode(t, thrownBlock(throw))
	}
}

// wrongs turns one field of a block into what may not be, each in its way.
func wrongs() (args, lens []func(*Block)) {
	for _, v := range []int{0, 5, -1, -4, 6, 255, 256, 257, 1 << 32, 1<<32 + 1, math.MaxInt, math.MinInt, math.MinInt + 1} {
		args = append(args, func(b *Block) { b.Kind = v })
	}
	for _, v := range []int{-1, topEpoch + 1, topEpoch + 2, -topEpoch, 1 << 33, math.MaxInt, math.MinInt} {
		args = append(args, func(b *Block) { b.Epoch = v })
	}
	for _, v := range []int{-1, topSeq + 1, -topSeq, 1 << 41, math.MaxInt, math.MinInt} {
		args = append(args, func(b *Block) { b.Seq = v })
	}
	for _, v := range []int{-1, topLBA + 1, -topLBA, 1 << 21, 1 << 32, 1<<32 + 1, math.MaxInt, math.MinInt} {
		args = append(args, func(b *Block) { b.LBA = v })
	}
	for _, n := range []int{41, 42, 64, 255, 256, 257, 296, 1 << 16, 1<<16 + 1} {
		lens = append(lens, func(b *Block) { b.Body = make([]byte, n) })
	}
	return args, lens
}

func TestP8_1EncodeRefuses(t *testing.T) {
	args, lens := wrongs()
	for _, b := range fewBlocks() {
		for _, turn := range args {
			x := b
			turn(&x)
			checkNoEncode(t, x, api.ErrArg)
		}
		for _, turn := range lens {
			x := b
			turn(&x)
			checkNoEncode(t, x, api.ErrLen)
		}
	}
}

// Of two that may not be at once, a number goes ahead of a length.
func TestP8_1EncodeRefusesFirst(t *testing.T) {
	args, lens := wrongs()
	b := Block{Kind: Head, Epoch: 3, Seq: 4, LBA: 5, Body: []byte{6}}
	for _, turn := range args {
		for _, other := range append(slices.Clone(lens), args...) {
			x := b
			other(&x)
			turn(&x)
			checkNoEncode(t, x, api.ErrArg)
		}
	}
	checkNoEncode(t, Block{}, api.ErrArg)
	checkNoEncode(t, Block{Body: make([]byte, 41)}, api.ErrArg)
	checkNoEncode(t, Block{Kind: -1, Epoch: -1, Seq: -1, LBA: -1, Body: make([]byte, 41)}, api.ErrArg)
}

func TestP8_1DecodeExamples(t *testing.T) {
	checkNoDecode(t, make([]byte, 64), api.ErrBad)
	checkNoDecode(t, make([]byte, 63), api.ErrLen)
}

func TestP8_1DecodeAtEdges(t *testing.T) {
	for _, b := range edgeBlocks() {
		checkDecode(t, byTable(b), b)
	}
}

func TestP8_1DecodeLengths(t *testing.T) {
	checkNoDecode(t, nil, api.ErrLen)
	for _, b := range fewBlocks() {
		p := append(byTable(b), byTable(b)...)
		for n := range size {
			checkNoDecode(t, p[:n], api.ErrLen)
			checkNoDecode(t, p[size-n:size], api.ErrLen)
		}
		checkDecode(t, p[:size], b)
		for n := size + 1; n <= len(p); n++ {
			checkNoDecode(t, p[:n], api.ErrLen)
		}
		checkNoDecode(t, append(make([]byte, 1<<16), p...), api.ErrLen)
		checkNoDecode(t, append(byTable(b), make([]byte, 1<<16)...), api.ErrLen)
	}
	checkNoDecode(t, make([]byte, size-1), api.ErrLen)
	checkNoDecode(t, make([]byte, size+1), api.ErrLen)
}

// A kind that is none, beneath a check sum that is right.
func TestP8_1DecodeNoKind(t *testing.T) {
	for _, b := range fewBlocks() {
		for kind := range 256 {
			p := byTable(b)
			p[0] = byte(kind)
			seal(p)
			if kind < 1 || kind > 4 {
				checkNoDecode(t, p, api.ErrBad)
				continue
			}
			want := b
			want.Kind = kind
			checkDecode(t, p, want)
		}
	}
}

// A length of Body above 40, and one beneath which bytes of the Body fall behind it.
func TestP8_1DecodeNoBody(t *testing.T) {
	for _, full := range [][]byte{make([]byte, topBody), rising(topBody), bytes.Repeat([]byte{255}, topBody)} {
		for n := range 256 {
			p := byTable(Block{Kind: Data, LBA: 3, Body: full})
			p[1] = byte(n)
			seal(p)
			if n > topBody || n < topBody && full[n] != 0 {
				checkNoDecode(t, p, api.ErrBad)
				continue
			}
			checkDecode(t, p, Block{Kind: Data, LBA: 3, Body: full[:n]})
		}
	}
}

// A byte that is not 0 behind the Body, for each length of it.
func TestP8_1DecodeNoZeros(t *testing.T) {
	for n := range topBody + 1 {
		b := Block{Kind: Commit, Epoch: 1, Seq: 2, LBA: 3, Body: rising(n)}
		for at := 18 + n; at < sumFrom; at++ {
			for k := range 8 {
				p := byTable(b)
				p[at] = 1 << k
				seal(p)
				checkNoDecode(t, p, api.ErrBad)
			}
		}
		p := byTable(b)
		p[58], p[59] = 1, 255 // two that would even each other out in a sum of bytes
		seal(p)
		checkNoDecode(t, p, api.ErrBad)
	}
}

// A Seq or an LBA that is too great, beneath a check sum that is right; every Epoch may be.
func TestP8_1DecodeNoNumber(t *testing.T) {
	seqs := []uint64{topSeq + 1, topSeq + 2, 2 * topSeq, 1<<63 - 1, 1 << 63, 1<<63 + 1, 1<<64 - 1, 1<<64 - topSeq}
	for k := 41; k < 64; k++ {
		seqs = append(seqs, 1<<k, 1<<k+1)
	}
	lbas := []uint32{topLBA + 1, topLBA + 2, 2 * topLBA, 1<<31 - 1, 1 << 31, 1<<31 + 1, 1<<32 - 1, 1<<32 - topLBA}
	for k := 21; k < 32; k++ {
		lbas = append(lbas, 1<<k, 1<<k+1)
	}
	for _, b := range fewBlocks() {
		for _, seq := range seqs {
			p := byTable(b)
			binary.LittleEndian.PutUint64(p[6:], seq)
			seal(p)
			checkNoDecode(t, p, api.ErrBad)
		}
		for _, lba := range lbas {
			p := byTable(b)
			binary.LittleEndian.PutUint32(p[14:], lba)
			seal(p)
			checkNoDecode(t, p, api.ErrBad)
		}
		for k := range 32 {
			want := b
			want.Epoch = 1 << k
			checkDecode(t, byTable(want), want)
		}
	}
}

// A check sum that is another one than that of the bytes before it.
func TestP8_1DecodeNoSum(t *testing.T) {
	for _, b := range fewBlocks() {
		right := binary.LittleEndian.Uint32(byTable(b)[sumFrom:])
		for _, sum := range []uint32{0, ^right, right + 1, right - 1, -right, right<<8 | right>>24} {
			p := byTable(b)
			binary.LittleEndian.PutUint32(p[sumFrom:], sum)
			checkNoDecode(t, p, api.ErrBad)
		}
		p := byTable(b)
		slices.Reverse(p[sumFrom:]) // the right one, its highest byte first
		checkNoDecode(t, p, api.ErrBad)
	}
}

// Bytes thrown beneath a right check sum are an encoding just when laying what they tell gives them back.
func TestP8_1DecodeThrown(t *testing.T) {
	throw := dice(81)
	good := 0
	for range 20000 {
		b := thrownBlock(throw)
		p := byTable(b)
		for range throw() % 3 {
			at := int(throw() % sumFrom)
			p[at] = byte(throw() >> (throw() % 56))
		}
		seal(p)
		told := Block{
			Kind:  int(p[0]),
			Epoch: int(binary.LittleEndian.Uint32(p[2:])),
			Seq:   int(binary.LittleEndian.Uint64(p[6:])),
			LBA:   int(binary.LittleEndian.Uint32(p[14:])),
		}
		fits := told.Kind >= 1 && told.Kind <= 4 && told.Seq >= 0 && told.Seq <= topSeq && told.LBA <= topLBA && p[1] <= topBody
		if fits {
			told.Body = p[18 : 18+int(p[1])]
		}
		if !fits || !bytes.Equal(byTable(told), p) {
			checkNoDecode(t, p, api.ErrBad)
			continue
		}
		good++
		checkDecode(t, p, told)
	}
	if good < 5000 || good > 18000 {
		t.Errorf("the throws are one-sided: %d are encodings", good)
	}
}

func TestP8_2Plain(t *testing.T) {
	if !Plain(make([]byte, size)) || !Plain(make([]byte, size, 200)) {
		t.Error("Plain of 64 zero bytes is false")
	}
	long := append(make([]byte, size), bytes.Repeat([]byte{1}, 10)...)
	if !Plain(long[:size]) {
		t.Error("Plain looks at what stands behind")
	}
	for at := range size {
		for k := range 8 {
			p := make([]byte, size)
			p[at] = 1 << k
			if Plain(p) {
				t.Errorf("Plain with bit %d of byte %d is true", k, at)
			}
		}
	}
	for _, b := range edgeBlocks() {
		if Plain(mustEncode(t, b)) {
			t.Errorf("Plain of the encoding of %v is true", b)
		}
	}
	if Plain(bytes.Repeat([]byte{255}, size)) {
		t.Error("Plain of 64 bytes of 255 is true")
	}
}

func TestP8_2PlainLengths(t *testing.T) {
	if Plain(nil) || Plain([]byte{}) {
		t.Error("Plain of no bytes is true")
	}
	for n := range 300 {
		if Plain(make([]byte, n)) != (n == size) || Plain(make([]byte, n, 300)) != (n == size) {
			t.Errorf("Plain of %d zero bytes is %v", n, n != size)
		}
	}
	if Plain(make([]byte, 1<<16)) {
		t.Error("Plain of many zero bytes is true")
	}
}

func TestP8_3ThereAndBack(t *testing.T) {
	throw := dice(83)
	all := edgeBlocks()
	for range 5000 {
		all = append(all, thrownBlock(throw))
	}
	for _, b := range all {
		p := mustEncode(t, b)
		checkDecode(t, p, b)
		back, _ := Decode(p)
		if q := mustEncode(t, back); !bytes.Equal(p, q) {
			t.Fatalf("%v and what Decode makes of it are encoded apart", b)
		}
	}
}

func TestP8_3OneBit(t *testing.T) {
	throw := dice(84)
	all := fewBlocks()
	for _, n := range []int{0, 1, 39, topBody} {
		all = append(all, Block{Kind: Data, Body: rising(n)}, Block{Kind: Mark, Seq: topSeq, LBA: topLBA, Body: make([]byte, n)})
	}
	for range 50 {
		all = append(all, thrownBlock(throw))
	}
	for _, b := range all {
		p := mustEncode(t, b)
		for at := range p {
			for k := range 8 {
				p[at] ^= 1 << k
				checkNoDecode(t, p, api.ErrBad)
				p[at] ^= 1 << k
			}
		}
		checkDecode(t, p, b)
	}
}

// inRoom lays a row into a longer one of marks, with room on both sides.
func inRoom(b []byte) (whole, row []byte) {
	whole = bytes.Repeat([]byte{0xe7}, len(b)+200)
	copy(whole[50:], b)
	return whole, whole[50 : 50+len(b)]
}

func checkUntouched(t *testing.T, what string, whole, b []byte) {
	t.Helper()
	if want, _ := inRoom(b); !bytes.Equal(whole, want) {
		t.Errorf("%s changes its argument or the room about it", what)
	}
}

func TestP8_3ArgumentsStand(t *testing.T) {
	for n := range 50 {
		whole, body := inRoom(rising(n))
		b := Block{Kind: Data, Epoch: 1, Seq: 2, LBA: 3, Body: body}
		Encode(b)
		checkUntouched(t, "Encode", whole, rising(n))
		b.Kind = 9
		Encode(b)
		checkUntouched(t, "Encode that refuses", whole, rising(n))
	}
	for _, b := range fewBlocks() {
		good := byTable(b)
		bad := slices.Clone(good)
		bad[63] ^= 1
		late := slices.Clone(good)
		late[59] = 1
		seal(late)
		for _, p := range [][]byte{good, bad, late, good[:63], append(slices.Clone(good), 0), make([]byte, size), make([]byte, 65)} {
			whole, row := inRoom(p)
			Decode(row)
			checkUntouched(t, "Decode", whole, p)
			Plain(row)
			checkUntouched(t, "Plain", whole, p)
		}
	}
}

func fill(b []byte, c byte) {
	b = b[:cap(b)]
	for i := range b {
		b[i] = c
	}
}

// A block whose Body is changed behind Encode, and an encoding that is changed, have nothing to do with each other.
func TestP8_3EncodeIsNew(t *testing.T) {
	for _, b := range fewBlocks() {
		want := byTable(b)
		body := slices.Clone(b.Body)
		x := b
		x.Body = slices.Clone(body)
		p, q := mustEncode(t, x), mustEncode(t, x)
		fill(x.Body, 0x55)
		if !bytes.Equal(p, want) || !bytes.Equal(q, want) {
			t.Fatal("a Body that is changed changes an encoding")
		}
		x.Body = slices.Clone(body)
		fill(p, 0xaa)
		if !bytes.Equal(q, want) {
			t.Fatal("one encoding changes another one")
		}
		if !bytes.Equal(x.Body, body) {
			t.Fatal("an encoding changes a Body")
		}
		checkEncode(t, b)
	}
}

func TestP8_3EncodeChangesNoBody(t *testing.T) {
	b := Block{Kind: Data, Body: rising(topBody)}
	p := mustEncode(t, b)
	fill(p, 0xaa)
	if !bytes.Equal(b.Body, rising(topBody)) {
		t.Error("an encoding changes the Body that it was made of")
	}
}

func TestP8_3DecodeIsNew(t *testing.T) {
	for _, want := range append(fewBlocks(), Block{Kind: Data, Body: rising(1)}, Block{Kind: Data, Body: rising(39)}) {
		p := byTable(want)
		a, code := Decode(p)
		b, other := Decode(p)
		if code != api.OK || other != api.OK {
			t.Fatal("an encoding is refused")
		}
		fill(a.Body, 0xaa)
		_ = append(a.Body, 1, 2, 3)
		if !bytes.Equal(p, byTable(want)) {
			t.Fatal("a Body that is changed changes the bytes that it was read from")
		}
		if !same(b, want) {
			t.Fatal("one Body changes another one")
		}
		fill(p, 0x55)
		if !same(b, want) {
			t.Fatal("bytes that are changed change the Body that was read from them")
		}
		_ = append(b.Body, 4)
		if !bytes.Equal(p, bytes.Repeat([]byte{0x55}, size)) {
			t.Fatal("a Body that is added to changes the bytes that it was read from")
		}
	}
}

// What is asked before, refused or not, leaves no trace.
func TestP8_3NothingIsKept(t *testing.T) {
	b := Block{Kind: Head, Epoch: 5, Seq: 6, LBA: 7, Body: rising(8)}
	for _, other := range append(fewBlocks(), Block{}, Block{Kind: Data, Body: make([]byte, 41)}) {
		p, _ := Encode(other)
		Decode(p)
		Decode(make([]byte, size))
		Plain(p)
		checkEncode(t, b)
		checkDecode(t, byTable(b), b)
		if !Plain(make([]byte, size)) {
			t.Error("Plain of 64 zero bytes is false")
		}
	}
}
