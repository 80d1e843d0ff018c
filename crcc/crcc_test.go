package crcc_test

import (
	"bytes"
	"hash/crc32"
	"math/big"
	"testing"

	"ephemeris/crcc"
)

// mixer makes numbers that look like any, the same ones in each run.
type mixer uint64

func (m *mixer) next() uint64 {
	*m += 0x9e3779b97f4a7c15
	z := uint64(*m)
	z = (z ^ z>>30) * 0xbf58476d1ce4e5b9
	z = (z ^ z>>27) * 0x94d049bb133111eb
	return z ^ z>>31
}

func (m *mixer) bytes(n int) []byte {
	b := make([]byte, n)
	for i := range b {
		b[i] = byte(m.next())
	}
	return b
}

func (m *mixer) table() [256]uint32 {
	var tab [256]uint32
	for i := range tab {
		tab[i] = uint32(m.next())
	}
	return tab
}

// sumByHand is Sum by numbers of any size, as the chapter has it.
func sumByHand(tab [256]uint32, b []byte) uint32 {
	ones := big.NewInt(0xFFFFFFFF)
	n := new(big.Int).Set(ones)
	for _, x := range b {
		at := new(big.Int).Mod(n, big.NewInt(256)).Int64() ^ int64(x)
		n.Div(n, big.NewInt(256))
		n.Xor(n, big.NewInt(int64(tab[at])))
	}
	return uint32(n.Xor(n, ones).Uint64())
}

// sumByDivision is the sum by Table without any table: what is left of b's bits, each byte's lowest first.
func sumByDivision(b []byte) uint32 {
	row := make([]uint32, 8*len(b)+32)
	for i := range 8 * len(b) {
		row[i] = uint32(b[i/8] >> (i % 8) & 1)
	}
	for i := range 32 {
		row[i] ^= 1
	}
	for i := range 8 * len(b) {
		for k := range 32 {
			row[i+1+k] ^= row[i] & (0x82F63B78 >> k)
		}
	}
	var n uint32
	for i, x := range row[8*len(b):] {
		n |= (x ^ 1) << i
	}
	return n
}

func checkSum(t *testing.T, tab [256]uint32, b []byte, want uint32) {
	t.Helper()
	if got := crcc.Sum(tab, b); got != want {
		t.Fatalf("Sum of %d bytes is %08x, not %08x", len(b), got, want)
	}
}

func Test3_1TableOfKnownBytes(t *testing.T) {
	tab := crcc.Table()
	for _, x := range []struct {
		i    int
		want uint32
	}{
		{0, 0},
		{1, 0xF26B8303},
		{2, 0xE13B70F7},
		{64, 0x417B1DBC},
		{127, 0x2F8B6829},
		{128, 0x82F63B78},
		{129, 0x709DB87B},
		{254, 0x5F16D052},
		{255, 0xAD7D5351},
	} {
		if tab[x.i] != x.want {
			t.Errorf("%d: %08x, not %08x", x.i, tab[x.i], x.want)
		}
	}
}

func Test3_1TableOfEachByte(t *testing.T) {
	tab, want := crcc.Table(), crc32.MakeTable(crc32.Castagnoli)
	for i := range tab {
		n := uint64(i)
		for range 8 {
			n = n/2 ^ n%2*0x82F63B78
		}
		if uint64(tab[i]) != n || tab[i] != want[i] {
			t.Errorf("%d: %08x, not %08x, %08x", i, tab[i], n, want[i])
		}
	}
}

func Test3_1TableIsNewEachTime(t *testing.T) {
	first := crcc.Table()
	clear(first[:])
	if crcc.Table() != *crc32.MakeTable(crc32.Castagnoli) {
		t.Fatal("changed from outside")
	}
}

func Test3_1SumOfKnownBytes(t *testing.T) {
	tab := crcc.Table()
	up, down := make([]byte, 32), make([]byte, 32)
	for i := range up {
		up[i], down[31-i] = byte(i), byte(i)
	}
	checkSum(t, tab, []byte("123456789"), 0xE3069283)
	checkSum(t, tab, nil, 0)
	checkSum(t, tab, []byte{}, 0)
	checkSum(t, tab, []byte{0}, 0x527D5351)
	checkSum(t, tab, []byte{255}, 0xFF000000)
	checkSum(t, tab, []byte("a"), 0xC1D04330)
	checkSum(t, tab, []byte("abc"), 0x364B3FB7)
	checkSum(t, tab, make([]byte, 32), 0x8A9136AA)
	checkSum(t, tab, bytes.Repeat([]byte{255}, 32), 0x62A8AB43)
	checkSum(t, tab, up, 0x46DD794E)
	checkSum(t, tab, down, 0x113FDB5C)
}

func Test3_1SumOfAnyBytes(t *testing.T) {
	tab, library := crcc.Table(), crc32.MakeTable(crc32.Castagnoli)
	m := mixer(1)
	for n := range 300 {
		b := m.bytes(n)
		checkSum(t, tab, b, sumByHand(tab, b))
		checkSum(t, tab, b, sumByDivision(b))
		checkSum(t, tab, b, crc32.Checksum(b, library))
	}
	long := m.bytes(1 << 20)
	checkSum(t, tab, long, crc32.Checksum(long, library))
}

func Test3_1SumOfEachByteAtEachPlace(t *testing.T) {
	tab := crcc.Table()
	for at := range 6 {
		for x := range 256 {
			b := []byte{9, 8, 7, 6, 5, 4}
			b[at] = byte(x)
			checkSum(t, tab, b, sumByDivision(b))
		}
	}
}

func Test3_1SumIsByTheTableThatIsHandedIn(t *testing.T) {
	// Of a table of 0s nothing turns, and the 1s that a sum starts from fall out at the bottom.
	var none [256]uint32
	for n, want := range []uint32{0, 0xFF000000, 0xFFFF0000, 0xFFFFFF00, 0xFFFFFFFF, 0xFFFFFFFF} {
		checkSum(t, none, bytes.Repeat([]byte{7}, n), want)
	}
	m := mixer(2)
	for n := range 100 {
		tab, b := m.table(), m.bytes(n)
		checkSum(t, tab, b, sumByHand(tab, b))
	}
}

func Test3_1SumLooksAtOneEntryAByte(t *testing.T) {
	// The first byte meets 255 as the number's lowest byte.
	for x := range 256 {
		for i := range 256 {
			var tab [256]uint32
			tab[i] = 0x12345678
			want := uint32(0xFF000000)
			if i == 255-x {
				want ^= 0x12345678
			}
			checkSum(t, tab, []byte{byte(x)}, want)
		}
	}
}

func Test3_1SumLeavesWhatIsHandedIn(t *testing.T) {
	tab := crcc.Table()
	was := tab
	room := []byte("123456789 and more")
	checkSum(t, tab, room[:9], 0xE3069283)
	checkSum(t, tab, room[:0], 0)
	// Nothing is kept from one call to the next.
	checkSum(t, tab, room[:9], 0xE3069283)
	if string(room) != "123456789 and more" || tab != was {
		t.Fatal("changed", room)
	}
}

// checkTold checks that b has another sum where, from the bit at on, those bits are turned that are 1 in by.
func checkTold(t *testing.T, tab [256]uint32, b []byte, at int, by uint64) {
	t.Helper()
	other := bytes.Clone(b)
	for k := range 64 {
		if by>>k&1 == 1 {
			other[(at+k)/8] ^= 1 << ((at + k) % 8)
		}
	}
	if crcc.Sum(tab, other) == crcc.Sum(tab, b) {
		t.Fatalf("%x from bit %d on of %d bytes is not told", by, at, len(b))
	}
}

func Test3_2AnyOneBitThatIsTurnedIsTold(t *testing.T) {
	tab, m := crcc.Table(), mixer(3)
	for _, n := range []int{1, 2, 3, 4, 5, 8, 31, 100, 1000} {
		for _, b := range [][]byte{make([]byte, n), bytes.Repeat([]byte{255}, n), m.bytes(n)} {
			for i := range 8 * n {
				checkTold(t, tab, b, i, 1)
			}
		}
	}
}

func Test3_2AnyTwoBitsThatAreTurnedAreTold(t *testing.T) {
	tab, m := crcc.Table(), mixer(4)
	b := m.bytes(40)
	was := crcc.Sum(tab, b)
	for i := range 8 * len(b) {
		b[i/8] ^= 1 << (i % 8)
		for k := range i {
			b[k/8] ^= 1 << (k % 8)
			if crcc.Sum(tab, b) == was {
				t.Fatal(i, k)
			}
			b[k/8] ^= 1 << (k % 8)
		}
		b[i/8] ^= 1 << (i % 8)
	}
}

func Test3_2AnyByteForAnotherIsTold(t *testing.T) {
	tab, m := crcc.Table(), mixer(5)
	b := m.bytes(20)
	for at := range b {
		for by := uint64(1); by < 256; by++ {
			checkTold(t, tab, b, 8*at, by)
		}
	}
}

func Test3_2WhatIsTurnedWithin32BitsIsTold(t *testing.T) {
	tab, m := crcc.Table(), mixer(6)
	b := m.bytes(50)
	for range 200 {
		for width := 2; width <= 32; width++ {
			at := int(m.next() % uint64(8*len(b)-width))
			by := m.next()%(1<<width) | 1 | 1<<(width-1)
			checkTold(t, tab, b, at, by)
		}
	}
	for at := range 8*len(b) - 31 {
		checkTold(t, tab, b, at, 0xFFFFFFFF)
		checkTold(t, tab, b, at, 0x82F63B78)
	}
}

func Test3_2BytesInAnotherOrderAreTold(t *testing.T) {
	tab, m := crcc.Table(), mixer(7)
	b := m.bytes(64)
	was := crcc.Sum(tab, b)
	for i := range b {
		for k := range i {
			if b[i] == b[k] {
				continue
			}
			b[i], b[k] = b[k], b[i]
			if crcc.Sum(tab, b) == was {
				t.Fatal(i, k)
			}
			b[i], b[k] = b[k], b[i]
		}
	}
}

func Test3_2AnotherNumberOf0sIsTold(t *testing.T) {
	tab := crcc.Table()
	for _, text := range []string{"", "a", "\x00b\x00"} {
		ahead, behind := map[uint32]int{}, map[uint32]int{}
		for n := range 2000 {
			zeros := make([]byte, n)
			ahead[crcc.Sum(tab, append(zeros, text...))]++
			behind[crcc.Sum(tab, append([]byte(text), zeros...))]++
		}
		if len(ahead) != 2000 || len(behind) != 2000 {
			t.Fatalf("%q: %d sums with 0s ahead, %d with 0s behind", text, len(ahead), len(behind))
		}
	}
}

func Test3_3NoCallPanics(t *testing.T) {
	m := mixer(8)
	all := [256]uint32{}
	for i := range all {
		all[i] = 0xFFFFFFFF
	}
	for _, tab := range [][256]uint32{crcc.Table(), {}, all, m.table()} {
		for _, b := range [][]byte{nil, {}, make([]byte, 0, 4), make([]byte, 5, 6)} {
			crcc.Sum(tab, b)
		}
		for x := range 256 {
			for n := range 20 {
				crcc.Sum(tab, bytes.Repeat([]byte{byte(x)}, n))
			}
		}
		// Each entry is asked for, whatever the number was.
		for range 100 {
			crcc.Sum(tab, m.bytes(int(m.next()%500)))
		}
	}
}
