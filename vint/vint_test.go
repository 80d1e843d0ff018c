package vint_test

import (
	"bytes"
	"math"
	"math/big"
	"testing"

	"ephemeris/vint"
)

// mixer makes numbers that look like any, the same ones in each run.
type mixer uint64

func (m *mixer) next() uint64 {
	*m += 0x9e3779b97f4a7c15
	z := uint64(*m)
	z = (z ^ z>>30) * 0xbf58476d1ce4e5b9
	z = (z ^ z>>27) * 0x94d049bb133111eb
	return z ^ z>>31
}

// numbers are those about each power of 2, and some of each length that look like any.
func numbers() []uint64 {
	l := []uint64{0, 1, math.MaxUint64}
	m := mixer(1)
	for i := range 64 {
		p := uint64(1) << i
		l = append(l, p-1, p, p+1, -p, p|m.next()&(p-1), p|m.next()&(p-1))
	}
	return l
}

// zigByHand is Zig by numbers of any size, as the chapter has it.
func zigByHand(n int64) *big.Int {
	z := big.NewInt(n)
	if n >= 0 {
		return z.Lsh(z, 1)
	}
	z.Neg(z)
	z.Lsh(z, 1)
	return z.Sub(z, big.NewInt(1))
}

// putByHand is a number's bytes by numbers of any size: as many groups as its bits need, one at least.
func putByHand(u uint64) []byte {
	z := new(big.Int).SetUint64(u)
	b := make([]byte, max(1, (z.BitLen()+6)/7))
	for i := range b {
		for k := range 7 {
			b[i] |= byte(z.Bit(7*i+k)) << k
		}
		if i < len(b)-1 {
			b[i] += 128
		}
	}
	return b
}

// getByHand is Get by numbers of any size, each of the chapter's reasons for none by itself.
func getByHand(b []byte) (uint64, int) {
	n := 0
	for n < len(b) && b[n] >= 128 {
		n++
	}
	if n == len(b) {
		return 0, 0
	}
	z := new(big.Int)
	for i := n; i >= 0; i-- {
		z.Lsh(z, 7)
		z.Add(z, big.NewInt(int64(b[i]%128)))
	}
	n++
	if n > 10 || z.BitLen() > 64 || n > 1 && b[n-1] == 0 {
		return 0, 0
	}
	return z.Uint64(), n
}

func checkZig(t *testing.T, n int64, u uint64) {
	t.Helper()
	if got := vint.Zig(n); got != u {
		t.Fatalf("Zig(%d) is %d, not %d", n, got, u)
	}
	if got := vint.Zag(u); got != n {
		t.Fatalf("Zag(%d) is %d, not %d", u, got, n)
	}
}

func checkGet(t *testing.T, b []byte, u uint64, n int) {
	t.Helper()
	if gotU, gotN := vint.Get(b); gotU != u || gotN != n {
		t.Fatalf("Get(%x) is %d, %d; not %d, %d", b, gotU, gotN, u, n)
	}
}

func checkPut(t *testing.T, b []byte, u uint64, want []byte) {
	t.Helper()
	if got := vint.Put(b, u); !bytes.Equal(got, want) {
		t.Fatalf("Put(%x, %d) is %x, not %x", b, u, got, want)
	}
}

func Test2_1ZigAndZagOfThoseAtTheEdges(t *testing.T) {
	checkZig(t, 0, 0)
	checkZig(t, -1, 1)
	checkZig(t, 1, 2)
	checkZig(t, -2, 3)
	checkZig(t, 2, 4)
	checkZig(t, math.MaxInt32, 1<<32-2)
	checkZig(t, math.MinInt32, 1<<32-1)
	checkZig(t, math.MaxInt64-1, math.MaxUint64-3)
	checkZig(t, math.MinInt64+1, math.MaxUint64-2)
	checkZig(t, math.MaxInt64, math.MaxUint64-1)
	checkZig(t, math.MinInt64, math.MaxUint64)
}

func Test2_1ZigAndZagBesideNumbersOfAnySize(t *testing.T) {
	for _, u := range numbers() {
		n := int64(u)
		checkZig(t, n, zigByHand(n).Uint64())
	}
}

func Test2_1ZigOfNearerIsSmaller(t *testing.T) {
	for u := range uint64(1000) {
		n := int64(u+1) / 2
		if u%2 == 1 {
			n = -n
		}
		checkZig(t, n, u)
	}
}

func Test2_1PutOfKnownNumbers(t *testing.T) {
	for _, x := range []struct {
		u    uint64
		want []byte
	}{
		{0, []byte{0}},
		{1, []byte{1}},
		{127, []byte{0x7f}},
		{128, []byte{0x80, 1}},
		{300, []byte{0xac, 2}},
		{16383, []byte{0xff, 0x7f}},
		{16384, []byte{0x80, 0x80, 1}},
		{1 << 62, []byte{0x80, 0x80, 0x80, 0x80, 0x80, 0x80, 0x80, 0x80, 0x40}},
		{1<<63 - 1, []byte{0xff, 0xff, 0xff, 0xff, 0xff, 0xff, 0xff, 0xff, 0x7f}},
		{1 << 63, []byte{0x80, 0x80, 0x80, 0x80, 0x80, 0x80, 0x80, 0x80, 0x80, 1}},
		{math.MaxUint64, []byte{0xff, 0xff, 0xff, 0xff, 0xff, 0xff, 0xff, 0xff, 0xff, 1}},
	} {
		checkPut(t, nil, x.u, x.want)
		checkGet(t, x.want, x.u, len(x.want))
	}
}

func Test2_1PutBesideNumbersOfAnySize(t *testing.T) {
	for _, u := range numbers() {
		checkPut(t, nil, u, putByHand(u))
	}
}

func Test2_1PutGoesBehindWhatThereIs(t *testing.T) {
	checkPut(t, []byte{}, 300, []byte{0xac, 2})
	checkPut(t, []byte("ab"), 5, []byte{'a', 'b', 5})
	checkPut(t, []byte{0x80, 0x80}, 0, []byte{0x80, 0x80, 0})
	checkPut(t, bytes.Repeat([]byte{0xff}, 1000), 128, append(bytes.Repeat([]byte{0xff}, 1000), 0x80, 1))
}

func Test2_1PutTellsNewMemory(t *testing.T) {
	for _, spare := range []int{0, 1, 2, 9, 10, 11, 64} {
		for _, u := range []uint64{0, 127, 300, math.MaxUint64} {
			room := bytes.Repeat([]byte{0x33}, 3+spare)
			want := bytes.Clone(room)
			got := vint.Put(room[:3], u)
			kept := bytes.Clone(got)
			if !bytes.Equal(room, want) {
				t.Fatalf("spare room of %d changed: %x", spare, room)
			}
			all := got[:cap(got)]
			for i := range all {
				all[i] = 0x55
			}
			if !bytes.Equal(room, want) {
				t.Fatalf("what is told shares with what came, of %d to spare: %x", spare, room)
			}
			checkPut(t, room[:3], u, kept)
		}
	}
}

func Test2_1PutTwiceBehindTheSameIsApart(t *testing.T) {
	b := vint.Put(nil, 1)
	first, second := vint.Put(b, 2), vint.Put(b, 3)
	if !bytes.Equal(first, []byte{1, 2}) || !bytes.Equal(second, []byte{1, 3}) {
		t.Fatal(first, second)
	}
}

func Test2_1GetLooksAtTheBeginningAlone(t *testing.T) {
	for _, u := range numbers() {
		b := putByHand(u)
		for _, rest := range [][]byte{{0}, {1}, {0x7f}, {0x80}, {0xff}, {0x80, 0}, bytes.Repeat([]byte{0xff}, 20)} {
			checkGet(t, append(bytes.Clone(b), rest...), u, len(b))
		}
	}
}

func Test2_1GetOfWhatEndsTooEarly(t *testing.T) {
	checkGet(t, nil, 0, 0)
	checkGet(t, []byte{}, 0, 0)
	for _, u := range numbers() {
		b := putByHand(u)
		for n := range b {
			// What lies in the spare room behind is no part of b.
			checkGet(t, b[:n], 0, 0)
		}
	}
	for n := range 30 {
		checkGet(t, bytes.Repeat([]byte{0x80}, n), 0, 0)
		checkGet(t, bytes.Repeat([]byte{0xff}, n), 0, 0)
	}
}

func Test2_1GetOfMoreThanTenBytes(t *testing.T) {
	for ahead := 10; ahead < 40; ahead++ {
		for _, last := range []byte{0, 1, 2, 0x7f} {
			checkGet(t, append(bytes.Repeat([]byte{0x80}, ahead), last), 0, 0)
			checkGet(t, append(bytes.Repeat([]byte{0xff}, ahead), last), 0, 0)
		}
	}
}

func Test2_1GetOfMoreThan64Bits(t *testing.T) {
	for _, x := range []byte{0x80, 0xff} {
		nine := bytes.Repeat([]byte{x}, 9)
		for last := 2; last < 256; last++ {
			checkGet(t, append(bytes.Clone(nine), byte(last)), 0, 0)
			checkGet(t, append(bytes.Clone(nine), byte(last), 0), 0, 0)
			checkGet(t, append(bytes.Clone(nine), byte(last), 1), 0, 0)
		}
	}
}

func Test2_1GetOfALast0BehindOthers(t *testing.T) {
	checkGet(t, []byte{0}, 0, 1)
	checkGet(t, []byte{0, 0}, 0, 1)
	for n := 1; n < 12; n++ {
		for _, x := range []byte{0x80, 0x81, 0xff} {
			b := append(bytes.Repeat([]byte{x}, n), 0)
			checkGet(t, b, 0, 0)
			checkGet(t, append(b, 1), 0, 0)
		}
	}
}

func Test2_1Get0AmongOthersIsNotLast(t *testing.T) {
	checkGet(t, []byte{0x80, 0x80, 1}, 1<<14, 3)
	checkGet(t, []byte{0x85, 0x80, 0x80, 2}, 2<<21|5, 4)
}

func Test2_1GetChangesNothing(t *testing.T) {
	room := []byte{0xac, 2, 7, 8}
	checkGet(t, room[:2], 300, 2)
	checkGet(t, room[:1], 0, 0)
	if !bytes.Equal(room, []byte{0xac, 2, 7, 8}) {
		t.Fatal("changed", room)
	}
}

func Test2_2WhatIsPutIsGot(t *testing.T) {
	var b []byte
	l := numbers()
	for _, u := range l {
		b = vint.Put(b, u)
	}
	for _, want := range l {
		u, n := vint.Get(b)
		if u != want || n < 1 || n > 10 {
			t.Fatalf("%d, of %d bytes; not %d", u, n, want)
		}
		b = b[n:]
	}
	checkGet(t, b, 0, 0)
	if len(b) != 0 {
		t.Fatal("more than was put:", b)
	}
}

func Test2_2WhatHasASignIsGotToo(t *testing.T) {
	for _, u := range numbers() {
		n := int64(u)
		got, _ := vint.Get(vint.Put(nil, vint.Zig(n)))
		if vint.Zag(got) != n {
			t.Fatal(n, vint.Zag(got))
		}
		if vint.Zig(vint.Zag(u)) != u {
			t.Fatal(u, vint.Zig(vint.Zag(u)))
		}
	}
}

// checkAny holds Get of any bytes to what they are by hand, and a number to the one way in which it is written.
func checkAny(t *testing.T, b []byte) {
	t.Helper()
	u, n := getByHand(b)
	checkGet(t, b, u, n)
	if n > 0 {
		checkPut(t, nil, u, b[:n])
	}
}

func Test2_2AnyFewBytesAreANumberOrNone(t *testing.T) {
	for i := range 1 << 16 {
		checkAny(t, []byte{byte(i)})
		checkAny(t, []byte{byte(i), byte(i >> 8)})
		checkAny(t, []byte{byte(i), byte(i >> 8), byte(i >> 5)})
	}
}

func Test2_2AnyBytesAreANumberOrNone(t *testing.T) {
	m := mixer(2)
	for i := range 20000 {
		b := make([]byte, i%14)
		at := int(m.next() % 14)
		for k := range b {
			b[k] = byte(m.next())
			if k < at {
				b[k] |= 128 // so that long numbers come as often as short ones
			}
			if k == at {
				b[k] %= 4
			}
		}
		checkAny(t, b)
	}
}

func Test2_3NoCallPanics(t *testing.T) {
	for _, u := range numbers() {
		vint.Zig(int64(u))
		vint.Zag(u)
		for _, b := range [][]byte{nil, {}, {0}, {0xff}, make([]byte, 0, 1), make([]byte, 5, 6), bytes.Repeat([]byte{0x80}, 100)} {
			if got := vint.Put(b, u); len(got) <= len(b) {
				t.Fatal(b, u, got)
			}
		}
	}
	for n := range 100 {
		for _, x := range []byte{0, 1, 0x7f, 0x80, 0x81, 0xff} {
			if _, k := vint.Get(bytes.Repeat([]byte{x}, n)); k < 0 || k > n {
				t.Fatal(n, x, k)
			}
		}
	}
}
