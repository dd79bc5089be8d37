package pop_test

import (
	"math"
	"testing"

	"damask/api"
	"damask/pop"
)

const allOnes = math.MaxUint64

// words returns words of many shapes: the extremes, every single bit, every run of low and of high bits,
// alternating bits, and a fixed sequence of mixed words.
func words() []uint64 {
	l := []uint64{0, allOnes, 6, 0xb, 0x5555555555555555, 0xaaaaaaaaaaaaaaaa, 1 | 1<<63}
	for i := range 64 {
		bit := uint64(1) << i
		l = append(l, bit, ^bit, bit-1, ^(bit - 1))
	}
	mixed := uint64(1)
	for range 300 {
		mixed = mixed*6364136223846793005 + 1442695040888963407
		l = append(l, mixed^mixed>>29, mixed&(mixed>>17), mixed|mixed>>23)
	}
	return l
}

// numbers returns the numbers of the one bits of w in increasing order, found by testing each bit.
func numbers(w uint64) []int {
	var l []int
	for i := range 64 {
		if w>>i&1 == 1 {
			l = append(l, i)
		}
	}
	return l
}

func checkRank(t *testing.T, w uint64, i, want int, wantErr api.Errno) {
	t.Helper()
	if got, err := pop.Rank(w, i); got != want || err != wantErr {
		t.Errorf("Rank(%#x, %d) = %d, %d; want %d, %d", w, i, got, err, want, wantErr)
	}
}

func checkSelect(t *testing.T, w uint64, k, want int, wantErr api.Errno) {
	t.Helper()
	if got, err := pop.Select(w, k); got != want || err != wantErr {
		t.Errorf("Select(%#x, %d) = %d, %d; want %d, %d", w, k, got, err, want, wantErr)
	}
}

func TestOnes(t *testing.T) {
	cases := []struct {
		w    uint64
		want int
	}{{6, 2}, {0, 0}, {1, 1}, {1 << 63, 1}, {1 | 1<<63, 2}, {0xf0f, 8}, {allOnes, 64}, {allOnes >> 1, 63}}
	for _, c := range cases {
		if got := pop.Ones(c.w); got != c.want {
			t.Errorf("Ones(%#x) = %d; want %d", c.w, got, c.want)
		}
	}
}

func TestOnesCountsEachBit(t *testing.T) {
	for _, w := range words() {
		if got, want := pop.Ones(w), len(numbers(w)); got != want {
			t.Errorf("Ones(%#x) = %d; want %d", w, got, want)
		}
	}
}

func TestRank(t *testing.T) {
	checkRank(t, 6, 2, 1, api.OK)
	checkRank(t, 6, 1, 0, api.OK)
	checkRank(t, 6, 3, 2, api.OK)
	checkRank(t, 0, 0, 0, api.OK)
	checkRank(t, 0, 64, 0, api.OK)
	checkRank(t, allOnes, 0, 0, api.OK)
	checkRank(t, allOnes, 1, 1, api.OK)
	checkRank(t, allOnes, 63, 63, api.OK)
	checkRank(t, allOnes, 64, 64, api.OK)
	checkRank(t, 1<<63, 63, 0, api.OK)
	checkRank(t, 1<<63, 64, 1, api.OK)
}

func TestRankCountsBitsBelow(t *testing.T) {
	for _, w := range words() {
		below := 0
		for i := range 65 {
			checkRank(t, w, i, below, api.OK)
			if i < 64 && w>>i&1 == 1 {
				below++
			}
		}
	}
}

func TestRankOutOfRange(t *testing.T) {
	for _, w := range []uint64{0, 1, 6, 1 << 63, allOnes} {
		for _, i := range []int{-1, -64, 65, 128, 1 << 32, -1 << 32, math.MinInt, math.MaxInt} {
			checkRank(t, w, i, 0, api.ErrRange)
		}
	}
}

func TestSelect(t *testing.T) {
	checkSelect(t, 6, 0, 1, api.OK)
	checkSelect(t, 6, 1, 2, api.OK)
	checkSelect(t, 1, 0, 0, api.OK)
	checkSelect(t, 1<<63, 0, 63, api.OK)
	checkSelect(t, 1|1<<63, 1, 63, api.OK)
	checkSelect(t, allOnes, 0, 0, api.OK)
	checkSelect(t, allOnes, 63, 63, api.OK)
}

func TestSelectFindsEachOneBit(t *testing.T) {
	for _, w := range words() {
		l := numbers(w)
		for k, want := range l {
			checkSelect(t, w, k, want, api.OK)
		}
		checkSelect(t, w, len(l), 0, api.ErrNone)
	}
}

func TestSelectNegative(t *testing.T) {
	// The word 0 has no one bit either; the negative k is checked first.
	for _, w := range []uint64{0, 1, 6, 1 << 63, allOnes} {
		for _, k := range []int{-1, -64, -1 << 32, math.MinInt} {
			checkSelect(t, w, k, 0, api.ErrRange)
		}
	}
}

func TestSelectNone(t *testing.T) {
	checkSelect(t, 0, 0, 0, api.ErrNone)
	checkSelect(t, 0, 1, 0, api.ErrNone)
	checkSelect(t, 6, 2, 0, api.ErrNone)
	checkSelect(t, 1<<63, 1, 0, api.ErrNone)
	checkSelect(t, allOnes, 64, 0, api.ErrNone)
	for _, w := range []uint64{0, 6, allOnes} {
		for _, k := range []int{65, 1 << 32, math.MaxInt} {
			checkSelect(t, w, k, 0, api.ErrNone)
		}
	}
}

func TestTurn(t *testing.T) {
	cases := []struct{ w, want uint64 }{
		{1, 1 << 63}, {1 << 63, 1}, {0, 0}, {allOnes, allOnes}, {3, 3 << 62}, {6, 3 << 61}, {1 | 1<<63, 1 | 1<<63},
		{0x0123456789abcdef, 0xf7b3d591e6a2c480},
	}
	for _, c := range cases {
		if got := pop.Turn(c.w); got != c.want {
			t.Errorf("Turn(%#x) = %#x; want %#x", c.w, got, c.want)
		}
	}
}

func TestTurnMovesEachBit(t *testing.T) {
	for _, w := range words() {
		var want uint64
		for _, i := range numbers(w) {
			want |= 1 << (63 - i)
		}
		if got := pop.Turn(w); got != want {
			t.Errorf("Turn(%#x) = %#x; want %#x", w, got, want)
		}
	}
}

func TestTurnTwice(t *testing.T) {
	for _, w := range words() {
		if got := pop.Turn(pop.Turn(w)); got != w {
			t.Errorf("Turn(Turn(%#x)) = %#x", w, got)
		}
	}
}
