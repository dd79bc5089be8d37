package gam_test

import (
	"math"
	"slices"
	"strconv"
	"strings"
	"testing"

	"damask/api"
	"damask/gam"
)

const (
	allOnes   = math.MaxUint64
	maxLength = 21 // binary digits of MaxCode
)

var (
	kinds        = []int{api.Gamma, api.Delta}
	unknownKinds = []int{0, -1, 3, 4, -2, 1 << 32, 1<<32 + 1, math.MinInt, math.MinInt + 1, math.MaxInt}
	uncodable    = []int{0, -1, -2, -5, api.MaxCode + 1, api.MaxCode + 2, 2 * api.MaxCode, 1 << 32, 1<<32 + 1, 1 << 62,
		-1 << 62, math.MinInt, math.MinInt + 1, math.MaxInt}
)

// binary returns the binary digits of n.
func binary(n int) string {
	return strconv.FormatInt(int64(n), 2)
}

// code returns the code of n as the chapter describes it, for any positive number.
func code(kind, n int) string {
	digits := binary(n)
	if kind == api.Gamma {
		return strings.Repeat("0", len(digits)-1) + digits
	}
	return code(api.Gamma, len(digits)) + digits[1:]
}

// codes returns the concatenation of the codes of l.
func codes(kind int, l []int) string {
	var text strings.Builder
	for _, n := range l {
		text.WriteString(code(kind, n))
	}
	return text.String()
}

// vector returns the bits of the text, bit 0 first.
func vector(text string) api.Bits {
	words := make([]uint64, (len(text)+63)/64)
	for i := range len(text) {
		if text[i] == '1' {
			words[i/64] |= 1 << (i % 64)
		}
	}
	return api.Bits{Len: len(text), Words: words}
}

// repeat returns a list of count times the number n.
func repeat(n, count int) []int {
	return slices.Repeat([]int{n}, count)
}

// zeros returns a text of n zero bits.
func zeros(n int) string {
	return strings.Repeat("0", n)
}

// numbers returns the small numbers, and each power of two with the numbers around it, up to MaxCode.
func numbers() []int {
	var l []int
	for n := 1; n <= 300; n++ {
		l = append(l, n)
	}
	for n := 256; n <= api.MaxCode; n *= 2 {
		l = append(l, n-2, n-1, n, n+1, n+n/2, n+n/3)
	}
	return slices.DeleteFunc(l, func(n int) bool { return n > api.MaxCode })
}

// mixed returns a list of count fixed mixed numbers of all lengths.
func mixed(seed, count int) []int {
	l := make([]int, count)
	state := uint64(seed)
	for i := range l {
		state = state*6364136223846793005 + 1442695040888963407
		l[i] = 1 + int(state>>44)>>(state>>20%maxLength)
	}
	return l
}

func checkEncode(t *testing.T, kind int, l []int, want api.Bits) {
	t.Helper()
	b, err := gam.Encode(kind, l)
	if err != api.OK || b.Len != want.Len || !slices.Equal(b.Words, want.Words) {
		t.Errorf("Encode(%d, %v) = {%d %#x}, %d; want {%d %#x}, 0", kind, l, b.Len, b.Words, err, want.Len, want.Words)
	}
}

func checkNotEncoded(t *testing.T, kind int, l []int, want api.Errno) {
	t.Helper()
	b, err := gam.Encode(kind, l)
	if err != want || b.Len != 0 || len(b.Words) != 0 {
		t.Errorf("Encode(%d, %v) = {%d %#x}, %d; want no bits, %d", kind, l, b.Len, b.Words, err, want)
	}
}

func checkDecode(t *testing.T, kind int, text string, want ...int) {
	t.Helper()
	l, err := gam.Decode(kind, vector(text))
	if err != api.OK || !slices.Equal(l, want) {
		t.Errorf("Decode(%d, %s) = %v, %d; want %v, 0", kind, text, l, err, want)
	}
}

func checkNotDecoded(t *testing.T, kind int, b api.Bits, want api.Errno) {
	t.Helper()
	if l, err := gam.Decode(kind, b); err != want || len(l) != 0 {
		t.Errorf("Decode(%d, {%d %#x}) = %v, %d; want no numbers, %d", kind, b.Len, b.Words, l, err, want)
	}
}

func checkCost(t *testing.T, kind, n, want int, wantErr api.Errno) {
	t.Helper()
	if got, err := gam.Cost(kind, n); got != want || err != wantErr {
		t.Errorf("Cost(%d, %d) = %d, %d; want %d, %d", kind, n, got, err, want, wantErr)
	}
}

// checkBoth checks that the codes of l are encoded and decoded.
func checkBoth(t *testing.T, kind int, l []int) {
	t.Helper()
	text := codes(kind, l)
	checkEncode(t, kind, l, vector(text))
	checkDecode(t, kind, text, l...)
}

func TestExamples(t *testing.T) {
	for _, e := range []struct {
		kind, n int
		text    string
	}{
		{api.Gamma, 1, "1"}, {api.Gamma, 2, "010"}, {api.Gamma, 3, "011"}, {api.Gamma, 4, "00100"},
		{api.Gamma, 5, "00101"}, {api.Gamma, 8, "0001000"}, {api.Gamma, 1000, "0000000001111101000"},
		{api.Gamma, api.MaxCode, "00000000000000000000100000000000000000000"},
		{api.Gamma, api.MaxCode - 1, "000000000000000000011111111111111111111"},
		{api.Delta, 1, "1"}, {api.Delta, 2, "0100"}, {api.Delta, 3, "0101"}, {api.Delta, 4, "01100"},
		{api.Delta, 5, "01101"}, {api.Delta, 8, "00100000"}, {api.Delta, 1000, "0001010111101000"},
		{api.Delta, api.MaxCode, "00001010100000000000000000000"},
		{api.Delta, api.MaxCode - 1, "0000101001111111111111111111"},
	} {
		checkEncode(t, e.kind, []int{e.n}, vector(e.text))
		checkDecode(t, e.kind, e.text, e.n)
		checkCost(t, e.kind, e.n, len(e.text), api.OK)
	}
	checkEncode(t, api.Gamma, []int{1, 5}, api.Bits{Len: 6, Words: []uint64{41}})
	checkEncode(t, api.Delta, []int{5}, api.Bits{Len: 5, Words: []uint64{22}})
	checkDecode(t, api.Gamma, "1010", 1, 2)
	checkDecode(t, api.Delta, "10100", 1, 2)
}

func TestNoNumbers(t *testing.T) {
	for _, kind := range kinds {
		for _, l := range [][]int{nil, {}, make([]int, 0, 5)} {
			checkEncode(t, kind, l, api.Bits{})
		}
		for _, words := range [][]uint64{nil, {}, make([]uint64, 0, 5)} {
			if l, err := gam.Decode(kind, api.Bits{Words: words}); err != api.OK || len(l) != 0 {
				t.Errorf("Decode(%d) of no bits = %v, %d; want no numbers, 0", kind, l, err)
			}
		}
	}
}

func TestEachNumber(t *testing.T) {
	for _, kind := range kinds {
		for _, n := range numbers() {
			checkBoth(t, kind, []int{n})
			checkBoth(t, kind, []int{n, n})
			checkBoth(t, kind, []int{1, n, 2})
			checkCost(t, kind, n, len(code(kind, n)), api.OK)
		}
	}
}

func TestListsOfMixedNumbers(t *testing.T) {
	for _, kind := range kinds {
		for seed := range 200 {
			l := mixed(seed, seed/2)
			for len(codes(kind, l)) > api.MaxBits {
				l = l[:len(l)-1]
			}
			checkBoth(t, kind, l)
		}
	}
}

func TestCodesAtWordEnds(t *testing.T) {
	// Behind so many ones, the code of n ends or starts near the end of the first or of the second word.
	for _, kind := range kinds {
		for _, n := range []int{1, 2, 3, 4, 5, 7, 8, 255, 256, 1000, 65535, 65536, api.MaxCode - 1, api.MaxCode} {
			for ones := range 131 {
				l := append(repeat(1, ones), n)
				checkBoth(t, kind, l)
				checkBoth(t, kind, append(l, 3))
			}
		}
	}
	checkEncode(t, api.Gamma, repeat(1, 63), api.Bits{Len: 63, Words: []uint64{allOnes >> 1}})
	checkEncode(t, api.Gamma, repeat(1, 64), api.Bits{Len: 64, Words: []uint64{allOnes}})
	checkEncode(t, api.Delta, repeat(1, 65), api.Bits{Len: 65, Words: []uint64{allOnes, 1}})
	checkEncode(t, api.Gamma, append(repeat(1, 62), 5), api.Bits{Len: 67, Words: []uint64{allOnes >> 2, 5}})
	checkEncode(t, api.Delta, append(repeat(1, 62), 5), api.Bits{Len: 67, Words: []uint64{1<<63 | allOnes>>2, 5}})
}

func TestLongestLists(t *testing.T) {
	for _, kind := range kinds {
		for _, n := range []int{1, 2, 3, 7} {
			checkBoth(t, kind, repeat(n, api.MaxList))
			checkNotEncoded(t, kind, repeat(n, api.MaxList+1), api.ErrSize)
		}
		checkBoth(t, kind, append(repeat(1, api.MaxList-1), api.MaxCode))
	}
}

// fullLists returns lists whose codes have just MaxBits bits.
func fullLists(kind int) [][]int {
	var l [][]int
	for _, n := range []int{2000, 60000, api.MaxCode - 1, api.MaxCode} {
		count := api.MaxBits / len(code(kind, n))
		ones := api.MaxBits - count*len(code(kind, n))
		l = append(l, append(repeat(n, count), repeat(1, ones)...), append(repeat(1, ones), repeat(n, count)...))
	}
	return l
}

func TestMostBits(t *testing.T) {
	for _, kind := range kinds {
		for _, l := range fullLists(kind) {
			if n := len(codes(kind, l)); n != api.MaxBits || len(l) >= api.MaxList {
				t.Fatalf("%d codes of kind %d have %d bits", len(l), kind, n)
			}
			checkBoth(t, kind, l)
			checkNotEncoded(t, kind, append(l, 1), api.ErrFull)
			checkNotEncoded(t, kind, append([]int{1}, l...), api.ErrFull)
			checkNotEncoded(t, kind, append(l, api.MaxCode), api.ErrFull)
		}
		checkNotEncoded(t, kind, repeat(api.MaxCode, api.MaxList), api.ErrFull)
		checkNotEncoded(t, kind, repeat(5000, api.MaxList), api.ErrFull)
	}
}

func TestEncodeUnknownKind(t *testing.T) {
	// The lists are invalid as well, but the kind is checked first.
	for _, kind := range unknownKinds {
		for _, l := range [][]int{nil, {}, {1}, {1, 5}, {0}, {-1}, {math.MinInt}, {api.MaxCode + 1},
			repeat(1, api.MaxList+1), repeat(0, api.MaxList+1), repeat(api.MaxCode, api.MaxList)} {
			checkNotEncoded(t, kind, l, api.ErrKind)
		}
	}
}

func TestEncodeTooMany(t *testing.T) {
	// The numbers are invalid or have too many bits as well, but the length is checked first.
	for _, kind := range kinds {
		for _, count := range []int{api.MaxList + 1, api.MaxList + 64, 10000} {
			for _, n := range []int{1, 5, api.MaxCode, 0, -1, api.MaxCode + 1, math.MinInt, math.MaxInt} {
				checkNotEncoded(t, kind, repeat(n, count), api.ErrSize)
			}
		}
	}
}

func TestEncodeWrongNumbers(t *testing.T) {
	for _, kind := range kinds {
		for _, n := range uncodable {
			for _, l := range [][]int{{n}, {1, n}, {n, 1}, {5, n, api.MaxCode}, append(repeat(1, api.MaxList-1), n)} {
				checkNotEncoded(t, kind, l, api.ErrRange)
			}
			// The numbers before and behind it have too many bits as well, but each number is checked first.
			checkNotEncoded(t, kind, append(repeat(api.MaxCode, api.MaxList-1), n), api.ErrRange)
			checkNotEncoded(t, kind, append([]int{n}, repeat(api.MaxCode, api.MaxList-1)...), api.ErrRange)
		}
	}
}

func TestCost(t *testing.T) {
	checkCost(t, api.Gamma, 5, 5, api.OK)
	checkCost(t, api.Gamma, 1000, 19, api.OK)
	checkCost(t, api.Delta, 1000, 16, api.OK)
	checkCost(t, api.Gamma, api.MaxCode, 41, api.OK)
	checkCost(t, api.Delta, api.MaxCode, 29, api.OK)
	for _, kind := range kinds {
		for _, n := range uncodable {
			checkCost(t, kind, n, 0, api.ErrRange)
		}
	}
	// The numbers are invalid as well, but the kind is checked first.
	for _, kind := range unknownKinds {
		for _, n := range append([]int{1, 5, api.MaxCode}, uncodable...) {
			checkCost(t, kind, n, 0, api.ErrKind)
		}
	}
}

// invalid returns vectors that are not valid.
func invalid() []api.Bits {
	zero, full := make([]uint64, 70), slices.Repeat([]uint64{allOnes}, 70)
	l := []api.Bits{
		{Len: 1, Words: []uint64{2}}, {Len: 1, Words: []uint64{3}}, {Len: 63, Words: full[:1]},
		{Len: 65, Words: full[:2]}, {Len: 1, Words: full[:2]}, {Len: 64, Words: full[:2]}, {Len: 64}, {Len: 1},
		{Len: 65, Words: full[:1]}, {Len: 0, Words: zero[:1]}, {Len: 0, Words: full[:1]},
		{Len: 3, Words: []uint64{8}}, {Len: 21, Words: []uint64{1 << 21}},
		{Len: api.MaxBits, Words: full[:63]}, {Len: api.MaxBits, Words: full[:65]},
	}
	for _, n := range []int{-1, -64, -65, math.MinInt, api.MaxBits + 1, api.MaxBits + 64, math.MaxInt - 63, math.MaxInt} {
		for _, words := range [][]uint64{nil, {}, {0}, {1}, zero[:65], full[:65], full} {
			l = append(l, api.Bits{Len: n, Words: words})
		}
	}
	return l
}

func TestDecodeUnknownKindOrVector(t *testing.T) {
	for _, b := range invalid() {
		for _, kind := range kinds {
			checkNotDecoded(t, kind, b, api.ErrForm)
		}
		for _, kind := range unknownKinds {
			checkNotDecoded(t, kind, b, api.ErrKind)
		}
	}
	// The bits are invalid as well, but the kind is checked first.
	for _, text := range []string{"", "1", "0", "1010", "01101", zeros(21), strings.Repeat("1", api.MaxList+1)} {
		for _, kind := range unknownKinds {
			checkNotDecoded(t, kind, vector(text), api.ErrKind)
		}
	}
}

func TestDecodeShort(t *testing.T) {
	checkNotDecoded(t, api.Gamma, api.Bits{Len: 2, Words: []uint64{2}}, api.ErrShort)
	// The bits end behind each bit of the code but the last one.
	for _, kind := range kinds {
		for _, n := range numbers() {
			text := code(kind, n)
			for end := 1; end < len(text); end++ {
				checkNotDecoded(t, kind, vector(text[:end]), api.ErrShort)
				checkNotDecoded(t, kind, vector("1"+text[:end]), api.ErrShort)
				checkNotDecoded(t, kind, vector(codes(kind, repeat(5, 11))+text[:end]), api.ErrShort)
			}
		}
	}
}

func TestDecodeZeros(t *testing.T) {
	for _, kind := range kinds {
		for _, before := range []string{"", "1", code(kind, 5), code(kind, api.MaxCode), codes(kind, repeat(5, 12))} {
			for n := 1; n <= 20; n++ {
				checkNotDecoded(t, kind, vector(before+zeros(n)), api.ErrShort)
				checkNotDecoded(t, kind, vector(before+zeros(n)+"1"), api.ErrShort)
			}
			for _, behind := range []string{"", "0", "1", "11", zeros(64), "1" + zeros(20), "1" + zeros(64)} {
				checkNotDecoded(t, kind, vector(before+zeros(21)+behind), api.ErrRange)
			}
		}
		checkNotDecoded(t, kind, vector(zeros(api.MaxBits)), api.ErrRange)
	}
	checkDecode(t, api.Gamma, zeros(20)+"1"+zeros(20), api.MaxCode)
	// A length with 20 zeros before it is read to its end, although all such lengths are too large.
	for end := range 20 {
		checkNotDecoded(t, api.Delta, vector(zeros(20)+"1"+zeros(end)), api.ErrShort)
	}
	checkNotDecoded(t, api.Delta, vector(zeros(20)+"1"+zeros(20)), api.ErrRange)
}

func TestDecodeLengths(t *testing.T) {
	checkDecode(t, api.Delta, code(api.Gamma, 20)+zeros(19), 1<<19)
	checkDecode(t, api.Delta, code(api.Gamma, 20)+strings.Repeat("1", 19), 1<<20-1)
	checkDecode(t, api.Delta, code(api.Gamma, 21)+zeros(20), api.MaxCode)
	for _, length := range []int{20, 21} {
		for end := range length - 1 {
			checkNotDecoded(t, api.Delta, vector(code(api.Gamma, length)+zeros(end)), api.ErrShort)
			checkNotDecoded(t, api.Delta, vector(code(api.Gamma, length)+strings.Repeat("1", end)), api.ErrShort)
		}
	}
	// A length that is too large is an error as soon as it has been read, but not before.
	for _, length := range []int{22, 23, 31, 32, 33, 63, 64, 65, 1000, 1 << 19, 1 << 20, 1<<20 + 1, 1<<21 - 1} {
		text := code(api.Gamma, length)
		checkNotDecoded(t, api.Delta, vector(text[:len(text)-1]), api.ErrShort)
		for _, behind := range []string{"", "0", "1", zeros(20), zeros(21), zeros(22), strings.Repeat("1", 64)} {
			checkNotDecoded(t, api.Delta, vector(text+behind), api.ErrRange)
			checkNotDecoded(t, api.Delta, vector("1"+text+behind), api.ErrRange)
		}
	}
}

func TestDecodeTooLarge(t *testing.T) {
	for _, kind := range kinds {
		for _, n := range []int{api.MaxCode + 1, api.MaxCode + 2, api.MaxCode + 1<<19, 2*api.MaxCode - 1} {
			text := code(kind, n)
			// The number is not known until its last digit has been read.
			for end := 1; end < len(text); end++ {
				checkNotDecoded(t, kind, vector(text[:end]), api.ErrShort)
			}
			for _, behind := range []string{"", "0", "1", zeros(20), zeros(21)} {
				checkNotDecoded(t, kind, vector(text+behind), api.ErrRange)
				checkNotDecoded(t, kind, vector("1"+text+behind), api.ErrRange)
			}
		}
	}
}

func TestDecodeFirstError(t *testing.T) {
	for _, kind := range kinds {
		large := code(kind, api.MaxCode+1)
		checkNotDecoded(t, kind, vector(large+zeros(5)), api.ErrRange)
		checkNotDecoded(t, kind, vector(zeros(5)+"1"), api.ErrShort)
		checkNotDecoded(t, kind, vector("1"+zeros(21)+large), api.ErrRange)
	}
	checkNotDecoded(t, api.Delta, vector(code(api.Gamma, 22)+zeros(3)), api.ErrRange)
}

func TestDecodeTooMany(t *testing.T) {
	for _, kind := range kinds {
		for _, n := range []int{1, 2, 3} {
			text := codes(kind, repeat(n, api.MaxList))
			checkDecode(t, kind, text, repeat(n, api.MaxList)...)
			checkNotDecoded(t, kind, vector(text+"1"), api.ErrSize)
			checkNotDecoded(t, kind, vector(text+code(kind, 5)), api.ErrSize)
			checkNotDecoded(t, kind, vector(text+codes(kind, repeat(1, 100))), api.ErrSize)
			// An error in a code comes first, just behind MaxList numbers and further on.
			for _, more := range []string{text, text + "1", text + codes(kind, repeat(4, 100))} {
				checkNotDecoded(t, kind, vector(more+"0"), api.ErrShort)
				checkNotDecoded(t, kind, vector(more+code(kind, 5)[:4]), api.ErrShort)
				checkNotDecoded(t, kind, vector(more+zeros(20)), api.ErrShort)
				checkNotDecoded(t, kind, vector(more+zeros(21)), api.ErrRange)
				checkNotDecoded(t, kind, vector(more+code(kind, api.MaxCode+1)), api.ErrRange)
			}
		}
		checkNotDecoded(t, kind, vector(strings.Repeat("1", api.MaxBits)), api.ErrSize)
		checkNotDecoded(t, kind, vector(strings.Repeat("1", api.MaxBits-1)+"0"), api.ErrShort)
	}
	tooMany := strings.Repeat("1", api.MaxList+1)
	checkNotDecoded(t, api.Delta, vector(tooMany+code(api.Gamma, 22)), api.ErrRange)
}

// parsed returns the numbers whose codes the text of at most 20 bits consists of, and whether it consists of codes.
func parsed(kind int, text string) ([]int, bool) {
	var l []int
	for text != "" {
		n := 1
		for n < 1<<len(text) && !strings.HasPrefix(text, code(kind, n)) {
			n++
		}
		if n == 1<<len(text) {
			return nil, false
		}
		l = append(l, n)
		text = text[len(code(kind, n)):]
	}
	return l, true
}

func TestDecodeEachShortVector(t *testing.T) {
	// These bits are too few for a number or a length that is too large.
	for _, kind := range kinds {
		for size := 1; size <= 8; size++ {
			for pattern := range 1 << size {
				text := binary(1<<size + pattern)[1:]
				if l, ok := parsed(kind, text); ok {
					checkBoth(t, kind, l)
					checkDecode(t, kind, text, l...)
				} else {
					checkNotDecoded(t, kind, vector(text), api.ErrShort)
				}
			}
		}
	}
}

func TestEncodeKeepsNothing(t *testing.T) {
	for _, kind := range kinds {
		whole := append(mixed(7, 100), 0, -1)
		before := slices.Clone(whole)
		first, err := gam.Encode(kind, whole[:90])
		second, _ := gam.Encode(kind, whole[:90])
		checkNotEncoded(t, kind, whole, api.ErrRange)
		if err != api.OK || !slices.Equal(whole, before) {
			t.Errorf("Encode(%d): error %d; its argument is %v", kind, err, whole)
		}
		for i := range whole {
			whole[i] = 1
		}
		spare := first.Words[:cap(first.Words)]
		for j := range spare {
			spare[j] = allOnes
		}
		if want := vector(codes(kind, before[:90])); !slices.Equal(second.Words, want.Words) {
			t.Errorf("a vector changed with the list or another vector: %#x; want %#x", second.Words, want.Words)
		}
	}
}

func TestDecodeKeepsNothing(t *testing.T) {
	for _, kind := range kinds {
		want := mixed(9, 50)
		b := vector(codes(kind, want))
		// The spare capacity has one bits, which are no bits of the vector.
		store := append(slices.Clone(b.Words), allOnes, allOnes)
		before := slices.Clone(store)
		b.Words = store[:len(b.Words)]
		first, err := gam.Decode(kind, b)
		second, _ := gam.Decode(kind, b)
		if err != api.OK || !slices.Equal(store, before) {
			t.Errorf("Decode(%d): error %d; the words are %#x; want %#x", kind, err, store, before)
		}
		clear(store)
		spare := first[:cap(first)]
		for i := range spare {
			spare[i] = -1
		}
		if !slices.Equal(second, want) {
			t.Errorf("a list changed with the vector or another list: %v; want %v", second, want)
		}
	}
}
