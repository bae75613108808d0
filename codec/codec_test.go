package codec

import (
	"encoding/binary"
	"math"
	"math/big"
	"slices"
	"strings"
	"testing"

	"privity/api"
)

// sampler yields a fixed sequence of words, so that every run tests the same cases.
type sampler struct{ state uint64 }

func (s *sampler) word() uint64 {
	s.state += 0x9e3779b97f4a7c15
	z := s.state
	z = (z ^ z>>30) * 0xbf58476d1ce4e5b9
	z = (z ^ z>>27) * 0x94d049bb133111eb
	return z ^ z>>31
}

func (s *sampler) list(length int) []uint64 {
	list := make([]uint64, length)
	for i := range list {
		list[i] = s.word() >> (s.word() % 64)
	}
	return list
}

// bytesFor returns the encoding of a list as the chapter defines it, without the code under test.
func bytesFor(words []uint64) string {
	var text []byte
	for _, word := range words {
		text = binary.LittleEndian.AppendUint64(text, word)
	}
	return string(text)
}

// flat returns the words of which the encoding of a list of lists consists.
func flat(lists [][]uint64) []uint64 {
	words := []uint64{uint64(len(lists))}
	for _, list := range lists {
		words = append(words, uint64(len(list)))
		words = append(words, list...)
	}
	return words
}

func sameLists(a, b [][]uint64) bool {
	return slices.EqualFunc(a, b, func(x, y []uint64) bool { return slices.Equal(x, y) })
}

// edgeWords holds the least and the greatest words, the edges of their bytes, and words with eight different bytes.
func edgeWords() []uint64 {
	list := []uint64{0, 1, 2, 7, 258, 0x0102030405060708, 0xfedcba9876543210, math.MaxInt64, math.MaxUint64}
	for shift := range 64 {
		list = append(list, 1<<shift, 1<<shift-1, math.MaxUint64<<shift)
	}
	return list
}

// wordLists returns the lists on which the encoding of a list is tested.
func wordLists() [][]uint64 {
	lists := [][]uint64{nil, {}, edgeWords()}
	for _, word := range edgeWords() {
		lists = append(lists, []uint64{word}, []uint64{word, 0}, []uint64{0, word})
	}
	s := sampler{1}
	for length := range 40 {
		lists = append(lists, s.list(length), make([]uint64, length))
	}
	return append(lists, s.list(10000))
}

// shortLists returns all lists of at most the given length whose words are among those given, the empty list first.
func shortLists(length int, words ...uint64) [][]uint64 {
	lists := [][]uint64{nil}
	for first := 0; len(lists[first]) < length; first++ {
		for _, word := range words {
			lists = append(lists, append(slices.Clone(lists[first]), word))
		}
	}
	return lists
}

// listsOfLists returns the lists of lists on which their encoding is tested, all of them different.
func listsOfLists() [][][]uint64 {
	inner := shortLists(2, 0, 1, 2)
	all := [][][]uint64{nil}
	for _, a := range inner {
		all = append(all, [][]uint64{a})
		for _, b := range inner {
			all = append(all, [][]uint64{a, b})
			for _, c := range inner {
				all = append(all, [][]uint64{a, b, c})
			}
		}
	}
	s := sampler{2}
	for count := range 30 {
		lists := make([][]uint64, count+4)
		for i := range lists {
			lists[i] = s.list(int(s.word() % 6))
		}
		all = append(all, lists)
	}
	for _, word := range []uint64{3, 256, 1 << 32, 1 << 63, math.MaxUint64} {
		all = append(all, [][]uint64{{word}}, [][]uint64{{word, word}, nil}, [][]uint64{nil, {word, 0}})
	}
	return append(all, make([][]uint64, 300), [][]uint64{s.list(1000)}, [][]uint64{nil, s.list(1000), nil, nil})
}

func checkWords(t *testing.T, s string, want []uint64) {
	t.Helper()
	if got, errno := DecodeWords(s); !slices.Equal(got, want) || errno != api.OK {
		t.Errorf("DecodeWords(%q): got %d and error %d, want %d", s, got, errno, want)
	}
}

func checkNoWords(t *testing.T, s string) {
	t.Helper()
	if got, errno := DecodeWords(s); len(got) != 0 || errno != api.ErrFormat {
		t.Errorf("DecodeWords(%q): got %d and error %d, want ErrFormat", s, got, errno)
	}
}

func checkLists(t *testing.T, s string, want [][]uint64) {
	t.Helper()
	if got, errno := DecodeLists(s); !sameLists(got, want) || errno != api.OK {
		t.Errorf("DecodeLists(%q): got %d and error %d, want %d", s, got, errno, want)
	}
}

func checkNoLists(t *testing.T, s string) {
	t.Helper()
	if got, errno := DecodeLists(s); len(got) != 0 || errno != api.ErrFormat {
		t.Errorf("DecodeLists(%q): got %d and error %d, want ErrFormat", s, got, errno)
	}
}

func checkNumber(t *testing.T, s string, want uint64, wantErrno api.Errno) {
	t.Helper()
	if got, errno := ParseDecimal(s); got != want || errno != wantErrno {
		t.Errorf("ParseDecimal(%.40q), %d bytes: got %d and error %d, want %d and error %d", s, len(s), got, errno, want, wantErrno)
	}
}

func TestEncodeWords(t *testing.T) { // P3.1
	for _, list := range wordLists() {
		if got, want := EncodeWords(list), bytesFor(list); got != want {
			t.Errorf("EncodeWords(%d) is %q, want %q", list, got, want)
		}
	}
}

func TestBytesOfAWord(t *testing.T) { // P3.1
	for i := range 8 {
		want := strings.Repeat("\x00", i) + "\xa5" + strings.Repeat("\x00", 7-i)
		if got := EncodeWords([]uint64{0xa5 << (8 * i)}); got != want {
			t.Errorf("byte %d: got %q, want %q", i, got, want)
		}
		checkWords(t, want, []uint64{0xa5 << (8 * i)})
	}
	want := "\x08\x07\x06\x05\x04\x03\x02\x01"
	if got := EncodeWords([]uint64{0x0102030405060708}); got != want {
		t.Errorf("got %q, want %q", got, want)
	}
	// The iterator ends where its loop is left.
	for range bytesOf(math.MaxUint64) {
		break
	}
}

func TestDecodeWords(t *testing.T) { // P3.1
	checkWords(t, "", nil)
	for _, list := range wordLists() {
		checkWords(t, bytesFor(list), list)
	}
}

func TestDecodeWordsOfOtherLengths(t *testing.T) { // P3.1
	for length := range 100 {
		for _, filling := range []string{"\x00", "a", "\xff"} {
			s := strings.Repeat(filling, length)
			if length%8 != 0 {
				checkNoWords(t, s)
				continue
			}
			if got, errno := DecodeWords(s); len(got) != length/8 || errno != api.OK {
				t.Errorf("DecodeWords of %d bytes: got %d and error %d", length, got, errno)
			}
		}
	}
}

func TestEncodeLists(t *testing.T) { // P3.2
	for _, lists := range listsOfLists() {
		if got, want := EncodeLists(lists), bytesFor(flat(lists)); got != want {
			t.Errorf("EncodeLists(%d) is %q, want %q", lists, got, want)
		}
	}
}

// encodings holds lists of lists with the words of their encodings, written out.
var encodings = []struct {
	lists [][]uint64
	words []uint64
}{
	{nil, []uint64{0}},
	{[][]uint64{}, []uint64{0}},
	{[][]uint64{nil}, []uint64{1, 0}},
	{[][]uint64{{}, nil}, []uint64{2, 0, 0}},
	{[][]uint64{nil, {0}, nil}, []uint64{3, 0, 1, 0, 0}},
	{[][]uint64{{0}}, []uint64{1, 1, 0}},
	{[][]uint64{{1, 2, 3}}, []uint64{1, 3, 1, 2, 3}},
	{[][]uint64{{math.MaxUint64}, {1 << 63, 9}}, []uint64{2, 1, math.MaxUint64, 2, 1 << 63, 9}},
}

func TestEdgesOfLists(t *testing.T) { // P3.2
	for _, c := range encodings {
		if got, want := EncodeLists(c.lists), bytesFor(c.words); got != want {
			t.Errorf("EncodeLists(%d) is %q, want %q", c.lists, got, want)
		}
		checkLists(t, bytesFor(c.words), c.lists)
	}
}

func TestDecodeLists(t *testing.T) { // P3.2
	for _, lists := range listsOfLists() {
		checkLists(t, bytesFor(flat(lists)), lists)
	}
}

func TestDecodeListsOfOtherWords(t *testing.T) { // P3.2
	checkNoLists(t, "")
	for _, words := range [][]uint64{
		{1}, {2, 0}, {3, 0, 0}, // too few lists
		{1, 1}, {1, 2, 5}, {2, 0, 1}, {2, 1, 7}, {2, 2, 7, 0}, // too few words in the last list
		{0, 0}, {0, 1}, {1, 0, 0}, {1, 1, 7, 0}, {2, 0, 0, 5}, {1, 0, 1, 7}, // words behind the last list
	} {
		checkNoLists(t, bytesFor(words))
	}
	for _, great := range []uint64{2, 3, 4, 5, 1 << 31, 1 << 32, 1 << 61, 1<<61 + 1, 1<<63 - 1, 1 << 63, 1<<63 + 1, math.MaxUint64 - 1, math.MaxUint64} {
		checkNoLists(t, bytesFor([]uint64{great}))
		checkNoLists(t, bytesFor([]uint64{great, 0}))
		checkNoLists(t, bytesFor([]uint64{great, great}))
		checkNoLists(t, bytesFor([]uint64{1, great}))
		checkNoLists(t, bytesFor([]uint64{1, great, 0}))
		checkNoLists(t, bytesFor([]uint64{2, 0, great}))
		checkNoLists(t, bytesFor([]uint64{2, great, 0}))
		checkNoLists(t, bytesFor([]uint64{2, 1, great, great}))
	}
}

func TestDecodeListsOfOtherLengths(t *testing.T) { // P3.2
	for _, c := range encodings {
		s := bytesFor(c.words)
		for length := range len(s) {
			checkNoLists(t, s[:length])
		}
		for extra := 1; extra <= 16; extra++ {
			checkNoLists(t, s+strings.Repeat("\x00", extra))
			checkNoLists(t, s+strings.Repeat("\x01", extra))
		}
	}
}

func TestDecodeListsOfAllShortWords(t *testing.T) { // P3.2
	// Every list of at most 6 words from 0 to 3 is decoded just where it is the encoding of some list of lists.
	encoded := map[string]bool{}
	var extend func(words []uint64, left uint64)
	extend = func(words []uint64, left uint64) {
		if left == 0 {
			encoded[bytesFor(words)] = true
			return
		}
		for _, list := range shortLists(min(3, 5-len(words)), 0, 1, 2, 3) {
			next := append(slices.Clone(words), uint64(len(list)))
			next = append(next, list...)
			if len(next) < 6 || left == 1 {
				extend(next, left-1)
			}
		}
	}
	for count := range uint64(4) {
		extend([]uint64{count}, count)
	}
	for _, words := range shortLists(6, 0, 1, 2, 3) {
		s := bytesFor(words)
		_, errno := DecodeLists(s)
		if encoded[s] != (errno == api.OK) {
			t.Errorf("DecodeLists of the words %d: error %d, and that it is an encoding is %t", words, errno, encoded[s])
		}
		if !encoded[s] {
			checkNoLists(t, s)
		}
	}
}

func TestFormatDecimal(t *testing.T) { // P3.3
	check := func(n uint64) {
		if got, want := FormatDecimal(n), new(big.Int).SetUint64(n).String(); got != want {
			t.Errorf("FormatDecimal(%d) is %q, want %q", n, got, want)
		}
	}
	for n := range uint64(20000) {
		check(n)
	}
	s := sampler{6}
	for _, n := range append(edgeWords(), s.list(2000)...) {
		check(n)
	}
	for n, want := range map[uint64]string{0: "0", 9: "9", 10: "10", 1000000: "1000000", 1 << 63: "9223372036854775808", math.MaxUint64: "18446744073709551615"} {
		if got := FormatDecimal(n); got != want {
			t.Errorf("FormatDecimal(%d) is %q, want %q", n, got, want)
		}
	}
}

func TestParseDecimal(t *testing.T) { // P3.3
	for n := range uint64(20000) {
		checkNumber(t, new(big.Int).SetUint64(n).String(), n, api.OK)
	}
	s := sampler{3}
	for _, n := range append(edgeWords(), s.list(2000)...) {
		checkNumber(t, new(big.Int).SetUint64(n).String(), n, api.OK)
	}
	power := uint64(1)
	for zeros := range 20 {
		checkNumber(t, "1"+strings.Repeat("0", zeros), power, api.OK)
		power *= 10
	}
	checkNumber(t, "18446744073709551614", math.MaxUint64-1, api.OK)
	checkNumber(t, "18446744073709551615", math.MaxUint64, api.OK)
}

func TestParseDecimalOfGreatNumbers(t *testing.T) { // P3.3
	greatest := new(big.Int).SetUint64(math.MaxUint64)
	for i := int64(1); i < 3000; i++ {
		checkNumber(t, new(big.Int).Add(greatest, big.NewInt(i)).String(), 0, api.ErrRange)
	}
	for _, s := range []string{
		"18446744073709551616", "18446744073709551620", "18446744073709551700", "19000000000000000000", "20000000000000000000",
		"36893488147419103232", "55340232221128654848", "99999999999999999999", "100000000000000000000", "184467440737095516150",
	} {
		checkNumber(t, s, 0, api.ErrRange)
	}
	// Numbers that are small again modulo 2^64.
	for shift := uint(64); shift < 200; shift++ {
		power := new(big.Int).Lsh(big.NewInt(1), shift)
		checkNumber(t, power.String(), 0, api.ErrRange)
		checkNumber(t, power.Add(power, big.NewInt(5)).String(), 0, api.ErrRange)
	}
	for _, length := range []int{21, 22, 64, 100, 1000, 1000000} {
		checkNumber(t, "1"+strings.Repeat("0", length-1), 0, api.ErrRange)
		checkNumber(t, strings.Repeat("9", length), 0, api.ErrRange)
	}
}

func TestParseDecimalOfOtherText(t *testing.T) { // P3.3
	for _, s := range []string{
		"", "00", "01", "000", "0000000000000000000000000", "00000000000000000000018446744073709551616", "018446744073709551615", "007",
		"+", "-", "+0", "-0", "+1", "-1", " ", " 1", "1 ", "1 2", "\t1", "1\n", "1\x00", "\x00",
		"a", "0a", "1a", "a1", "0x1", "0b1", "0o1", "1_0", "1_000", "0_1", "1e3", "1.", "1.0", ".1", "1,0", "ff", "Inf", "NaN", "\xff", "1\x80",
		"\u0661", "\uff11", "1\u0660", "\u00b2",
	} {
		checkNumber(t, s, 0, api.ErrSyntax)
	}
	for b := range 256 {
		if b >= '0' && b <= '9' {
			continue
		}
		other := string([]byte{byte(b)})
		for _, s := range []string{other, other + "1", "1" + other, "1" + other + "1", "0" + other} {
			checkNumber(t, s, 0, api.ErrSyntax)
		}
	}
}

func TestParseDecimalOfGreatAndMalformedText(t *testing.T) { // P3.3: ErrSyntax comes first
	for _, digits := range []string{"18446744073709551616", "99999999999999999999", strings.Repeat("9", 1000)} {
		for _, s := range []string{digits + "x", "x" + digits, digits + " ", " " + digits, "+" + digits, "-" + digits, "0" + digits, digits + "_0", digits + ".", digits[:10] + "\x00" + digits[10:], digits + "-" + digits} {
			checkNumber(t, s, 0, api.ErrSyntax)
		}
	}
}

func TestDecodingAnEncoding(t *testing.T) { // P3.4
	for _, list := range append(wordLists(), shortLists(4, 0, 1, 256, math.MaxUint64)...) {
		checkWords(t, EncodeWords(list), list)
	}
	for _, lists := range listsOfLists() {
		checkLists(t, EncodeLists(lists), lists)
	}
	s := sampler{4}
	for _, n := range append(edgeWords(), s.list(2000)...) {
		checkNumber(t, FormatDecimal(n), n, api.OK)
	}
}

func TestDifferentValuesHaveDifferentEncodings(t *testing.T) { // P3.4
	words, lists, numbers := map[string]bool{}, map[string]bool{}, map[string]bool{}
	for _, list := range shortLists(5, 0, 1, 256, 1<<63) {
		s := EncodeWords(list)
		if words[s] {
			t.Errorf("%d has the encoding of another list", list)
		}
		words[s] = true
	}
	for _, list := range listsOfLists() {
		s := EncodeLists(list)
		if lists[s] {
			t.Errorf("%d has the encoding of another list of lists", list)
		}
		lists[s] = true
	}
	for n := range uint64(20000) {
		s := FormatDecimal(n)
		if numbers[s] {
			t.Errorf("%d has the decimal form of another number", n)
		}
		numbers[s] = true
	}
}

func TestDecodedStringsAreEncodings(t *testing.T) { // P3.4
	check := func(s string) {
		if list, errno := DecodeWords(s); errno == api.OK && EncodeWords(list) != s {
			t.Errorf("%q decodes as %d, which has the encoding %q", s, list, EncodeWords(list))
		}
		if lists, errno := DecodeLists(s); errno == api.OK && EncodeLists(lists) != s {
			t.Errorf("%q decodes as %d, which has the encoding %q", s, lists, EncodeLists(lists))
		}
		if n, errno := ParseDecimal(s); errno == api.OK && FormatDecimal(n) != s {
			t.Errorf("%q parses as %d, which has the decimal form %q", s, n, FormatDecimal(n))
		}
	}
	for _, words := range shortLists(6, 0, 1, 2, 3) {
		check(bytesFor(words))
	}
	for _, list := range wordLists() {
		check(bytesFor(list))
	}
	for _, bytes := range shortLists(4, '0', '1', '9', '+', '_', ' ', 0) {
		text := make([]byte, len(bytes))
		for i, b := range bytes {
			text[i] = byte(b)
		}
		check(string(text))
	}
}

func TestNoEncodingOfListsIsAPrefixOfAnother(t *testing.T) { // P3.4
	var sorted []string
	for _, lists := range listsOfLists() {
		sorted = append(sorted, EncodeLists(lists))
	}
	slices.Sort(sorted)
	for i := 1; i < len(sorted); i++ {
		// In a sorted list, a string that is a prefix of another one is a prefix of the one right behind it, too.
		if strings.HasPrefix(sorted[i], sorted[i-1]) {
			t.Errorf("%q begins with the encoding %q", sorted[i], sorted[i-1])
		}
	}
	for _, lists := range listsOfLists()[:200] {
		s := EncodeLists(lists)
		for length := range len(s) {
			checkNoLists(t, s[:length])
		}
	}
}

func TestEncodingsConcatenate(t *testing.T) { // P3.4
	short := append(shortLists(3, 0, 1, math.MaxUint64), edgeWords(), nil)
	for _, a := range short {
		for _, b := range short {
			both := slices.Concat(a, b)
			if EncodeWords(both) != EncodeWords(a)+EncodeWords(b) {
				t.Errorf("the encodings of %d and %d do not concatenate to that of %d", a, b, both)
			}
			checkWords(t, EncodeWords(a)+EncodeWords(b), both)
		}
	}
}

func TestExamples(t *testing.T) {
	if got, want := EncodeWords([]uint64{258}), "\x02\x01\x00\x00\x00\x00\x00\x00"; got != want {
		t.Errorf("the encoding of (258) is %q, want %q", got, want)
	}
	checkWords(t, "\x02\x01\x00\x00\x00\x00\x00\x00", []uint64{258})
	lists := [][]uint64{{7}, {}}
	if got, want := EncodeLists(lists), bytesFor([]uint64{2, 1, 7, 0}); got != want {
		t.Errorf("the encoding of ((7), ()) is %q, want %q", got, want)
	}
	checkLists(t, bytesFor([]uint64{2, 1, 7, 0}), lists)
}

func TestArgumentsStayAsTheyAre(t *testing.T) { // rule 5 of the document
	s := sampler{5}
	words := s.list(20)
	kept := slices.Clone(words)
	lists := [][]uint64{words[:3], words[3:3], words[5:9], words[:3]}
	EncodeWords(words[:10])
	EncodeLists(lists[:3])
	if !slices.Equal(words, kept) {
		t.Errorf("the words became %d, were %d", words, kept)
	}
	if want := [][]uint64{kept[:3], nil, kept[5:9], kept[:3]}; !sameLists(lists, want) {
		t.Errorf("the lists became %d, were %d", lists, want)
	}
}

func TestDecodedListsShareNoMemory(t *testing.T) {
	text := bytesFor([]uint64{4, 2, 11, 12, 0, 1, 13, 2, 14, 15})
	for i := range 4 {
		lists, errno := DecodeLists(text)
		if errno != api.OK || len(lists) != 4 {
			t.Fatalf("got %d and error %d", lists, errno)
		}
		// A list that reached into another one, by its words or by its spare capacity, would change it here.
		whole := lists[i][:cap(lists[i])]
		for j := range whole {
			whole[j] = 99
		}
		lists[i] = nil
		want := [][]uint64{{11, 12}, {}, {13}, {14, 15}}
		want[i] = nil
		if !sameLists(lists, want) {
			t.Errorf("a change of list %d leaves %d, want %d", i, lists, want)
		}
	}
}
