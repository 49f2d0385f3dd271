package stamps_test

import (
	"strconv"
	"strings"
	"testing"

	"stamps/api"
	"stamps/stamps"
)

const (
	end      = uint64(1) << 63
	greatest = end - 1
)

// someNumbers has the edges of every bit and numbers strewn between them.
func someNumbers() []uint64 {
	list := []uint64{0, greatest, 4202499}
	for bit := range 63 {
		power := uint64(1) << bit
		list = append(list, power-1, power, power+1)
	}
	strewn := uint64(1)
	for range 2000 {
		strewn = strewn*6364136223846793005 + 1442695040888963407
		list = append(list, strewn>>1)
	}
	return list
}

func noNumbers() []uint64 {
	return []uint64{end, end + 1, end + 4202499, 1<<64 - 2, 1<<64 - 1}
}

func checkDecimal(t *testing.T, n uint64, want string) {
	t.Helper()
	if text, e := stamps.Decimal(n); text != want || e != api.OK {
		t.Errorf("Decimal(%d) = %q, %d; want %q", n, text, e, want)
	}
	if back, e := stamps.ParseDecimal(want); back != n || e != api.OK {
		t.Errorf("ParseDecimal(%q) = %d, %d; want %d", want, back, e, n)
	}
}

func checkShort(t *testing.T, n uint64, want string) {
	t.Helper()
	if text, e := stamps.Short(n); text != want || e != api.OK {
		t.Errorf("Short(%d) = %q, %d; want %q", n, text, e, want)
	}
	checkParseShort(t, want, n, api.OK)
}

func checkParseShort(t *testing.T, text string, want uint64, wantErr api.Errno) {
	t.Helper()
	if n, e := stamps.ParseShort(text); n != want || e != wantErr {
		t.Errorf("ParseShort(%q) = %d, %d; want %d, %d", text, n, e, want, wantErr)
	}
}

func checkParts(t *testing.T, n uint64, want api.Parts) {
	t.Helper()
	if p, e := stamps.Parts(n); p != want || e != api.OK {
		t.Errorf("Parts(%d) = %+v, %d; want %+v", n, p, e, want)
	}
}

func TestP2WorkedNumbers(t *testing.T) {
	for _, c := range []struct {
		n              uint64
		decimal, short string
		parts          api.Parts
	}{
		{0, "0", "0000000000000", api.Parts{}},
		{4095, "4095", "00000000003ZZ", api.Parts{Seq: api.Seqs - 1}},
		{4096, "4096", "0000000000400", api.Parts{Node: 1}},
		{1<<22 - 1, "4194303", "000000003ZZZZ", api.Parts{Node: api.Nodes - 1, Seq: api.Seqs - 1}},
		{1 << 22, "4194304", "0000000040000", api.Parts{Time: 1}},
		{4202499, "4202499", "0000000040803", api.Parts{Time: 1, Node: 2, Seq: 3}},
		{end - 1<<22, "9223372036850581504", "7ZZZZZZZW0000", api.Parts{Time: api.MaxTime - 1}},
		{greatest, "9223372036854775807", "7ZZZZZZZZZZZZ", api.Parts{Time: api.MaxTime - 1, Node: api.Nodes - 1, Seq: api.Seqs - 1}},
	} {
		checkDecimal(t, c.n, c.decimal)
		checkShort(t, c.n, c.short)
		checkParts(t, c.n, c.parts)
	}
}

func TestP2ManyNumbers(t *testing.T) {
	toShort := strings.NewReplacer(
		"i", "J", "j", "K", "k", "M", "l", "N", "m", "P", "n", "Q", "o", "R",
		"p", "S", "q", "T", "r", "V", "s", "W", "t", "X", "u", "Y", "v", "Z",
		"a", "A", "b", "B", "c", "C", "d", "D", "e", "E", "f", "F", "g", "G", "h", "H")
	for _, n := range someNumbers() {
		base32 := toShort.Replace(strconv.FormatUint(n, 32))
		checkDecimal(t, n, strconv.FormatUint(n, 10))
		checkShort(t, n, strings.Repeat("0", 13-len(base32))+base32)
		checkParts(t, n, api.Parts{Time: int(n >> 22), Node: int(n >> 12 & 1023), Seq: int(n & 4095)})
	}
}

func TestP2NoNumbers(t *testing.T) {
	for _, n := range noNumbers() {
		if text, e := stamps.Decimal(n); text != "" || e != api.ErrRange {
			t.Errorf("Decimal(%d) = %q, %d", n, text, e)
		}
		if text, e := stamps.Short(n); text != "" || e != api.ErrRange {
			t.Errorf("Short(%d) = %q, %d", n, text, e)
		}
		if p, e := stamps.Parts(n); p != (api.Parts{}) || e != api.ErrRange {
			t.Errorf("Parts(%d) = %+v, %d", n, p, e)
		}
	}
}

func checkNoDecimal(t *testing.T, text string) {
	t.Helper()
	if n, e := stamps.ParseDecimal(text); n != 0 || e != api.ErrText {
		t.Errorf("ParseDecimal(%.40q) = %d, %d", text, n, e)
	}
}

func TestP2NoDecimalTexts(t *testing.T) {
	for _, text := range []string{
		"", " ", "00", "01", "0000000000001", "09223372036854775807", strings.Repeat("0", 100000),
		"+0", "+1", "-0", "-1", "+", "-", "--1", "\u22121",
		" 1", "1 ", "1\n", "\t1", "1 2", "1\x00", "\x001",
		"1_0", "1,000", "1.0", "1.", "1e3", "0x1", "0b1", "0o7", "1u",
		"a", "12a", "a12", "I", "l", "O", "\u0661", "\uff11", "\xff", "1\xff",
		"9223372036854775808", "9223372036854775809", "9999999999999999999",
		"18446744073709551615", "18446744073709551616", "18446744073709551617",
		"10000000000000000000", "36893488147419103232", strings.Repeat("9", 100000),
	} {
		checkNoDecimal(t, text)
	}
}

func TestP2DecimalTextsOfEveryByte(t *testing.T) {
	for b := range 256 {
		letter := string([]byte{byte(b)})
		if b < '0' || b > '9' {
			checkNoDecimal(t, letter)
			checkNoDecimal(t, "4"+letter+"2")
			continue
		}
		checkDecimal(t, uint64(b-'0'), letter)
		checkDecimal(t, 402+10*uint64(b-'0'), "4"+letter+"2")
	}
}

// letterWorths is written out by hand, apart from the program's own table.
func letterWorths() map[byte]uint64 {
	return map[byte]uint64{
		'0': 0, '1': 1, '2': 2, '3': 3, '4': 4, '5': 5, '6': 6, '7': 7, '8': 8, '9': 9,
		'A': 10, 'B': 11, 'C': 12, 'D': 13, 'E': 14, 'F': 15, 'G': 16, 'H': 17, 'J': 18, 'K': 19, 'M': 20,
		'N': 21, 'P': 22, 'Q': 23, 'R': 24, 'S': 25, 'T': 26, 'V': 27, 'W': 28, 'X': 29, 'Y': 30, 'Z': 31,
		'a': 10, 'b': 11, 'c': 12, 'd': 13, 'e': 14, 'f': 15, 'g': 16, 'h': 17, 'j': 18, 'k': 19, 'm': 20,
		'n': 21, 'p': 22, 'q': 23, 'r': 24, 's': 25, 't': 26, 'v': 27, 'w': 28, 'x': 29, 'y': 30, 'z': 31,
		'I': 1, 'i': 1, 'L': 1, 'l': 1, 'O': 0, 'o': 0,
	}
}

func TestP2EveryByteAtEveryPlaceOfAShortText(t *testing.T) {
	worths := letterWorths()
	for place := range 13 {
		for b := range 256 {
			text := []byte("0000000000000")
			text[place] = byte(b)
			worth, isLetter := worths[byte(b)]
			switch {
			case !isLetter:
				checkParseShort(t, string(text), 0, api.ErrText)
			case place == 0 && worth > 7:
				checkParseShort(t, string(text), 0, api.ErrRange)
			default:
				checkParseShort(t, string(text), worth<<(5*(12-place)), api.OK)
			}
		}
	}
}

// What the table tells of a byte is what ParseShort, which works without it, makes of it.
func TestLetterWorthIsWhatParseShortReads(t *testing.T) {
	worths := letterWorths()
	for b := range 256 {
		letter := byte(b)
		want, wantErr := int(worths[letter]), api.OK
		if _, isLetter := worths[letter]; !isLetter {
			wantErr = api.ErrText
		}
		if worth, e := stamps.LetterWorth(letter); worth != want || e != wantErr {
			t.Errorf("LetterWorth(%q) = %d, %d; want %d, %d", letter, worth, e, want, wantErr)
		}
		checkParseShort(t, "000000000000"+string([]byte{letter}), uint64(want), wantErr)
	}
}

func TestP2ShortTextsCopiedByHand(t *testing.T) {
	for text, want := range map[string]uint64{
		"oooooooo4o8o3": 4202499,
		"OOOOOOOO4O8O3": 4202499,
		"ooooOOOO40803": 4202499,
		"7zzzzzzzzzzzz": greatest,
		"7ZzZzZzZzZzZz": greatest,
		"IiLlIiLlIiLl1": (1<<65 - 1) / 31,
		"ooooooooooooo": 0,
	} {
		checkParseShort(t, text, want, api.OK)
	}
}

func TestP2ShortTextsBeyondTheNumbers(t *testing.T) {
	for _, text := range []string{
		"8000000000000", "8000000000001", "FZZZZZZZZZZZZ",
		"G000000000000", "G000000040803", "R000000000000", "ZZZZZZZZZZZZZ", "zzzzzzzzzzzzz", "8oooooooooooo",
	} {
		checkParseShort(t, text, 0, api.ErrRange)
	}
}

func TestP2NoShortTexts(t *testing.T) {
	for _, text := range []string{
		"", "0", "7", "4202499", "000000040803", "00000000040803", "80000000000000", "ZZZZZZZZZZZZ",
		strings.Repeat("0", 26), strings.Repeat("0", 100000), strings.Repeat("Z", 100000),
		"000000000000U", "u000000000000", "000000-040803", "+000000040803", "-000000040803",
		" 000000040803", "000000040803 ", " 0000000040803", "0000000040803\n", "000000040803\x00",
		// Thirteen bytes or thirteen runes, with runes that look or fold like letters.
		"00000000000\u00e9", "000000000000\u00e9", "00000000000\u017f", "000000000000\u017f", "0000000000\u212a", "000000000000\u212a",
		"000000000000\u0130", "00000000000\u0131", "0000000000\uff11", "000000000000\uff11", "\xff\xff\xff\xff\xff\xff\xff\xff\xff\xff\xff\xff\xff",
	} {
		checkParseShort(t, text, 0, api.ErrText)
	}
}

// A wrong letter is named ahead of the range, wherever it stands.
func TestP2WrongLettersGoAheadOfRange(t *testing.T) {
	for _, text := range []string{"8000000000U00", "ZZZZZZZZZZZZU", "ZUZZZZZZZZZZZ", "G00000000000-", "UZZZZZZZZZZZZ"} {
		checkParseShort(t, text, 0, api.ErrText)
	}
}
