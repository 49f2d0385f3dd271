package stamps_test

import (
	"strings"
	"testing"

	"stamps/api"
	"stamps/stamps"
)

// checkAnyText wants of a text, be it what it may, nil and ErrText, or an office that lends.
func checkAnyText(t *testing.T, text string) {
	t.Helper()
	o, e := stamps.NewOffice(text, 10)
	if o == nil && e == api.ErrText {
		return
	}
	if o == nil || e != api.OK {
		t.Fatalf("NewOffice(%q, 10) = %v, %d", text, o, e)
	}
	for _, node := range []int{0, 7, api.Nodes - 1} {
		l, e := o.Lease(node, 3)
		if e == api.ErrSpent && l == (api.Lease{}) {
			continue // the text may have told that all times of this node are lent
		}
		if e != api.OK || l.Node != node || l.From < 3 || l.To != l.From+10 || l.To > api.MaxTime {
			t.Fatalf("behind %q Lease(%d, 3) = %+v, %d", text, node, l, e)
		}
		// What it lends from here on is kept like what any office lends.
		next := newOffice(t, o.Journal(), 10)
		if m, e := next.Lease(node, 3); e == api.OK && m.From != l.To || e != api.OK && e != api.ErrSpent {
			t.Fatalf("behind %q and %+v Lease(%d, 3) = %+v, %d", text, l, node, m, e)
		}
	}
	checkNoLease(t, o, api.Nodes, 0, api.ErrNode)
}

func TestP7BytesOfEveryKind(t *testing.T) {
	for b := range 256 {
		letter := string([]byte{byte(b)})
		for _, size := range []int{1, 2, 3, 12, 13, 14, 26, 1000} {
			checkAnyText(t, strings.Repeat(letter, size))
		}
	}
}

func TestP7LongTexts(t *testing.T) {
	for _, text := range []string{
		"\n", " ", "0", "Z", "7ZZZZZZZZZZZZ", "0000000000ZZZ", "7 5 15\n", "7,5,15;", "\xff\xfe", "\u00e9\u212a", "{}[]\"", "-1 ",
	} {
		checkAnyText(t, text)
		checkAnyText(t, strings.Repeat(text, 100000))
	}
}

func TestP7GreatNumbersWithinTexts(t *testing.T) {
	for _, number := range []string{
		"9223372036854775807", "9223372036854775808", "-9223372036854775808", "18446744073709551615", "18446744073709551616",
		"2199023255552", "2199023255553", "1024", "1023", "-1", strings.Repeat("9", 1000), "1e400", "0x7fffffffffffffff",
	} {
		for _, between := range []string{" ", "\n", ",", ":", "", "\x00"} {
			checkAnyText(t, number+between+number+between+number+between)
			checkAnyText(t, number+between+number+between+number+"\n")
			checkAnyText(t, "7"+between+"5"+between+number+"\n")
			checkAnyText(t, number+between+"5"+between+"15\n")
		}
	}
}

func TestP7ChangedJournals(t *testing.T) {
	journal := grow(t, 1).journal[:65]
	for place := range len(journal) {
		for b := range 256 {
			checkAnyText(t, journal[:place]+string([]byte{byte(b)})+journal[place+1:])
		}
		checkAnyText(t, journal[:place]+journal[place+1:])                      // one byte is lost
		checkAnyText(t, journal[:place]+"0"+journal[place:])                    // one is too many
		checkAnyText(t, journal[:place]+journal[place:place+1]+journal[place:]) // one is doubled
		checkAnyText(t, journal[place:])
		checkAnyText(t, journal[place:]+journal[:place])
		checkAnyText(t, journal+journal[place:])
	}
	checkAnyText(t, strings.ToLower(journal))
	checkAnyText(t, strings.ReplaceAll(journal, "0", "O"))
}

func TestP7StrewnTexts(t *testing.T) {
	s := strewn(9)
	for range 3000 {
		text := make([]byte, s.below(80))
		for i := range text {
			text[i] = byte(s.below(256))
		}
		checkAnyText(t, string(text))
		for i := range text {
			text[i] = "0123456789ABCDEFGHJKMNPQRSTVWXYZ \n"[s.below(34)]
		}
		checkAnyText(t, string(text))
	}
}

// The document leaves these open. They are refused, since an office that began with them might lend what was lent.
func TestTextsThatNoOfficeTold(t *testing.T) {
	o := newOffice(t, "", 10)
	checkLease(t, o, 5, lease(7, 5, 15))
	first := o.Journal()
	checkLease(t, o, 0, lease(7, 15, 25))
	second := o.Journal()[len(first):]
	for _, text := range []string{
		"no journal", "\n", " ", "7 5 15\n",
		first + first, first + second + second, first + second + first, second + first,
		(first + second)[1:], first + "\n" + second, first + second + "\n", first + "?", first + strings.ToLower(second),
		strings.ReplaceAll(first, "0", "o"), first[:5] + second, first + second[:5] + second,
	} {
		checkNoOffice(t, text, 10, api.ErrText)
	}
}
