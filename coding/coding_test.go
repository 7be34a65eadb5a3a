package coding

import (
	"encoding/base64"
	"encoding/hex"
	"strings"
	"testing"

	"gatepost/api"
	"gatepost/plain"
)

// samples are texts of every byte, and of every length up to some, with bytes that differ.
func samples() []string {
	l := []string{""}
	all := make([]byte, 256)
	for i := range all {
		all[i] = byte(i)
		l = append(l, string([]byte{byte(i)}))
	}
	l = append(l, string(all))
	for n := range 40 {
		text := make([]byte, n)
		for i := range text {
			text[i] = byte(i*89 + n*53 + 200)
		}
		l = append(l, string(text), strings.Repeat("\x00", n), strings.Repeat("\xff", n))
	}
	return l
}

// wantText asks that a text came out, and no error.
func wantText(t *testing.T, call, in, got string, err error, want string) {
	t.Helper()
	if got != want || err != nil {
		t.Errorf("%s(%q) = %q, %v; want %q, nil", call, in, got, err, want)
	}
}

// wantErrForm asks that ErrForm came out, without a place, and beside it nothing.
func wantErrForm(t *testing.T, call, in, got string, err error) {
	t.Helper()
	e, place := plain.Place(err)
	if got != "" || e != api.ErrForm || place != -1 {
		t.Errorf("%s(%q) = %q, %v (place %d); want nothing, and ErrForm without a place", call, in, got, err, place)
	}
}

func TestHexTexts(t *testing.T) {
	for _, c := range [][2]string{
		{"", ""},
		{"Hi!", "486921"},
		{"\x00", "00"},
		{"\x0f\xf0", "0ff0"},
		{"\xab\xcd\xef", "abcdef"},
		{"\xff", "ff"},
		{"é", "c3a9"},
	} {
		if got := Hex(c[0]); got != c[1] {
			t.Errorf("Hex(%q) = %q; want %q", c[0], got, c[1])
		}
		got, err := Unhex(c[1])
		wantText(t, "Unhex", c[1], got, err, c[0])
	}
}

func TestHexIsReadBack(t *testing.T) {
	for _, s := range samples() {
		h := Hex(s)
		if want := hex.EncodeToString([]byte(s)); h != want {
			t.Errorf("Hex(%q) = %q; want %q", s, h, want)
		}
		got, err := Unhex(h)
		wantText(t, "Unhex", h, got, err, s)
	}
}

func TestUnhexRefuses(t *testing.T) {
	for _, s := range []string{
		"0", "f", "abc", "486921a", // odd
		"A0", "0A", "FF", "abcdeF", "aBcd", // great
		"g0", "0g", "0x", "  ", " 0", "0 ", "00 ", "\x00\x00", "00\n\n", "-1", "+1", "é", "\xff\xff", "4869gg", "gg4869",
	} {
		got, err := Unhex(s)
		wantErrForm(t, "Unhex", s, got, err)
	}
}

func TestUnhexTakesJustWhatHexWrites(t *testing.T) {
	written := map[string]string{}
	for c := range 256 {
		s := string([]byte{byte(c)})
		written[Hex(s)] = s
	}
	for a := range 256 {
		for b := range 256 {
			s := string([]byte{byte(a), byte(b)})
			got, err := Unhex(s)
			if want, ok := written[s]; ok {
				wantText(t, "Unhex", s, got, err, want)
			} else {
				wantErrForm(t, "Unhex", s, got, err)
			}
		}
	}
}

func TestLowerOfEachByte(t *testing.T) {
	for c := range 256 {
		s, want := string([]byte{byte(c)}), byte(c)
		if at := strings.IndexByte("ABCDEFGHIJKLMNOPQRSTUVWXYZ", want); at >= 0 {
			want = "abcdefghijklmnopqrstuvwxyz"[at]
		}
		if got := Lower(s); got != string([]byte{want}) {
			t.Errorf("Lower(%q) = %q; want %q", s, got, []byte{want})
		}
	}
}

func TestLowerOfTexts(t *testing.T) {
	for _, c := range [][2]string{
		{"", ""},
		{"abc", "abc"},
		{"ABC xyz XYZ", "abc xyz xyz"},
		{"@AZ[`az{", "@az[`az{"},
		{"WWW-Authenticate: 09", "www-authenticate: 09"},
		{"ÄÉ", "ÄÉ"},                     // letters beyond ASCII stay
		{"\u212a\u0130", "\u212a\u0130"}, // and those whose small ones are of ASCII
		{"A\xffB\x80\xc3", "a\xffb\x80\xc3"},
	} {
		if got := Lower(c[0]); got != c[1] {
			t.Errorf("Lower(%q) = %q; want %q", c[0], got, c[1])
		}
	}
}

func TestBase64Texts(t *testing.T) {
	for _, c := range [][2]string{
		{"", ""},
		{"f", "Zg=="},
		{"fo", "Zm8="},
		{"foo", "Zm9v"},
		{"foob", "Zm9vYg=="},
		{"fooba", "Zm9vYmE="},
		{"foobar", "Zm9vYmFy"},
		{"Hi!", "SGkh"},
		{"Aladdin:open sesame", "QWxhZGRpbjpvcGVuIHNlc2FtZQ=="},
		{"\x00", "AA=="},
		{"\x00\x00\x00", "AAAA"},
		{"\xff", "/w=="},
		{"\xff\xff\xff", "////"},
		{"\xfb\xef\xbe", "++++"},
	} {
		if got := Base64(c[0]); got != c[1] {
			t.Errorf("Base64(%q) = %q; want %q", c[0], got, c[1])
		}
		got, err := Unbase64(c[1])
		wantText(t, "Unbase64", c[1], got, err, c[0])
	}
}

func TestBase64IsReadBack(t *testing.T) {
	for _, s := range samples() {
		b := Base64(s)
		if want := base64.StdEncoding.EncodeToString([]byte(s)); b != want {
			t.Errorf("Base64(%q) = %q; want %q", s, b, want)
		}
		got, err := Unbase64(b)
		wantText(t, "Unbase64", b, got, err, s)
	}
}

func TestUnbase64Refuses(t *testing.T) {
	for _, s := range []string{
		"a", "aa", "aaa", "aaaaa", "Zm9vYg", "Zm9vYmE", // too few
		"-_-_", "aa a", " aaa", "aaa ", "aa\naa", "SGkh\n", "SGkh\r\n", "aaa\x00", "aaaé", "\xff\xff\xff\xff", // foreign
		"=", "==", "===", "====", "a===", "=aaa", "a=aa", "aa=a", "aa=", "Zg=", "Zm8==", // filled up wrongly
		"aaaa=", "aaaa==", "aaaa===", "aaaa====", "aaaaa===", "Zg==Zg==", "Zm8=Zm8=", "Zg==SGkh", "SGkh=SGk",
		"Zh==", "ab==", "Z/==", "Zm9=", "aab=", "Zm9vYh==", "Zm9vYmF=", // bits left over
	} {
		got, err := Unbase64(s)
		wantErrForm(t, "Unbase64", s, got, err)
	}
}

func TestUnbase64TakesJustWhatBase64Writes(t *testing.T) {
	written := map[string]string{}
	for a := range 256 {
		s := string([]byte{byte(a)})
		written[Base64(s)] = s
		for b := range 256 {
			s := string([]byte{byte(a), byte(b)})
			written[Base64(s)] = s
		}
	}
	try := func(s string) {
		got, err := Unbase64(s)
		if want, ok := written[s]; ok {
			wantText(t, "Unbase64", s, got, err, want)
		} else {
			wantErrForm(t, "Unbase64", s, got, err)
		}
	}
	for a := range 256 {
		for b := range 256 {
			try(string([]byte{byte(a), byte(b), '=', '='}))
		}
	}
	tried := letters + "=-_ \n\x00\x80\xff"
	for a := range len(tried) {
		for b := range len(tried) {
			for c := range len(tried) {
				try(string([]byte{tried[a], tried[b], tried[c], '='}))
			}
		}
	}
}

// TestWrongFarBehind: what is wrong counts at the end of a long text, too.
func TestWrongFarBehind(t *testing.T) {
	long := strings.Repeat("\x01\x02\x03", 5000)
	for _, s := range []string{"0G", "0"} {
		got, err := Unhex(Hex(long) + s)
		wantErrForm(t, "Unhex", "long "+s, got, err)
	}
	for _, s := range []string{"a===", "ab==", "a"} {
		got, err := Unbase64(Base64(long) + s)
		wantErrForm(t, "Unbase64", "long "+s, got, err)
	}
	got, err := Unbase64(Base64(long + "\x01"))
	wantText(t, "Unbase64", "long", got, err, long+"\x01")
}
