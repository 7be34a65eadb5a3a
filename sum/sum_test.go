package sum

import (
	"crypto/md5"
	"crypto/sha256"
	"encoding/hex"
	"math"
	"strings"
	"testing"

	"gatepost/api"
)

// known are sums that are written down elsewhere: of RFC 1321, of FIPS 180's examples, and of well-known texts.
var known = []struct{ text, md5, sha256 string }{
	{"",
		"d41d8cd98f00b204e9800998ecf8427e",
		"e3b0c44298fc1c149afbf4c8996fb92427ae41e4649b934ca495991b7852b855"},
	{"a",
		"0cc175b9c0f1b6a831c399e269772661",
		"ca978112ca1bbdcafac231b39a23dc4da786eff8147c4e72b9807785afee48bb"},
	{"abc",
		"900150983cd24fb0d6963f7d28e17f72",
		"ba7816bf8f01cfea414140de5dae2223b00361a396177a9cb410ff61f20015ad"},
	{"message digest",
		"f96b697d7cb7938d525a2f31aaf161d0",
		"f7846f55cf23e14eebeab5b4e1550cad5b509e3348fbc4efa3a1413d393cb650"},
	{"abcdefghijklmnopqrstuvwxyz",
		"c3fcd3d76192e4007dfb496cca67e13b",
		"71c480df93d6ae2f1efad1447c66c9525e316218cf51fc8d9ed832f2daf18b73"},
	{"ABCDEFGHIJKLMNOPQRSTUVWXYZabcdefghijklmnopqrstuvwxyz0123456789",
		"d174ab98d277d9f5a5611c2c9f419d9f",
		"db4bfcbd4da0cd85a60c3c37d3fbd8805c77f15fc6b1fdfe614ee0a7c8fdb4c0"},
	{strings.Repeat("1234567890", 8),
		"57edf4a22be3c955ac49da2e2107b67a",
		"f371bc4a311f2b009eef952dd83ca80e2b60026c8e935592d0f9c308453c813e"},
	{"abcdbcdecdefdefgefghfghighijhijkijkljklmklmnlmnomnopnopq",
		"8215ef0796a20bcaaae116d3876c664a",
		"248d6a61d20638b8e5c026930c3e6039a33ce45964ff2167f6ecedd419db06c1"},
	{"The quick brown fox jumps over the lazy dog",
		"9e107d9d372bb6826bd81d3542a419d6",
		"d7a8fbb307d7809469ca9abcb0082e4f8d5651e46d3cdb762d02d0bf37c9e592"},
	{strings.Repeat("a", 1_000_000),
		"7707d6ae4e027c70eea2a935c2296f21",
		"cdc76e5c9914fb9281a1c7e284d73e67f1809a48a497200e046d39ccc7112cd0"},
}

// asked holds both sums of a text against what Go's library says.
func asked(t *testing.T, s string) {
	t.Helper()
	short := s[:min(len(s), 80)]
	m := md5.Sum([]byte(s))
	if got, want := MD5(s), hex.EncodeToString(m[:]); got != want {
		t.Errorf("MD5 of %d bytes, %q..: %q; want %q", len(s), short, got, want)
	}
	h := sha256.Sum256([]byte(s))
	if got, want := SHA256(s), hex.EncodeToString(h[:]); got != want {
		t.Errorf("SHA256 of %d bytes, %q..: %q; want %q", len(s), short, got, want)
	}
}

// mixed is a text of n bytes that differ, others for each seed.
func mixed(n int, seed uint32) string {
	out := make([]byte, n)
	for i := range out {
		seed = seed*1664525 + 1013904223
		out[i] = byte(seed >> 24)
	}
	return string(out)
}

func TestMD5Known(t *testing.T) {
	for _, k := range known {
		if got := MD5(k.text); got != k.md5 {
			t.Errorf("MD5(%.80q) = %q; want %q", k.text, got, k.md5)
		}
	}
}

func TestSHA256Known(t *testing.T) {
	for _, k := range known {
		if got := SHA256(k.text); got != k.sha256 {
			t.Errorf("SHA256(%.80q) = %q; want %q", k.text, got, k.sha256)
		}
	}
}

// TestFilling: at 56, and at 120, the count has no room any more in the block where the text ends; 64 and 128 end a block.
func TestFilling(t *testing.T) {
	for _, n := range []int{0, 1, 54, 55, 56, 57, 62, 63, 64, 65, 118, 119, 120, 121, 127, 128, 129} {
		for _, c := range []string{"\x00", "\x80", "\xff", "x"} {
			asked(t, strings.Repeat(c, n))
		}
		asked(t, mixed(n, 7))
	}
}

// TestEveryLength goes through some blocks, byte by byte: with each, other bytes of words are the last ones.
func TestEveryLength(t *testing.T) {
	for n := range 400 {
		asked(t, mixed(n, uint32(n)))
	}
}

func TestEveryByte(t *testing.T) {
	all := make([]byte, 256)
	for i := range all {
		all[i] = byte(i)
		asked(t, string([]byte{byte(i)}))
		asked(t, "ahead"+string([]byte{byte(i)})+"behind")
	}
	asked(t, string(all))
}

// TestEveryPlace: each byte of two blocks counts, wherever it stands.
func TestEveryPlace(t *testing.T) {
	seen := map[string]int{}
	for i := range 128 {
		text := make([]byte, 128)
		text[i] = 1
		asked(t, string(text))
		for _, got := range []string{MD5(string(text)), SHA256(string(text))} {
			if before, twice := seen[got]; twice {
				t.Errorf("bytes %d and %d: one sum, %q", before, i, got)
			}
			seen[got] = i
		}
	}
}

// TestLonger: the bits that a text has fill one, two, three and four bytes of their count.
func TestLonger(t *testing.T) {
	for _, n := range []int{31, 32, 33, api.MaxText, 1<<13 - 1, 1 << 13, 1<<13 + 1, 100_003, 1<<21 - 1, 1 << 21, 1<<21 + 77} {
		asked(t, mixed(n, 1))
	}
}

// TestForm: sums are small digits, of just their length, whatever is summed.
func TestForm(t *testing.T) {
	for n := range 130 {
		s := mixed(n, uint32(1000+n))
		for _, c := range []struct {
			name, got string
			length    int
		}{{"MD5", MD5(s), 32}, {"SHA256", SHA256(s), 64}} {
			if len(c.got) != c.length || strings.Trim(c.got, "0123456789abcdef") != "" {
				t.Errorf("%s(%q) = %q; want %d small digits", c.name, s, c.got, c.length)
			}
		}
	}
}

// TestNothingIsKept: neither an earlier text nor the other sum changes an answer, or the tables of api.
func TestNothingIsKept(t *testing.T) {
	sines, roots, begin := api.Sines, api.Roots, api.Begin
	m, h := MD5("abc"), SHA256("abc")
	for n := range 70 {
		MD5(mixed(n, 3))
		SHA256(mixed(n, 3))
	}
	if MD5("abc") != m || SHA256("abc") != h {
		t.Error("a sum is another one, asked again")
	}
	if sines != api.Sines || roots != api.Roots || begin != api.Begin {
		t.Error("a table of api is changed")
	}
}

// TestTables: the constants that both sums lean on are what api says they are.
func TestTables(t *testing.T) {
	for i, sine := range api.Sines {
		if want := uint32(math.Floor(math.Abs(math.Sin(float64(i+1))) * (1 << 32))); sine != want {
			t.Errorf("Sines[%d] = %#x; want %#x", i, sine, want)
		}
	}
	n := 0
	for p := 2; n < len(api.Roots); p++ {
		if !prime(p) {
			continue
		}
		if want := behindPoint(math.Cbrt(float64(p))); api.Roots[n] != want {
			t.Errorf("Roots[%d] = %#x; want %#x", n, api.Roots[n], want)
		}
		if want := behindPoint(math.Sqrt(float64(p))); n < len(api.Begin) && api.Begin[n] != want {
			t.Errorf("Begin[%d] = %#x; want %#x", n, api.Begin[n], want)
		}
		n++
	}
}

func prime(p int) bool {
	for d := 2; d*d <= p; d++ {
		if p%d == 0 {
			return false
		}
	}
	return true
}

// behindPoint is the first 32 bits behind a number's point.
func behindPoint(x float64) uint32 {
	_, part := math.Modf(x)
	return uint32(part * (1 << 32))
}
