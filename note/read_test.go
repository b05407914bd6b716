package note_test

import (
	"bytes"
	"math"
	"strconv"
	"strings"
	"testing"

	"pantile/note"
)

const example = "log.example/a"

// letters are those of a root and of a signature, bytes that are easily seen.
func letters() (root, signature string) {
	return modelLetters([]byte(rootOf(1))), modelLetters(append([]byte("name"), bytes.Repeat([]byte{0x5a}, 64)...))
}

// plain is a note of texts as they are.
func plain(origin, size, root, line string) string {
	return origin + "\n" + size + "\n" + root + "\n\n" + line + "\n"
}

// lineOf is a note's line, without its end.
func lineOf(origin, letters string) string { return dash + " " + origin + " " + letters }

// right is a note whose signature nobody made.
func right() string {
	root, signature := letters()
	return plain(example, "12", root, lineOf(example, signature))
}

// P11.2: a note is read whatever the 68 bytes of its line are.
func TestAnySignatureIsRead(t *testing.T) {
	takesEach(t, right())
	c := chance(113)
	text, _ := modelText(example, 12, rootOf(1))
	for n := range 256 {
		takesEach(t, noteOf(text, example, bytes.Repeat([]byte{byte(n)}, 68)), noteOf(text, example, c.bytes(68)))
	}
	if _, _, got, _ := note.Read(right()); string(got) != "name"+strings.Repeat("Z", 64) {
		t.Errorf("the signature: %q", got)
	}
}

// P11.2: a line has 68 bytes' letters, and those of no other number.
func TestLengthsOfSignatures(t *testing.T) {
	c := chance(114)
	text, _ := modelText(example, 12, rootOf(1))
	for n := range 300 {
		if reads(t, noteOf(text, example, c.bytes(n))) != (n == 68) {
			t.Errorf("a signature of %d bytes", n)
		}
	}
	for _, n := range []int{64, 67, 68, 69, 136, 1 << 12} {
		if reads(t, noteOf(text, example, make([]byte, n))) != (n == 68) {
			t.Errorf("a signature of %d noughts", n)
		}
	}
}

// P11.2: a root has 32 bytes' letters, and those of no other number.
func TestLengthsOfRoots(t *testing.T) {
	_, signature := letters()
	c := chance(115)
	for n := range 200 {
		if reads(t, plain(example, "12", modelLetters(c.bytes(n)), lineOf(example, signature))) != (n == 32) {
			t.Errorf("a root of %d bytes", n)
		}
	}
}

// P11.2: letters that are none's: without fillers, with more, with bits behind the last byte, with signs that are no letters, with ends in between.
func TestLettersOfNoBytes(t *testing.T) {
	root, signature := letters()
	wrongs := func(s string) (out []string) {
		bare := strings.TrimSuffix(s, "=")
		last := strings.IndexByte(allLetters, bare[len(bare)-1])
		for more := 1; more < 4; more++ {
			out = append(out, bare[:len(bare)-1]+allLetters[last+more:][:1]+"=")
		}
		for _, end := range []string{"", "==", "===", "A", "A=", "A==", "AA", "AA==", "AAA=", "=A", " ", "= ", "=\n", "\n", "=\r", "\r", "=\x00", "\x00", "====", "=AAA"} {
			out = append(out, bare+end)
		}
		for _, sign := range []string{"-", "_", " ", "=", "\n", "\r", "\x00", "\xff", "."} {
			out = append(out, sign+s[1:], s[:20]+sign+s[21:], bare[:len(bare)-1]+sign+"=", sign+s)
		}
		return append(out, "", "=", "====", bare[:len(bare)-1]+"==", strings.Repeat("=", len(s)), s[4:], s[:len(s)-4], s+s, s+" "+s)
	}
	for _, w := range wrongs(root) {
		refusesEach(t, plain(example, "12", w, lineOf(example, signature)))
	}
	for _, w := range wrongs(signature) {
		refusesEach(t, plain(example, "12", root, lineOf(example, w)))
	}
	refusesEach(t, plain(example, "12", signature, lineOf(example, root)), plain(example, "12", signature, lineOf(example, signature)), plain(example, "12", root, lineOf(example, root)))
}

// P11.2: a size is the decimal of a number from 0 to the greatest of a log's.
func TestSizesThatAreRead(t *testing.T) {
	root, signature := letters()
	of := func(size string) string { return plain(example, size, root, lineOf(example, signature)) }
	for n := 0; n <= mostLeaves+1000; n++ {
		if n > 1000 && n < mostLeaves-1000 && n%1999 != 0 {
			continue
		}
		s := strconv.Itoa(n)
		if reads(t, of(s)) != (n <= mostLeaves) {
			t.Errorf("size %s", s)
		}
		refusesEach(t, of("0"+s), of("-"+s), of("+"+s), of(s+" "), of(" "+s), of(s+"."), of(s+".0"), of("x"+s))
	}
	for bits := 20; bits < 64; bits++ {
		for by := uint64(0); by < 3; by++ {
			if n := uint64(1)<<bits + by; n > mostLeaves {
				refusesEach(t, of(strconv.FormatUint(n, 10)))
			}
		}
	}
	refusesEach(t,
		of(""), of("00"), of("012"), of("0012"), of("-0"), of("-1"), of("1 2"), of("1,2"), of("0x12"), of("1e1"), of("twelve"), of("１２"), of("12\r"), of("1\x002"), of("12\n12"), of("1\n2"), of(" "), of("a"), of("/"), of(":"),
		of("9007199254740992"), of("9007199254740993"), of("18446744073709551616"), of("18446744073709551628"), of("36893488147419103244"), of(strconv.Itoa(math.MaxInt)), of(strconv.Itoa(math.MinInt)), of(strings.Repeat("9", 1000)), of(strings.Repeat("0", 1000)+"12"),
	)
}

// P11.2: an origin stands in both places, and is one.
func TestOriginsThatAreRead(t *testing.T) {
	root, signature := letters()
	of := func(first, second string) string { return plain(first, "12", root, lineOf(second, signature)) }
	for n := range 100 {
		s := strings.Repeat("o", n)
		if reads(t, of(s, s)) != (1 <= n && n <= 30) {
			t.Errorf("an origin of %d bytes", n)
		}
		refusesEach(t, of(s, s+"o"), of(s+"o", s), of(s, ""), of("", s+"o"), of(s, "b"), of("b", s))
	}
	for n := range 256 {
		c := string([]byte{byte(n)})
		want := strings.Contains("abcdefghijklmnopqrstuvwxyz0123456789./-", c)
		for _, s := range []string{c, c + "a", "a" + c, "a" + c + "a"} {
			if reads(t, of(s, s)) != want {
				t.Errorf("an origin %q", s)
			}
		}
		refusesEach(t, of("a"+c, "a"), of("a", "a"+c), of(c+"a", "a"), of("a", c+"a"))
	}
	refusesEach(t,
		of("a", "b"), of("a", "A"), of("A", "a"), of("A", "A"), of("log.example", "log.example/a"), of("log.example/a", "log.example"), of("a b", "a b"), of("a b", "b"), of("a", "a a"), of("a a", "a"), of("a\nb", "a\nb"), of("a\nb", "b"), of("", ""), of(" ", " "),
		of("", dash), of(dash, ""), of(dash, dash), of("é", "é"), of("a\xff", "a\ufffd"), of(strings.Repeat("a", 31), strings.Repeat("a", 30)), of(strings.Repeat("a", 30), strings.Repeat("a", 31)), of(strings.Repeat("a", 100000), strings.Repeat("a", 100000)),
	)
}

// P11.2: lines more, less, in another order, with other ends.
func TestOtherLines(t *testing.T) {
	whole := strings.TrimSuffix(right(), "\n")
	lines := strings.Split(whole, "\n")
	all := func(l ...string) string { return strings.Join(l, "\n") + "\n" }
	takesEach(t, all(lines...))
	for at := range lines {
		for other := range lines {
			swapped := append([]string{}, lines...)
			swapped[at], swapped[other] = lines[other], lines[at]
			if at != other {
				refusesEach(t, all(swapped...))
			}
			more := append(append(append([]string{}, lines[:at]...), lines[other]), lines[at:]...)
			refusesEach(t, all(more...), all(append(lines[:len(lines):len(lines)], lines[other])...))
		}
		refusesEach(t, all(append(append([]string{}, lines[:at]...), lines[at+1:]...)...), all(lines[:at]...), all(lines[at:][1:]...))
		for _, one := range []string{"", " ", "x", "extension", "\r"} {
			more := append(append(append([]string{}, lines[:at]...), one), lines[at:]...)
			refusesEach(t, all(more...))
		}
	}
	refusesEach(t, whole, whole+"\r\n", strings.ReplaceAll(right(), "\n", "\r\n"), strings.ReplaceAll(right(), "\n", "\r"), strings.ReplaceAll(right(), "\n", "\n\n"), strings.ReplaceAll(right(), "\n", ""), strings.ReplaceAll(right(), "\n", " "), right()+right())
	refusesEach(t, "", "\n", "\n\n", "\n\n\n\n\n", "\n\n\n\n\n\n", " ", "\x00", dash, strings.Repeat("\n", 100000), strings.Repeat("a", 100000), strings.Repeat(right(), 1000))
}

// P11.2: bytes ahead of a note, behind its end, and more lines of keys.
func TestBytesAround(t *testing.T) {
	_, signature := letters()
	for n := range 256 {
		c := string([]byte{byte(n)})
		refusesEach(t, right()+c, c+right(), right()+c+"\n", right()+"\n"+c)
	}
	refusesEach(t,
		right()+"\n", right()+lineOf(example, signature), right()+lineOf(example, signature)+"\n", right()+lineOf("other", signature)+"\n", "\xef\xbb\xbf"+right(), right()+"\n\n", right()+strings.Repeat("\n", 100000), right()+strings.Repeat("x", 100000),
	)
}

// P11.2: another dash, other blanks.
func TestOtherDashesAndBlanks(t *testing.T) {
	root, signature := letters()
	of := func(line string) string { return plain(example, "12", root, line) }
	takesEach(t, of(lineOf(example, signature)))
	for _, d := range []string{"", "-", "--", "---", "\u2010", "\u2011", "\u2012", "\u2013", "\u2015", "\u2212", "\xe2\x80", "\x80\x94", "\xe2", "\xe2\x80\x95", "\xe2\x80\x93", "\xe2\x81\x94", "\xe3\x80\x94", "\x97", "\ufffd", dash + dash, "*", "+", "&mdash;", " " + dash, dash + " "} {
		refusesEach(t, of(d+" "+example+" "+signature))
	}
	for _, b := range []string{"", "  ", "\t", "\n", "\r", "\x00", "\u00a0", "\xa0", "\u2003", "+", "_", " \t", "\t "} {
		refusesEach(t, of(dash+b+example+" "+signature), of(dash+" "+example+b+signature), of(dash+b+example+b+signature))
	}
	refusesEach(t,
		of(" "+lineOf(example, signature)), of(lineOf(example, signature)+" "), of(lineOf(example, signature)+"\t"), of(example+" "+signature), of(dash+" "+signature), of(dash+" "+example), of(dash+" "+example+" "), of(signature), of(""), of(dash+" "+signature+" "+example), of(example+" "+dash+" "+signature), of(lineOf(lineOf(example, "")+example, signature)), of(lineOf(example+" "+example, signature)),
		plain(example, "12", root+"\n ", lineOf(example, signature)), plain(example, "12", root+" ", lineOf(example, signature)), plain(" "+example, "12", root, lineOf(example, signature)), plain(example+" ", "12", root, lineOf(example, signature)), plain(example, "12", root, " "+lineOf(example, signature)),
	)
}

// P11.2: a note with one byte put in, put in another's place, left out, or twice, wherever it stands, and its pieces.
func TestSpoiltNotes(t *testing.T) {
	taken, refused := 0, 0
	for s := range spoilt(right(), "\n =+/Aa0-.\xe2\x80\x94\r\x00") {
		if reads(t, s) {
			taken++
		} else {
			refused++
		}
	}
	if taken < 100 || refused < 1000 {
		t.Errorf("%d are right, %d wrong: these tell little", taken, refused)
	}
	root, signature := letters()
	for s := range spoilt(plain("a", "1", root, lineOf("a", signature)), "") {
		reads(t, s)
	}
}

// P11.2: a note with each byte in each place.
func TestEachByteInEachPlace(t *testing.T) {
	s := right()
	for at := range len(s) {
		for _, c := range []byte(allBytes()) {
			reads(t, s[:at]+string([]byte{c})+s[at+1:])
		}
	}
}

// P11.2: notes put together by chance of parts that are right or near to it.
func TestNotesByChance(t *testing.T) {
	root, signature := letters()
	origins := []string{"a", "a", "a", "log.example", "b", "", "A", "a b"}
	sizes := []string{"0", "1", "12", "1048576", "1048577", "01", "", "-1"}
	roots := []string{root, root, root, modelLetters(make([]byte, 32)), modelLetters(make([]byte, 31)), signature}
	signatures := []string{signature, signature, signature, modelLetters(make([]byte, 68)), modelLetters(make([]byte, 67)), modelLetters(make([]byte, 69))}
	gaps := []string{"\n\n", "\n\n", "\n\n", "\n\n", "\n", "\n\n\n", "\n \n"}
	ends := []string{"\n", "\n", "\n", "\n", "", "\n\n", " \n"}
	c := chance(116)
	one := func(l []string) string { return l[c.below(len(l))] }
	taken := 0
	for range 40000 {
		if reads(t, one(origins)+"\n"+one(sizes)+"\n"+one(roots)+one(gaps)+lineOf(one(origins), one(signatures))+one(ends)) {
			taken++
		}
	}
	if taken < 200 || taken > 20000 {
		t.Errorf("%d of 40000 are right: these tell little", taken)
	}
}
