package json_test

import (
	"slices"
	"strconv"
	"strings"
	"testing"

	"pantile/api"
	"pantile/json"
)

// P6.1: texts with what only reading knows: blanks, and a `/` with a `\` ahead.
func TestKnownValues(t *testing.T) {
	reads(t, ` { "a" : [1,"b"] }`, fold(names("a"), kids(list(number(1), text("b")))))
	reads(t, "\t12\r\n", number(12))
	reads(t, ` "a" `, text("a"))
	reads(t, ` " a " `, text(" a "))
	reads(t, "[ ]", list())
	reads(t, "{\n}", fold(nil, nil))
	reads(t, "[ 1 , [ ] ,{}]", list(number(1), list(), fold(nil, nil)))
	reads(t, `"\/"`, text("/"))
	reads(t, `"/"`, text("/"))
	reads(t, `"\\/"`, text(`\/`))
	reads(t, `"\\\/"`, text(`\/`))
	reads(t, `"a\/b\"c\\d/"`, text(`a/b"c\d/`))
	reads(t, `"[{:,}]"`, text("[{:,}]"))
	reads(t, `{"\/":1,"\\\/":"\/"}`, fold(names("/", `\/`), kids(number(1), text("/"))))
	reads(t, `{"a":1 , "b":"x\/\"\\"}`, fold(names("a", "b"), kids(number(1), text(`x/"\`))))
	reads(t, `{"chain":["aGk=","Zm9v"]}`, fold(names("chain"), kids(list(text("aGk="), text("Zm9v")))))
}

// P6.1: texts that are none's, told by hand.
func TestTextsThatAreNone(t *testing.T) {
	for _, s := range []string{
		"", " ", "\n", "n", "nul", "null", "true", "false", "NaN", "a", "'a'", "`a`", "//", "1//", "/*1*/1", "\ufeff1", "\xef\xbb\xbf[]",
		"-", "-1", "-0", "+1", "1.5", "1.0", "1.", ".5", "1e3", "1E3", "0x10", "1_000", "1,000", "1 000", "٣", "１",
		"[", "]", "[[", "[]]", "[[]", "][", "[}", "{]", "[1}", `{"a":1]`, "[1", "1]", "[1,", "[,", "[,]", "[,1]", "[1,]", "[1,,2]", "[1 2]", "[1;2]", "[1:2]", "[1]]", "[1][2]", "[](1)", "[1],",
		"{", "}", "{{", "{}}", "{{}", "}{", "{,}", `{"a"`, `{"a"}`, `{"a":`, `{"a":}`, `{"a":1`, `{"a":1,`, `{"a":1,}`, `{,"a":1}`, `{"a":1,,"b":2}`, `{"a":1 "b":2}`, `{"a":1;"b":2}`, `{"a",1}`, `{"a" 1}`, `{"a"::1}`, `{"a":1:2}`, `{"a":1,"b"}`, `{"a","b":1}`, `{"a":1,2}`, `{:1}`, `{:}`, `{"a":,"b":2}`, `{"a":1}}`, `{"a":1}{}`, `{"a":1},`,
		`{a:1}`, `{1:1}`, `{1:"a"}`, `{[]:1}`, `{{}:1}`, `{"a"b:1}`, `{'a':1}`, `{null:1}`, `{"a":b}`, `{1}`, `{[1]}`,
		`"`, `"a`, `a"`, `"a""b"`, `"a" "b"`, `"a"b`, `"\"`, `"\`, `"a\`, `"\\\"`, `"""`, `"a"b"`, `'"'`,
		`"\n"`, `"\t"`, `"\r"`, `"\b"`, `"\f"`, `"\0"`, `"\u0041"`, `"\u002f"`, `"\x41"`, `"\'"`, `"\a"`, `"\ "`, `"\N"`, `"\]"`, `"\[`,
		"\"a\nb\"", "\"\t\"", "\"\r\"", "\"\x00\"", "\"\x1f\"", "\"\x7f\"", "\"\x80\"", "\"é\"", "\"\xff\"", "\"\\\n\"", "\"\\é\"", "{\"\n\":1}", "{\"é\":1}",
		"1 1", "1,1", "1,", ",1", ",", ":", ":1", "1:", `"a":1`, `"a",`, "[] []", "{} {}", "{}[]", "1[]", "[]1", `1"a"`, `"a"1`, `[1"a"]`, `["a"1]`, `["a""b"]`, "[[]1]", "[1[]]", `{"a":1"b":2}`, `{"a":"b""c":1}`, `{"a""b":1}`, `{"a"1:1}`,
	} {
		refusesText(t, s, api.ErrForm)
		refusesText(t, " "+s+" ", api.ErrForm)
	}
}

// P6.1: integers, with noughts ahead, and greater ones than may be.
func TestIntegersThatAreRead(t *testing.T) {
	for n := range 1200 {
		reads(t, strconv.Itoa(n), number(n))
		for _, ahead := range []string{"0", "00", "-", "+", "0000000000000000000000"} {
			refusesText(t, ahead+strconv.Itoa(n), api.ErrForm)
			refusesText(t, "["+ahead+strconv.Itoa(n)+"]", api.ErrForm)
			refusesText(t, `{"a":`+ahead+strconv.Itoa(n)+"}", api.ErrForm)
		}
	}
	reads(t, "[9007199254740991,9007199254740992]", list(number(most-1), number(most)))
	for _, s := range []string{
		"9007199254740993", "9007199254740994", "9007199254741000", "9010000000000000", "9999999999999999", "10000000000000000", "90071992547409920", "18014398509481984",
		"9223372036854775807", "9223372036854775808", "18446744073709551615", "18446744073709551616", "18446744073709551617", "36893488147419103233", "99999999999999999999",
		"340282366920938463463374607431768211457", "100000000000000000000000000000000000000000000000000000000000000000", "09007199254740992", "1" + strings.Repeat("0", 65535), strings.Repeat("0", 65536), strings.Repeat("9", 65536),
	} {
		refusesText(t, s, api.ErrForm)
	}
	for _, s := range []string{"9007199254740993", "18446744073709551617", "00", "01"} {
		refusesText(t, "["+s+"]", api.ErrForm)
		refusesText(t, "[1,"+s+",1]", api.ErrForm)
		refusesText(t, `{"a":`+s+`}`, api.ErrForm)
	}
}

// P6.1: blanks, of each kind and of several, at each place where they may be; other bytes there are none.
func TestBlanksAtEachPlace(t *testing.T) {
	words := []string{"{", `"a b"`, ":", "[", "12", ",", `"c"`, ",", "{", "}", "]", ",", `"d"`, ":", "[", "]", ",", `""`, ":", "0", "}"}
	want := fold(names("a b", "d", ""), kids(list(number(12), text("c"), fold(nil, nil)), list(), number(0)))
	reads(t, strings.Join(words, ""), want)
	for _, blank := range []string{" ", "\t", "\n", "\r", "\r\n", " \t\n\r \t\n\r", "   ", strings.Repeat("\n", 1000)} {
		reads(t, strings.Join(words, blank), want)
		for at := range len(words) + 1 {
			reads(t, strings.Join(words[:at], "")+blank+strings.Join(words[at:], ""), want)
		}
	}
	right := strings.Join(words, "")
	blanks := 0
	for c := range 256 {
		for at := range len(words) + 1 {
			s := strings.Join(words[:at], "") + string([]byte{byte(c)}) + strings.Join(words[at:], "")
			if slices.Contains([]int{32, 9, 10, 13}, c) {
				blanks++
				reads(t, s, want)
			} else if c < '0' || c > '9' { // a digit may go with an integer
				refusesText(t, s, api.ErrForm)
			}
		}
	}
	if blanks != 4*(len(words)+1) {
		t.Errorf("%d blanks", blanks)
	}
	for _, blank := range []string{"\v", "\f", "\x00", "\u00a0", "\u2003", "\u2028", "\ufeff", "\u0085", "\x85", "\xa0", "\\n", "\\ ", "&nbsp;"} {
		refusesText(t, blank+right, api.ErrForm)
		refusesText(t, right+blank, api.ErrForm)
		refusesText(t, "["+blank+"]", api.ErrForm)
		refusesText(t, blank, api.ErrForm)
	}
	for _, s := range []string{"1 2", "0 0", "1\n", "[1 2]", `[1 "a"]`, `{"a" "b":1}`, `{"a":1 2}`} {
		byTheModel(t, s)
	}
}

// P6.1: a sign that is missing, doubled, or another one.
func TestSignsMissingAndDoubled(t *testing.T) {
	right := 0
	for _, s := range []string{
		"[]", "{}", "[1]", "[1,2]", `["a","b"]`, `{"a":1}`, `{"a":1,"b":2}`, `{"a":[1,{"b":"c"}],"d":{}}`, ` [ 1 , "a" , { "b" : [ ] } ] `, `[[],[[]],{"a":{"a":[]}}]`, `[[[[[]]]]]`,
		`{"a\"\\\/":"\\"}`, `["\"",{"\\":"\/"}]`, "[0,10,900]", "9007199254740992", `"a\\b"`,
	} {
		if !byTheModel(t, s) {
			t.Errorf("%q: not right", s)
		}
		for at := range len(s) {
			for _, other := range []string{s[:at] + s[at+1:], s[:at] + s[at:at+1] + s[at:], s[:at], s[at:], s + s[at:], s[:at] + s, s + s[at:at+1]} {
				if byTheModel(t, other) {
					right++
				}
			}
			for c := range 256 {
				if byTheModel(t, s[:at]+string([]byte{byte(c)})+s[at+1:]) {
					right++
				}
			}
		}
	}
	if right < 1000 {
		t.Errorf("%d are right", right)
	}
}

// rows are all rows of at most so many words.
func rows(most int, words ...string) []string {
	all, last := []string{""}, []string{""}
	for range most {
		var longer []string
		for _, row := range last {
			for _, word := range words {
				longer = append(longer, row+word)
			}
		}
		all, last = append(all, longer...), longer
	}
	return all
}

// P6.1: all rows of a few words, alone and at places of a list and a map, by the model.
func TestAllRowsOfWords(t *testing.T) {
	right := 0
	for _, row := range rows(4, "[", "]", "{", "}", ",", ":", `"a"`, `"b"`, "1", " ") {
		for _, frame := range []string{"%", "[%]", "{%}", "[1%]", "[1,%]", "[%,1]", `{"a":%}`, `{"a":1%}`, `{"a":1,%}`, `{"a"%1}`, `{%:1}`, `[[[[%]]]]`} {
			if byTheModel(t, strings.Replace(frame, "%", row, 1)) {
				right++
			}
		}
	}
	if right < 800 {
		t.Errorf("%d are right", right)
	}
}

// P6.1: all short rows of the bytes that mean something.
func TestAllRowsOfBytes(t *testing.T) {
	for _, row := range rows(4, strings.Split("[]{},:\"\\/01a \n\x1f", "")...) {
		byTheModel(t, row)
		byTheModel(t, `"`+row+`"`)
	}
}

// P6.1: names that are the same once they are read.
func TestNamesThatAreTheSame(t *testing.T) {
	for _, s := range []string{
		`{"a":1,"a":1}`, `{"a":1,"a":2}`, `{"":1,"":2}`, `{"a":1,"b":2,"a":3}`, `{"/":1,"\/":2}`, `{"\/":1,"\/":2}`, `{"a\/":1,"b":2,"a/":3}`, `{"\"":1,"\"":2}`, `{"\\":1,"\\":2}`,
		` { "a" : 1 , "a" : 2 } `, `{"a":{},"a":[]}`, `{"x":{"a":1,"a":2}}`, `[1,{"b":1,"c":2,"c":3}]`, `[{"a":1,"a":1},{"a":1}]`, `[{"a":1},{"a":1,"a":1}]`,
	} {
		refusesText(t, s, api.ErrForm)
		if _, ok := modelRead(s); ok {
			t.Errorf("the model takes %q", s)
		}
	}
	reads(t, `{"a":1,"A":2,"a ":3,"aa":4,"":5}`, fold(names("a", "A", "a ", "aa", ""), kids(number(1), number(2), number(3), number(4), number(5))))
	reads(t, `{"\\/":1,"/":2,"\\":3}`, fold(names(`\/`, "/", `\`), kids(number(1), number(2), number(3))))
	reads(t, `{"a":"a","b":{"a":"b","b":{"a":[]}}}`, fold(names("a", "b"), kids(text("a"), fold(names("a", "b"), kids(text("b"), fold(names("a"), kids(list())))))))
	reads(t, `[{"a":1},{"a":1}]`, list(fold(names("a"), kids(number(1))), fold(names("a"), kids(number(1)))))
}

// P6.1, R2: 65536 bytes are read; one more are too long, whatever they are.
func TestTooLong(t *testing.T) {
	for _, size := range []int{65535, 65536} {
		long := strings.Repeat("a", size-2)
		reads(t, `"`+long+`"`, text(long))
		reads(t, strings.Repeat(" ", size-1)+"1", number(1))
		reads(t, "1"+strings.Repeat("\n", size-1), number(1))
		reads(t, "["+strings.Repeat(" ", size-2)+"]", list())
		reads(t, `{"`+long[4:]+`":1}`, fold(names(long[4:]), kids(number(1))))
		refusesText(t, strings.Repeat(" ", size), api.ErrForm)
		refusesText(t, strings.Repeat("[", size), api.ErrForm)
		refusesText(t, `"`+long+"a", api.ErrForm)
		refusesText(t, `"`+long[:size-3]+"\n\"", api.ErrForm)
	}
	for _, size := range []int{65537, 65538, 100000, 1 << 20} {
		for _, s := range []string{
			`"` + strings.Repeat("a", size-2) + `"`, "1" + strings.Repeat(" ", size-1), strings.Repeat(" ", size-1) + "1", "[" + strings.Repeat(" ", size-2) + "]",
			strings.Repeat(" ", size), strings.Repeat("[", size), strings.Repeat("\x00", size), strings.Repeat("1", size), strings.Repeat("é", size/2+1), "x" + strings.Repeat(" ", size-1), "01" + strings.Repeat(" ", size-2), `{"a":1,"a":1}` + strings.Repeat(" ", size),
		} {
			refusesText(t, s, api.ErrLong)
		}
	}
}

// P6.1, R1: as many kids and names as a text may have.
func TestManyKids(t *testing.T) {
	for _, many := range []int{1, 2, 1000, 32767} {
		both(t, list(slices.Repeat(kids(number(7)), many)...), "["+strings.Repeat("7,", many-1)+"7]")
	}
	reads(t, "["+strings.Repeat("1,", 32766)+"1 ]", list(slices.Repeat(kids(number(1)), 32767)...))
	refusesText(t, "["+strings.Repeat("1,", 32767)+"]", api.ErrForm)
	refusesText(t, "["+strings.Repeat("1,", 32766)+"1]]", api.ErrForm)
	v := fold(nil, nil)
	for i := range 5000 {
		v.Names = append(v.Names, strconv.Itoa(i))
		v.Kids = append(v.Kids, list())
	}
	s, ok := modelText(v, 5)
	if !ok {
		t.Fatal("the model")
	}
	both(t, v, s)
	refusesText(t, s[:len(s)-1]+`,"2500":1}`, api.ErrForm)
	refusesText(t, s[:len(s)-1]+`,"4999":[]}`, api.ErrForm)
	reads(t, "[["+strings.Repeat("[[[]]],", 9000)+"[[[]]]]]", list(list(slices.Repeat(kids(list(list(list()))), 9001)...)))
	refusesText(t, "[["+strings.Repeat("[[[]]],", 9000)+"[[[[]]]]]]", api.ErrForm)
}

// P6.3: what is written is read as the same; what is too long of it is refused as such.
func TestWhatIsWrittenIsRead(t *testing.T) {
	c := chance(63)
	for range 5000 {
		v := c.value(5)
		s, e := json.Write(v)
		if e != api.OK {
			t.Fatalf("Write(%+v): %d", v, e)
		}
		reads(t, s, v)
		again, _ := json.Read(s)
		writes(t, again, s)
	}
	for _, over := range []int{-1, 0, 1, 2} {
		for _, v := range []api.Json{
			text(strings.Repeat("a", 65534+over)),
			text(strings.Repeat(`\`, 32766) + strings.Repeat("a", 2+over)),
			list(text(strings.Repeat("b", 65532+over))),
			fold(names(strings.Repeat("c", 65530+over)), kids(number(1))),
		} {
			s, e := json.Write(v)
			if e != api.OK {
				t.Fatalf("not written: %d", e)
			}
			if len(s) <= 65536 {
				reads(t, s, v)
			} else {
				refusesText(t, s, api.ErrLong)
			}
		}
	}
}
