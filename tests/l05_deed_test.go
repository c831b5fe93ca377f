package tests

import (
	"fmt"
	"math"
	"slices"
	"strings"
	"testing"

	"loop.example/g00604/impl"
)

func deed(kind int64, name string, row ...int64) impl.Deed {
	return impl.Deed{Kind: kind, Name: name, Row: row}
}

func sameDeed(a impl.Deed, b impl.Deed) bool {
	return a.Kind == b.Kind && a.Name == b.Name && slices.Equal(a.Row, b.Row)
}

func cloneDeed(d impl.Deed) impl.Deed {
	return impl.Deed{Kind: d.Kind, Name: d.Name, Row: slices.Clone(d.Row)}
}

func rightDeeds() []struct {
	deed impl.Deed
	text string
} {
	return []struct {
		deed impl.Deed
		text string
	}{
		{deed(1, "a", 1, 2), "put a 1 2"},
		{deed(1, "stock", -5, 0, 7), "put stock -5 0 7"},
		{deed(1, "a", 4), "put a 4"},
		{deed(1, "put", 1), "put put 1"},
		{deed(1, "a", 1, 2, 3, 4, 5, 6), "put a 1 2 3 4 5 6"},
		{deed(1, "abcxyz", 1000000000, -1000000000), "put abcxyz 1000000000 -1000000000"},
		{
			deed(1, "azazaz", slices.Repeat([]int64{-1000000000}, 6)...),
			"put azazaz -1000000000 -1000000000 -1000000000 -1000000000 -1000000000 -1000000000",
		},
		{deed(2, "a", -3), "cut a -3"},
		{deed(2, "cut", 0), "cut cut 0"},
		{deed(2, "abcxyz", 1000000000), "cut abcxyz 1000000000"},
		{deed(2, "z", -1000000000), "cut z -1000000000"},
		{deed(3, "b", 1), "set b 1"},
		{deed(3, "set", 10, -20), "set set 10 -20"},
		{deed(3, "abcxyz", 6, 5, 4, 3, 2, 1), "set abcxyz 6 5 4 3 2 1"},
		{deed(3, "z", 1000000000, -1000000000), "set z 1000000000 -1000000000"},
		{deed(4, "a", 7), "must a 7"},
		{deed(4, "must", -1), "must must -1"},
		{deed(4, "abcxyz", 1000000000), "must abcxyz 1000000000"},
		{deed(4, "z", -1000000000), "must z -1000000000"},
		{deed(5, "t", 2), "make t 2"},
		{deed(5, "make", 4), "make make 4"},
		{deed(6, "t"), "drop t"},
		{deed(6, "drop"), "drop drop"},
		{deed(6, "abcxyz"), "drop abcxyz"},
		{impl.Deed{Kind: 6, Name: "t", Row: []int64{}}, "drop t"},
		// A Width that no table has is for the base to refuse: the row is right.
		{deed(5, "t", 0), "make t 0"},
		{deed(5, "t", 5), "make t 5"},
		{deed(5, "t", -1), "make t -1"},
		{deed(5, "abcxyz", 1000000000), "make abcxyz 1000000000"},
		// So is a number that no table has.
		{deed(1, "t", 1001, -1001), "put t 1001 -1001"},
		{deed(2, "t", 1001), "cut t 1001"},
	}
}

func wrongDeeds() map[string]impl.Deed {
	deeds := map[string]impl.Deed{
		"the zero Deed":                  {},
		"kind 0":                         deed(0, "a", 1),
		"kind 0, no row":                 deed(0, "a"),
		"kind 7":                         deed(7, "a", 1),
		"kind 7, no row":                 deed(7, "a"),
		"kind 7, two numbers":            deed(7, "a", 1, 2),
		"kind -1":                        deed(-1, "a", 1),
		"greatest kind":                  deed(math.MaxInt64, "a", 1),
		"least kind":                     deed(math.MinInt64, "a", 1),
		"a kind a multiple of 2^32 more": deed(1<<32+1, "a", 1),
		"a kind a multiple of 2^8 more":  deed(1<<8+6, "a"),
		"put, no row":                    deed(1, "a"),
		"put, an empty row":              {Kind: 1, Name: "a", Row: []int64{}},
		"set, no row":                    deed(3, "a"),
		"set, an empty row":              {Kind: 3, Name: "a", Row: []int64{}},
		"drop, one number":               deed(6, "a", 1),
		"drop, two numbers":              deed(6, "a", 1, 2),
		"drop, a row that is not right":  deed(6, "a", 1000000001),
	}
	for kind, word := range map[int64]string{2: "cut", 4: "must", 5: "make"} {
		deeds[word+", no row"] = deed(kind, "a")
		deeds[word+", an empty row"] = impl.Deed{Kind: kind, Name: "a", Row: []int64{}}
		deeds[word+", two numbers"] = deed(kind, "a", 1, 2)
		deeds[word+", six numbers"] = deed(kind, "a", 1, 2, 3, 4, 5, 6)
	}
	for kind := int64(1); kind <= 5; kind++ {
		for _, row := range wrongRows() {
			deeds[fmt.Sprint("kind ", kind, ", a wrong row: ", row)] = deed(kind, "a", row...)
		}
	}
	for _, name := range wrongNames() {
		for kind := int64(1); kind <= 5; kind++ {
			deeds[fmt.Sprintf("kind %d, the name %q", kind, name)] = deed(kind, name, 1)
		}
		deeds[fmt.Sprintf("drop, the name %q", name)] = deed(6, name)
	}
	return deeds
}

func TestDeedConstants(t *testing.T) {
	kinds := []int{impl.DdPut, impl.DdCut, impl.DdSet, impl.DdMust, impl.DdMake, impl.DdDrop}
	if !slices.Equal(kinds, []int{1, 2, 3, 4, 5, 6}) || impl.MaxBatch != 8 {
		t.Fatal(kinds, impl.MaxBatch)
	}
}

// Promise 5: ReadDeed of ShowDeed is the deed.
func TestRightDeedsAreOkShownAndReadBack(t *testing.T) {
	for _, c := range rightDeeds() {
		if !impl.DeedOk(c.deed) {
			t.Errorf("DeedOk(%v) is false", c.deed)
		}
		if got := impl.ShowDeed(c.deed); got != c.text {
			t.Errorf("ShowDeed(%v) = %q, want %q", c.deed, got, c.text)
		}
		if got, is := impl.ReadDeed(c.text); !is || !sameDeed(got, c.deed) {
			t.Errorf("ReadDeed(%q) = %v, %v, want %v", c.text, got, is, c.deed)
		}
	}
}

// Promise 5, for every kind, every number of numbers and names of every length.
func TestEveryDeedIsReadBack(t *testing.T) {
	numbers := []int64{-1000000000, -1001, -10, -1, 0, 1, 9, 10, 100, 999999999, 1000000000}
	shown := map[string]bool{}
	right := 0
	for kind := int64(-1); kind <= 8; kind++ {
		for length := range 9 {
			for width := range 8 {
				row := make([]int64, width)
				for i := range row {
					row[i] = numbers[(length+i*7)%len(numbers)]
				}
				d := deed(kind, "qwertyui"[:length], row...)
				if want := rightByTheWords(d); impl.DeedOk(d) != want {
					t.Fatalf("DeedOk(%v) is not %v", d, want)
				}
				text := impl.ShowDeed(d)
				got, is := impl.ReadDeed(text)
				if !impl.DeedOk(d) {
					if text != "" {
						t.Fatalf("ShowDeed(%v) = %q", d, text)
					}
					continue
				}
				if !is || !sameDeed(got, d) {
					t.Fatalf("%v is shown as %q and read as %v, %v", d, text, got, is)
				}
				right++
				shown[text] = true
			}
		}
	}
	if right != len(shown) || right != 6*(6+1+6+1+1+1) {
		t.Fatalf("%d deeds are right, of %d texts", right, len(shown))
	}
}

// rightByTheWords asks of a deed with a name of right bytes and of right numbers what the chapter tells, kind by kind.
func rightByTheWords(d impl.Deed) bool {
	if len(d.Name) == 0 || len(d.Name) > 6 {
		return false
	}
	least, most := map[int64]int{1: 1, 2: 1, 3: 1, 4: 1, 5: 1, 6: 0}, map[int64]int{1: 6, 2: 1, 3: 6, 4: 1, 5: 1, 6: 0}
	_, known := least[d.Kind]
	return known && len(d.Row) >= least[d.Kind] && len(d.Row) <= most[d.Kind]
}

func TestWrongDeedsAreRefused(t *testing.T) {
	for name, d := range wrongDeeds() {
		if impl.DeedOk(d) {
			t.Errorf("%s: DeedOk(%v) is true", name, d)
		}
		if got := impl.ShowDeed(d); got != "" {
			t.Errorf("%s: ShowDeed(%v) = %q", name, d, got)
		}
	}
}

func TestNamesOfDeedsOfEveryByte(t *testing.T) {
	for b := range 256 {
		for _, name := range []string{string([]byte{byte(b)}), string([]byte{'a', byte(b), 'z'}), string([]byte{'a', 'b', 'c', 'd', 'e', byte(b)})} {
			want := 'a' <= b && b <= 'z'
			if got := impl.DeedOk(deed(6, name)); got != want {
				t.Errorf("DeedOk of the name %q is %v", name, got)
			}
			if got, is := impl.ReadDeed("cut " + name + " 5"); is != want || is && got.Name != name || !is && !sameDeed(got, impl.Deed{}) {
				t.Errorf("ReadDeed of the name %q is %v, %v", name, got, is)
			}
		}
	}
}

func textsOfNoDeed() []string {
	return []string{
		// words that are missing
		"", " ", "  ", "   ", "put", "put ", "put a", "put a ", "put  1", "cut a", "cut a ", "set a", "must a", "make a", "drop", "drop ", "a 1", "1", "a",
		// blanks
		" put a 1", "put a 1 ", "put  a 1", "put a  1", "put a 1  2", "put\ta 1", "put a\t1", "put a 1\t", "put a 1\n", "\nput a 1", "\x00put a 1", "put a 1\x00",
		" drop a", "drop a ", "drop  a", "drop\na", " cut a 1", "cut a 1 ", "cut  a 1", "cut a  1", "make a 1 ", "must  a 1", "set a 1 ",
		// numbers
		"put a 01", "put a +1", "put a -0", "put a 00", "put a 1 02", "put a 1 +2", "cut a 01", "cut a +1", "cut a -0", "cut a --1", "must a 007", "must a +7",
		"make a 02", "make a +2", "set a -01", "set a 1.0", "put a x", "put a 1 x", "cut a x", "put a 0x1", "put a 1_0", "put a 1e3", "put a \u0661", "put a \xff", "put a \u2212" + "1",
		"put a 1000000001", "cut a -1000000001", "make a 9999999999", "must a 9223372036854775808", "set a 18446744073709551617",
		"put a " + strings.Repeat("1", 5000), "put a " + strings.Repeat("0", 5000) + "1",
		// too many and too few numbers
		"put a -", "set a -", "cut a -", "must a -", "make a -", "drop a -", "put a 1 -", "put a - 1",
		"put a 1 2 3 4 5 6 7", "set a 1 2 3 4 5 6 7", "cut a 1 2", "must a 1 2", "make a 1 2", "drop a 1", "drop a 0", "drop a 1 2",
		"put a " + strings.Repeat("1 ", 5000),
		// names
		"put A 1", "put abcdefg 1", "put a1 1", "put 1 1", "put a-b 1", "put - 1", "put a,b 1", "put \xff 1", "put é 1", "drop A", "drop abcdefg", "drop 1", "drop -",
		"drop " + strings.Repeat("a", 5000), "cut abcdefg 1", "must aB 1", "make T 1", "set a_ 1",
		// kinds
		"what a 1", "Put a 1", "PUT a 1", "puts a 1", "pu a 1", "p a 1", "1 a 1", "0 a 1", "- a 1", "cutt a 1", "drops a", "dro a", "add a 1", "table a", "fill a 1", "forget a", "batch drop a", "nothing a",
		"putcut a 1", "put cut a 1", "put put a 1", "drop drop a",
		// other signs
		"put a 1;", ";put a 1", "put a 1;put a 2", "put a 1,2", "put,a,1", "put;a;1", "drop a;", ";", "drop a;drop b", "put a 1\r", "put(a 1)",
	}
}

func TestTextsOfNoDeed(t *testing.T) {
	for _, s := range textsOfNoDeed() {
		if d, is := impl.ReadDeed(s); is || !sameDeed(d, impl.Deed{}) {
			t.Errorf("ReadDeed(%.40q) = %v, %v", s, d, is)
		}
	}
}

// Whatever ReadDeed takes, ShowDeed must make again: every right text with one byte put in, taken out or made another.
func TestReadDeedTakesNothingButWhatIsShown(t *testing.T) {
	check := func(s string) {
		d, is := impl.ReadDeed(s)
		if is && (!impl.DeedOk(d) || impl.ShowDeed(d) != s) || !is && !sameDeed(d, impl.Deed{}) {
			t.Fatalf("ReadDeed(%q) = %v, %v", s, d, is)
		}
	}
	for _, c := range rightDeeds() {
		for at := range len(c.text) + 1 {
			for b := range 256 {
				put := c.text[:at] + string([]byte{byte(b)})
				check(put + c.text[at:])
				if at < len(c.text) {
					check(put + c.text[at+1:])
				}
			}
			check(c.text[:at])
			check(c.text[at:])
			if at < len(c.text) {
				check(c.text[:at] + c.text[at+1:])
			}
		}
	}
}

// batchText is that many deeds, each of another key.
func batchText(size int) (string, []impl.Deed) {
	var texts []string
	var batch []impl.Deed
	for i := range size {
		texts = append(texts, fmt.Sprint("put a ", i, " ", -i-1))
		batch = append(batch, deed(1, "a", int64(i), int64(-i-1)))
	}
	return strings.Join(texts, ";"), batch
}

func TestReadBatch(t *testing.T) {
	cases := []struct {
		text string
		want []impl.Deed
	}{
		{"", nil},
		{"drop t", []impl.Deed{deed(6, "t")}},
		{"put a 1 2", []impl.Deed{deed(1, "a", 1, 2)}},
		{"make t 1;put t 4", []impl.Deed{deed(5, "t", 1), deed(1, "t", 4)}},
		{"drop a;drop a", []impl.Deed{deed(6, "a"), deed(6, "a")}},
		{
			"put a 1 2;cut a -3;set b 1;must a 7;make t 2;drop t",
			[]impl.Deed{deed(1, "a", 1, 2), deed(2, "a", -3), deed(3, "b", 1), deed(4, "a", 7), deed(5, "t", 2), deed(6, "t")},
		},
	}
	for _, c := range cases {
		if got, is := impl.ReadBatch(c.text); !is || !slices.EqualFunc(got, c.want, sameDeed) {
			t.Errorf("ReadBatch(%q) = %v, %v, want %v", c.text, got, is, c.want)
		}
	}
	for _, c := range rightDeeds() {
		if got, is := impl.ReadBatch(c.text); !is || len(got) != 1 || !sameDeed(got[0], c.deed) {
			t.Errorf("ReadBatch(%q) = %v, %v, want %v", c.text, got, is, c.deed)
		}
	}
}

func TestReadBatchUpToMaxBatch(t *testing.T) {
	for size := range 20 {
		text, batch := batchText(size)
		got, is := impl.ReadBatch(text)
		if size <= 8 && (!is || !slices.EqualFunc(got, batch, sameDeed)) {
			t.Errorf("ReadBatch of %d deeds = %v, %v", size, got, is)
		}
		if size > 8 && (is || len(got) != 0) {
			t.Errorf("ReadBatch of %d deeds = %v, %v", size, got, is)
		}
	}
}

func TestTextsOfNoBatch(t *testing.T) {
	eight, _ := batchText(8)
	nine, _ := batchText(9)
	texts := []string{
		";", ";;", "drop t;", ";drop t", "drop t;;drop u", ";drop t;drop u", "drop t;drop u;", "drop t;;", ";;drop t", ";drop t;",
		" ", "drop t; drop u", "drop t ;drop u", "drop t; ", " ;drop t", "drop t;\n", "drop t\ndrop u", "drop t,drop u", "drop t drop u",
		"drop t;what u", "what t;drop u", "drop t;put u;drop v", "drop t;put u -", "put a 1 2 3 4 5 6 7;drop t", "drop t;put a 01",
		eight + ";", ";" + eight, eight + ";;", nine, nine + ";", eight + ";what", eight + "; ", eight + ";drop t",
		strings.Repeat("drop t;", 5000), strings.Repeat(";", 5000), strings.Repeat("drop t;", 5000) + "drop t",
	}
	for _, s := range texts {
		if got, is := impl.ReadBatch(s); is || len(got) != 0 {
			t.Errorf("ReadBatch(%.60q) = %v, %v", s, got, is)
		}
	}
	for _, s := range textsOfNoDeed() {
		// The empty text is a batch of none, and some of these are two deeds.
		if _, is := impl.ReadBatch(s); is != (s == "" || s == "put a 1;put a 2" || s == "drop a;drop b") {
			t.Errorf("ReadBatch(%.60q) is %v", s, is)
		}
		for _, text := range []string{"drop t;" + s, s + ";drop t", "drop t;" + s + ";drop t"} {
			if got, is := impl.ReadBatch(text); is != (s == "put a 1;put a 2" || s == "drop a;drop b") || !is && len(got) != 0 {
				t.Errorf("ReadBatch(%.60q) = %v, %v", text, got, is)
			}
		}
	}
}

// overwriteBatch writes into each deed, and into the spare room behind the rows and behind the deeds.
func overwriteBatch(batch []impl.Deed) {
	batch = batch[:cap(batch)]
	for i := range batch {
		overwrite(batch[i].Row)
		batch[i] = deed(-98, "no", -97)
	}
}

// Promise 21, as far as deeds go.
func TestDeedsStayAndAnswersAreNew(t *testing.T) {
	for kind := int64(0); kind <= 7; kind++ {
		for width := range 8 {
			room := []int64{1, 2, 3, 4, 5, 6, 1000000001, 71, 72}
			was := slices.Clone(room)
			d := deed(kind, "a", room[:width]...)
			impl.DeedOk(d)
			impl.ShowDeed(d)
			if !slices.Equal(room, was) || d.Kind != kind || d.Name != "a" || len(d.Row) != width {
				t.Fatalf("an argument was written into: %v, %v", d, room)
			}
		}
	}
	for _, c := range rightDeeds() {
		one, _ := impl.ReadDeed(c.text)
		other, _ := impl.ReadDeed(c.text)
		overwrite(one.Row)
		if !sameDeed(other, c.deed) {
			t.Fatalf("two answers of ReadDeed share memory: %v", other)
		}
	}
}

func TestBatchesAreNew(t *testing.T) {
	for _, text := range []string{
		"", "drop t", "put a 1 2", "put a 1 2;put a 1 2", "put a 1 2 3;cut a 3;put a 4 5;drop a;set a 1;put b 7 8 9 10", "put a 1;put a 1;put a 1;put a 1;put a 1;put a 1;put a 1;put a 1",
	} {
		one, _ := impl.ReadBatch(text)
		other, _ := impl.ReadBatch(text)
		var want []impl.Deed
		for _, d := range one {
			want = append(want, cloneDeed(d))
		}
		overwriteBatch(one)
		if !slices.EqualFunc(other, want, sameDeed) {
			t.Fatalf("two answers of ReadBatch(%q) share memory: %v", text, other)
		}
		for i := range other {
			overwrite(other[i].Row)
			copy(other[i].Row, want[i].Row)
			if !slices.EqualFunc(other, want, sameDeed) {
				t.Fatalf("rows of one answer of ReadBatch(%q) share memory: %v", text, other)
			}
		}
	}
}

// What is refused is new memory, too.
func TestWhatIsRefusedOfDeedsIsNew(t *testing.T) {
	for _, text := range []string{"drop t;", "put a 1;what", "put a 1 2 3 4 5 6 7"} {
		one, _ := impl.ReadBatch(text)
		overwriteBatch(one)
		d, _ := impl.ReadDeed(text)
		overwrite(d.Row)
		if again, is := impl.ReadBatch(text); is || len(again) != 0 {
			t.Fatalf("ReadBatch(%q) = %v, %v", text, again, is)
		}
		if again, is := impl.ReadDeed(text); is || !sameDeed(again, impl.Deed{}) {
			t.Fatalf("ReadDeed(%q) = %v, %v", text, again, is)
		}
	}
}
