package merge_test

import (
	"slices"
	"strings"
	"testing"

	"drydock/api"
	"drydock/merge"
)

// The calls as the chapter lists them.
var (
	_ func(l [][]api.Entry) (*merge.Reader, error)          = merge.New
	_ func(*merge.Reader) (api.Entry, bool)                 = (*merge.Reader).Next
	_ func(l [][]api.Entry, drop bool) ([]api.Entry, error) = merge.All
)

// ordered are keys in order: the empty one, those that begin others, and bytes of 0, 127, 128 and 255, also such as are no text.
var ordered = []string{
	"", "\x00", "\x00\x00", "\x00\x00\x01", "\x00\x01", "\x00\xff", "\x01", "\x01\x00", "0", "00", "1", "10", "2", "9", "A", "B", "Z",
	"a", "a\x00", "a\x00b", "a\x01", "aa", "aab", "ab", "abc", "abd", "ac", "a\x7f", "a\x80", "a\xff", "a\xff\xff", "b", "ba", "z", "{", "\x7f", "\x7f\xff",
	"\x80", "\x80\x00", "\xc3", "\xc3\xa9", "\xe2\x82\xac", "\xef\xbf\xbd", "\xf0\x9f\x9a\xa2", "\xfe", "\xfe\xff", "\xff", "\xff\x00", "\xff\xfe", "\xff\xff", "\xff\xff\xff",
}

// MG1, MG2: the chapter's example.
func TestExample(t *testing.T) {
	wantAll(t, [][]api.Entry{{value("a", "new")}, {value("a", "old"), value("b", "")}}, value("a", "new"), value("b", ""))
}

// MG1, MG2: of no orders nothing comes, and so it is of any number of orders without entries.
func TestNothing(t *testing.T) {
	wantAll(t, nil)
	wantAll(t, [][]api.Entry{})
	for n := 1; n <= 9; n++ {
		l := make([][]api.Entry, n)
		wantAll(t, l)
		for i := range l {
			l[i] = []api.Entry{}
			wantAll(t, l)
		}
	}
}

// MG1, MG2: orders without entries change nothing, wherever they stand among others, and however many.
func TestEmptyAmongOthers(t *testing.T) {
	l := [][]api.Entry{{value("a", "1"), gone("c")}, {value("a", "2"), value("b", "2")}, {value("c", "3"), value("d", "3")}}
	want := []api.Entry{value("a", "1"), value("b", "2"), gone("c"), value("d", "3")}
	wantAll(t, l, want...)
	for at := range len(l) + 1 {
		for n := 1; n <= 4; n++ {
			wantAll(t, slices.Insert(slices.Clone(l), at, make([][]api.Entry, n)...), want...)
			wantAll(t, slices.Insert(slices.Clone(l), at, slices.Repeat([][]api.Entry{{}}, n)...), want...)
		}
	}
	wantAll(t, [][]api.Entry{nil, l[0], {}, nil, l[1], {}, l[2], nil}, want...)
	wantAll(t, [][]api.Entry{nil, {}, l[0], {}, nil}, l[0]...)
}

// MG1, MG2: one order comes as it is, of each length.
func TestOneOrder(t *testing.T) {
	for n := range len(ordered) + 1 {
		wantAll(t, [][]api.Entry{put(ordered[:n]...)}, put(ordered[:n]...)...)
		wantAll(t, [][]api.Entry{put(ordered[n:]...)}, put(ordered[n:]...)...)
	}
}

// MG1: keys come in order byte by byte, in whichever orders they stand: one a key, forth and back, and dealt out to few.
func TestInOrder(t *testing.T) {
	want := put(ordered...)
	for n := 1; n <= len(ordered); n++ {
		l := make([][]api.Entry, n)
		for i, e := range want {
			l[i%n] = append(l[i%n], e)
		}
		wantAll(t, l, want...)
		slices.Reverse(l)
		wantAll(t, l, want...)
	}
	for at := range want {
		wantAll(t, [][]api.Entry{want[:at], want[at:]}, want...)
		wantAll(t, [][]api.Entry{want[at:], want[:at]}, want...)
	}
}

// MG1: each two keys come in their order, or once, whichever order they stand in.
func TestTwoKeys(t *testing.T) {
	for i, a := range ordered {
		for j, b := range ordered {
			e, f := value(a, "first"), value(b, "second")
			want := []api.Entry{e, f}
			if i > j {
				want = []api.Entry{f, e}
			} else if i == j {
				want = []api.Entry{e}
			}
			wantAll(t, [][]api.Entry{{e}, {f}}, want...)
		}
	}
}

// MG1: of a key that some of four orders have, whichever these are, that of the first of them comes: where it is their first key, one in the middle, and the last one.
func TestFirstThatHasIt(t *testing.T) {
	for which := 1; which < 1<<4; which++ {
		for _, key := range []string{"", "c", "\xff\xff"} {
			var l [][]api.Entry
			first := -1
			for i := range 4 {
				some := []api.Entry{value("b", "any"), value("d", "any")}
				if which>>i&1 == 1 {
					some = with(some, value(key, string([]byte{'0' + byte(i)})))
					if first < 0 {
						first = i
					}
				}
				l = append(l, some)
			}
			want := with([]api.Entry{value("b", "any"), value("d", "any")}, value(key, string([]byte{'0' + byte(first)})))
			wantAll(t, l, want...)
		}
	}
}

// with are entries with another one among them.
func with(l []api.Entry, e api.Entry) []api.Entry {
	at := 0
	for at < len(l) && below(l[at].Key, e.Key) {
		at++
	}
	return slices.Insert(slices.Clone(l), at, e)
}

// MG1: where many orders have each key, all come of the first one, and none twice, forth and back.
func TestAllHaveAll(t *testing.T) {
	for n := 1; n <= 40; n++ {
		var l [][]api.Entry
		for i := range n {
			var some []api.Entry
			for _, key := range ordered {
				some = append(some, api.Entry{Key: key, Value: string([]byte{byte(i)}), Gone: i%3 == 1})
			}
			l = append(l, some)
		}
		wantAll(t, l, l[0]...)
		slices.Reverse(l)
		wantAll(t, l, picked(l)...)
	}
}

// MG1: an entry that is gone counts as any other: it hides a later one, and is hidden by an earlier one.
func TestGone(t *testing.T) {
	wantAll(t, [][]api.Entry{{gone("a")}, {value("a", "old")}}, gone("a"))
	wantAll(t, [][]api.Entry{{value("a", "new")}, {gone("a")}}, value("a", "new"))
	wantAll(t, [][]api.Entry{{gone("a")}, {gone("a")}}, gone("a"))
	wantAll(t, [][]api.Entry{{gone("a")}, {value("a", "x")}, {gone("a")}, {value("a", "y")}}, gone("a"))
	wantAll(t, [][]api.Entry{{value("a", "x")}, {gone("a")}, {value("a", "y")}, {gone("a")}}, value("a", "x"))
	wantAll(t, [][]api.Entry{{gone("b")}, {value("a", "x"), value("b", "x"), value("c", "x")}}, value("a", "x"), gone("b"), value("c", "x"))
}

// MG1, MG2: an entry that is gone and comes with a value is told without it, and keeps no value of a later order either.
func TestGoneWithValue(t *testing.T) {
	for _, text := range []string{"x", "\x00", "a", strings.Repeat("v", 5000)} {
		odd := api.Entry{Key: "a", Value: text, Gone: true}
		wantAll(t, [][]api.Entry{{odd}}, gone("a"))
		wantAll(t, [][]api.Entry{{odd}, {value("a", "old")}}, gone("a"))
		wantAll(t, [][]api.Entry{{value("a", "new")}, {odd}}, value("a", "new"))
		wantAll(t, [][]api.Entry{{odd, value("b", text)}, {odd}}, gone("a"), value("b", text))
		wantAll(t, [][]api.Entry{{{Key: "", Value: text, Gone: true}}}, gone(""))
	}
}

// MG1: the empty key is a key, and the empty value a value: neither is gone, nor missing.
func TestEmptyKeyAndValue(t *testing.T) {
	wantAll(t, [][]api.Entry{{{}}}, api.Entry{})
	wantAll(t, [][]api.Entry{{{}}, {{}}, {{}}}, api.Entry{})
	wantAll(t, [][]api.Entry{{{}}, {value("", "old")}}, api.Entry{})
	wantAll(t, [][]api.Entry{{value("", "new")}, {{}}}, value("", "new"))
	wantAll(t, [][]api.Entry{{gone("")}, {{}, value("a", "")}}, gone(""), value("a", ""))
	wantAll(t, [][]api.Entry{put("a"), put("")}, put("", "a")...)
	wantAll(t, [][]api.Entry{put("a"), {value("a", "old"), value("b", "")}}, put("a", "b")...)
	wantAll(t, [][]api.Entry{put("", "\x00"), put("\x00\x00")}, put("", "\x00", "\x00\x00")...)
}

// MG1: entries come as they were handed in, with long keys and values of any bytes too.
func TestAsHandedIn(t *testing.T) {
	long := strings.Repeat("\xff", 5000)
	l := [][]api.Entry{{value("", "\x00\xff"), value(long, long)}, {value(long[1:], "\xff\xfe"), value(long, "old"), value(long+"\x00", strings.Repeat("\x00", 5000))}}
	wantAll(t, l, l[0][0], l[1][0], l[0][1], l[1][2])
}

// MG2: with drop those that are gone are left out, where all are, none is, and some are: each choice of four.
func TestDrop(t *testing.T) {
	keys := []string{"", "a", "a\x00", "b"}
	for which := range 1 << len(keys) {
		var l, rest []api.Entry
		for i, key := range keys {
			if which>>i&1 == 1 {
				l = append(l, gone(key))
			} else {
				l = append(l, value(key, "x"))
				rest = append(rest, value(key, "x"))
			}
		}
		for _, orders := range [][][]api.Entry{{l}, {l[:2], l[2:]}, {l[2:], l[:2]}, {l, put(keys...)}, {l, {gone("a")}, put(keys...)}} {
			wantAll(t, orders, l...)
			if got, err := merge.All(orders, true); err != nil || !slices.Equal(got, rest) {
				t.Fatalf("All of %#v: %#v, %v, want %#v", orders, got, err, rest)
			}
		}
	}
}

// MG2: what is left out hides the later ones all the same, and a later one that is gone leaves none out.
func TestDropHides(t *testing.T) {
	for _, c := range []struct{ l, want []api.Entry }{
		{[]api.Entry{gone("a"), value("a", "x")}, nil},
		{[]api.Entry{value("a", "x"), gone("a")}, []api.Entry{value("a", "x")}},
		{[]api.Entry{gone("a"), value("a", "x"), gone("a"), value("a", "y")}, nil},
		{[]api.Entry{gone("b"), value("a", "x"), value("b", "x")}, []api.Entry{value("a", "x")}},
		{[]api.Entry{{Key: "a", Value: "y", Gone: true}, value("b", "")}, put("b")},
	} {
		var l [][]api.Entry
		for _, e := range c.l {
			l = append(l, []api.Entry{e})
		}
		if got, err := merge.All(l, true); err != nil || !slices.Equal(got, c.want) {
			t.Fatalf("All of %#v: %#v, %v, want %#v", l, got, err, c.want)
		}
	}
}

// MG1, MG2: up to four keys of three are an order, if each one is above the one ahead; else there is an error, wherever the order stands.
func TestOrderOfKeys(t *testing.T) {
	keys := []string{"", "a", "a\x00"}
	all := [][]int{nil}
	for len(all[0]) < 5 {
		var longer [][]int
		for _, l := range all {
			var some []api.Entry
			wrong := false
			for i, n := range l {
				some = append(some, value(keys[n], "x"))
				wrong = wrong || i > 0 && n <= l[i-1]
			}
			wantOrderOrNone(t, some, wrong)
			for n := range keys {
				longer = append(longer, append(slices.Clone(l), n))
			}
		}
		all = longer
	}
}

// wantOrderOrNone checks an order, alone, and ahead of, between and behind others: it is wrong, or it is not.
func wantOrderOrNone(t *testing.T, some []api.Entry, wrong bool) {
	t.Helper()
	for _, l := range [][][]api.Entry{{some}, {some, nil}, {nil, some}, {some, put("", "a")}, {put("", "a"), some}, {put("a"), some, put("", "b")}, {some, some}} {
		if wrong {
			wantNone(t, l)
		} else {
			wantAll(t, l, picked(l)...)
		}
	}
}

// MG1, MG2: a key that is the same as the one ahead, or below it, is told: in each order, at each place.
func TestWrongAnywhere(t *testing.T) {
	for n := 1; n <= 5; n++ {
		var l [][]api.Entry
		for range n {
			l = append(l, put("a", "b", "c", "d", "e", "f"))
		}
		wantAll(t, l, l[0]...)
		for i := range l {
			for at := 1; at < len(l[i]); at++ {
				for _, key := range []string{l[i][at-1].Key, "", "\x00", "A"} {
					wrong := copied(l)
					wrong[i][at].Key = key
					wantNone(t, wrong)
					wrong[i][at].Gone = true
					wantNone(t, wrong)
					wrong[i][at-1].Gone = true
					wantNone(t, wrong)
				}
				turned := copied(l)
				turned[i][at-1], turned[i][at] = turned[i][at], turned[i][at-1]
				wantNone(t, turned)
				for j := range i {
					turned[j][1] = turned[j][0]
					wantNone(t, turned)
				}
			}
		}
	}
}

// MG1: of each two keys one is above the other, byte by byte, or they are the same.
func TestOrderOfTwoKeys(t *testing.T) {
	for i, a := range ordered {
		for j, b := range ordered {
			l := [][]api.Entry{put("b", "c"), put(a, b)}
			if i < j {
				wantAll(t, l, picked(l)...)
			} else {
				wantNone(t, l)
			}
		}
	}
}

// MG1, MG2: that orders have the same keys as one another, or go down from one order to the next, is nothing wrong.
func TestOrdersAmongOneAnother(t *testing.T) {
	wantAll(t, [][]api.Entry{put("c"), put("b"), put("a")}, put("a", "b", "c")...)
	wantAll(t, [][]api.Entry{put("x", "y"), put("a", "b"), put("x", "y")}, put("a", "b", "x", "y")...)
	wantAll(t, [][]api.Entry{put("b"), put("b"), put("b"), put("")}, put("", "b")...)
}

// MG1, MG2: a nil Reader has none.
func TestNil(t *testing.T) {
	var r *merge.Reader
	wantEnd(t, r)
	r, err := merge.New([][]api.Entry{put("b", "a")})
	wantErr(t, "New", err, api.ErrOrder)
	wantEnd(t, r)
}
