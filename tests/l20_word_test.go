package tests

import (
	"bytes"
	"math"
	"slices"
	"sync"
	"testing"

	"loop.example/g00075/impl"
)

func word(seq, kind int, body ...byte) impl.Telegram {
	return impl.Telegram{Seq: seq, Kind: kind, Body: body}
}

// ramp has the bytes 1, 2, .. of which none is escaped as long as there are no more than 124.
func ramp(count int) []byte {
	body := make([]byte, count)
	for k := range body {
		body[k] = byte(k + 1)
	}
	return body
}

func joinBytes(lists ...[]byte) []byte {
	return slices.Concat(lists...)
}

// framed puts a flag on each side.
func framed(sent ...byte) []byte {
	return joinBytes([]byte{126}, sent, []byte{126})
}

func sameWord(a, b impl.Telegram) bool {
	return a.Seq == b.Seq && a.Kind == b.Kind && bytes.Equal(a.Body, b.Body)
}

func sameWords(a, b []impl.Telegram) bool {
	return slices.EqualFunc(a, b, sameWord)
}

func wordCopy(w impl.Telegram) impl.Telegram {
	return word(w.Seq, w.Kind, slices.Clone(w.Body)...)
}

func wordsCopy(list []impl.Telegram) []impl.Telegram {
	var then []impl.Telegram
	for _, w := range list {
		then = append(then, wordCopy(w))
	}
	return then
}

func wordByWords(w impl.Telegram) bool {
	return w.Seq >= 0 && w.Seq <= 255 && w.Kind >= 0 && w.Kind <= 15 && len(w.Body) <= 60
}

// crcByWords divides the bits, with eight noughts behind them, by the bits 100000111, and tells the rest.
func crcByWords(data []byte) int {
	if len(data) > 3000 {
		return 0
	}
	var bits []int
	for _, b := range append(slices.Clone(data), 0) {
		for k := 7; k >= 0; k-- {
			bits = append(bits, int(b>>k)&1)
		}
	}
	for k := range len(bits) - 8 {
		if bits[k] == 1 {
			for _, behind := range []int{0, 6, 7, 8} {
				bits[k+behind] ^= 1
			}
		}
	}
	rest := 0
	for _, bit := range bits[len(bits)-8:] {
		rest = 2*rest + bit
	}
	return rest
}

// crced puts the Crc8 behind.
func crced(load ...byte) []byte {
	return append(slices.Clone(load), byte(crcByWords(load)))
}

// escapedByWords takes the escapes first, so that none is escaped that was put in for a flag.
func escapedByWords(load []byte) []byte {
	return bytes.ReplaceAll(bytes.ReplaceAll(load, []byte{125}, []byte{125, 93}), []byte{126}, []byte{125, 94})
}

func loadByWords(w impl.Telegram) []byte {
	return crced(joinBytes([]byte{byte(w.Seq), byte(w.Kind), byte(len(w.Body))}, w.Body)...)
}

func encodeByWords(w impl.Telegram) []byte {
	if !wordByWords(w) {
		return nil
	}
	return framed(escapedByWords(loadByWords(w))...)
}

// decodeByWords guesses the one telegram that it may be, and holds what that is sent as against the data.
func decodeByWords(data []byte) (impl.Telegram, bool) {
	if len(data) < 6 {
		return impl.Telegram{}, false
	}
	load := bytes.ReplaceAll(data[1:len(data)-1], []byte{125, 94}, []byte{126})
	load = bytes.ReplaceAll(load, []byte{125, 93}, []byte{125})
	if len(load) < 4 {
		return impl.Telegram{}, false
	}
	w := word(int(load[0]), int(load[1]), load[3:len(load)-1]...)
	if !bytes.Equal(encodeByWords(w), data) {
		return impl.Telegram{}, false
	}
	return w, true
}

func scanByWords(stream []byte) ([]impl.Telegram, int) {
	if len(stream) > 3000 {
		return nil, -1
	}
	var list []impl.Telegram
	spoilt := 0
	for _, piece := range bytes.Split(stream, []byte{126}) {
		w, ok := decodeByWords(framed(piece...))
		if ok {
			list = append(list, w)
		} else if len(piece) > 0 {
			spoilt++
		}
	}
	return list, spoilt
}

func acceptByWords(last, seq int) int {
	switch {
	case last < 0 || last > 255 || seq < 0 || seq > 255:
		return 2
	case seq == last+1 || last == 255 && seq == 0:
		return 0
	case seq == last:
		return 1
	}
	return 2
}

func axlesByWords(list []impl.Telegram) (int, int) {
	if len(list) > 200 || slices.ContainsFunc(list, func(w impl.Telegram) bool { return !wordByWords(w) }) {
		return -1, -1
	}
	axles, known, last, passed := 0, true, 255, 0
	for _, w := range list {
		accepted, number := acceptByWords(last, w.Seq), 0
		if accepted == 1 {
			passed++
			continue
		}
		if len(w.Body) > 0 {
			number = int(w.Body[0])
		}
		known, last = known && accepted == 0, w.Seq
		switch {
		case w.Kind == 3:
			axles, known = 0, true
		case w.Kind == 1 && known:
			axles += number
		case w.Kind == 2 && known:
			axles -= number
			known = axles >= 0
		}
	}
	if !known {
		return -1, passed
	}
	return axles, passed
}

func checkBytes(t *testing.T, what string, got, want []byte) {
	t.Helper()
	if !bytes.Equal(got, want) {
		t.Errorf("%s: %v, not %v", what, got, want)
	}
}

func checkCrc(t *testing.T, data []byte) int {
	t.Helper()
	was := slices.Clone(data)
	got := impl.Crc8(data)
	if want := crcByWords(data); got != want {
		t.Fatalf("Crc8 of %d bytes: %d, not %d", len(data), got, want)
	}
	if !bytes.Equal(data, was) {
		t.Fatalf("%v was %v", data, was)
	}
	return got
}

// checkEncode holds TelegramOk and Encode against the words, and what is sent against Decode and Scan.
func checkEncode(t *testing.T, w impl.Telegram) []byte {
	t.Helper()
	was := wordCopy(w)
	if got, want := impl.TelegramOk(w), wordByWords(w); got != want {
		t.Fatalf("TelegramOk(%v): %v", w, got)
	}
	sent := impl.Encode(w)
	if want := encodeByWords(w); !bytes.Equal(sent, want) {
		t.Fatalf("Encode(%v): %v, not %v", w, sent, want)
	}
	if !sameWord(w, was) {
		t.Fatalf("%v was %v", w, was)
	}
	if wordByWords(w) {
		if got, ok := checkDecode(t, sent); !ok || !sameWord(got, w) {
			t.Fatalf("Decode of Encode(%v): %v, %v", w, got, ok)
		}
		if got, spoilt := checkScan(t, sent); spoilt != 0 || !sameWords(got, []impl.Telegram{w}) {
			t.Fatalf("Scan of Encode(%v): %v, %d", w, got, spoilt)
		}
	}
	return sent
}

func checkDecode(t *testing.T, data []byte) (impl.Telegram, bool) {
	t.Helper()
	was := slices.Clone(data)
	got, ok := impl.Decode(data)
	if want, wantOk := decodeByWords(data); ok != wantOk || !sameWord(got, want) {
		t.Fatalf("Decode(%v): %v, %v, not %v, %v", data, got, ok, want, wantOk)
	}
	if !bytes.Equal(data, was) {
		t.Fatalf("%v was %v", data, was)
	}
	return got, ok
}

func checkScan(t *testing.T, stream []byte) ([]impl.Telegram, int) {
	t.Helper()
	was := slices.Clone(stream)
	got, spoilt := impl.Scan(stream)
	if want, wantSpoilt := scanByWords(stream); spoilt != wantSpoilt || !sameWords(got, want) {
		t.Fatalf("Scan(%v): %v, %d, not %v, %d", stream, got, spoilt, want, wantSpoilt)
	}
	if !bytes.Equal(stream, was) {
		t.Fatalf("%v was %v", stream, was)
	}
	return got, spoilt
}

func checkAxles(t *testing.T, list []impl.Telegram) (int, int) {
	t.Helper()
	was := wordsCopy(list)
	got, passed := impl.Axles(list)
	if want, wantPassed := axlesByWords(list); got != want || passed != wantPassed {
		t.Fatalf("Axles(%v): %d, %d, not %d, %d", list, got, passed, want, wantPassed)
	}
	if !sameWords(list, was) {
		t.Fatalf("%v was %v", list, was)
	}
	return got, passed
}

// hotBytes are those that are escaped, what they are sent as, and their neighbours.
func hotBytes() []byte {
	return []byte{0, 32, 93, 94, 124, 125, 126, 127, 255}
}

// someBytes throws bytes of which so many in ten are hot.
func someBytes(d *dice, count, hot int) []byte {
	list := make([]byte, count)
	for k := range list {
		list[k] = byte(d.below(256))
		if d.below(10) < hot {
			list[k] = hotBytes()[d.below(9)]
		}
	}
	return list
}

func someWord(d *dice) impl.Telegram {
	w := word(d.below(256), d.below(16), someBytes(d, d.below(61), d.below(11))...)
	if d.below(3) == 0 {
		w.Seq = int(hotBytes()[d.below(9)])
	}
	return w
}

// spoiltPiece throws bytes without a flag that are no telegram between two flags.
func spoiltPiece(d *dice) []byte {
	for {
		piece := bytes.ReplaceAll(someBytes(d, 1+d.below(9), 4), []byte{126}, nil)
		if d.below(2) == 0 {
			sent := encodeByWords(someWord(d))
			piece = slices.Delete(sent[1:len(sent)-1], 0, 1)
		}
		if _, ok := decodeByWords(framed(piece...)); !ok && len(piece) > 0 {
			return piece
		}
	}
}

// wrongWords are wrong in one thing alone, but for the last ones.
func wrongWords() map[string]impl.Telegram {
	return map[string]impl.Telegram{
		"Seq of -1":             word(-1, 1, 5),
		"Seq of 256":            word(256, 1, 5),
		"Seq of 257":            word(257, 1, 5),
		"Seq of -256":           word(-256, 1, 5),
		"the least Seq":         word(math.MinInt, 1, 5),
		"the greatest Seq":      word(math.MaxInt, 1, 5),
		"Seq beyond 32 bits":    word(1<<32, 1, 5),
		"Kind of -1":            word(0, -1, 5),
		"Kind of 16":            word(0, 16, 5),
		"Kind of 17":            word(0, 17, 5),
		"Kind of 256":           word(0, 256, 5),
		"Kind of 257":           word(0, 257, 5),
		"the least Kind":        word(0, math.MinInt, 5),
		"the greatest Kind":     word(0, math.MaxInt, 5),
		"Kind beyond 32 bits":   word(0, 1<<32+1, 5),
		"one byte too many":     word(0, 1, ramp(61)...),
		"255 bytes":             word(0, 1, ramp(255)...),
		"256 bytes":             word(0, 1, ramp(256)...),
		"257 bytes":             word(0, 1, ramp(257)...),
		"far too many bytes":    word(0, 1, make([]byte, 100000)...),
		"Seq of 256, no Body":   word(256, 0),
		"Kind of 16, no Body":   word(0, 16),
		"Seq of 256, Kind of 3": word(256, 3),
		"Seq and Kind of -1":    word(-1, -1, 5),
		"wrong in all three":    word(256, 16, ramp(61)...),
	}
}

func TestWordConstants(t *testing.T) {
	checkInts(t, "limits", []int{impl.MaxBody, impl.MaxStream, impl.MaxTelegrams}, []int{60, 3000, 200})
}

func TestTelegramOk(t *testing.T) {
	bodies := map[int][]byte{-1: nil, 0: {}, 1: {0}, 59: ramp(59), 60: ramp(60), 61: ramp(61)}
	for _, seq := range []int{math.MinInt, -256, -1, 0, 1, 127, 128, 254, 255, 256, 257, 512, math.MaxInt} {
		for _, kind := range []int{math.MinInt, -16, -1, 0, 1, 14, 15, 16, 17, 255, 256, math.MaxInt} {
			for count, body := range bodies {
				w := word(seq, kind, body...)
				want := seq >= 0 && seq <= 255 && kind >= 0 && kind <= 15 && count <= 60
				if got := impl.TelegramOk(w); got != want {
					t.Errorf("%v: %v", w, got)
				}
				if sent := checkEncode(t, w); (len(sent) > 0) != want {
					t.Errorf("Encode(%v): %v", w, sent)
				}
			}
		}
	}
	if !impl.TelegramOk(impl.Telegram{}) {
		t.Error("the zero value is not right")
	}
	for count := range 300 {
		if got := impl.TelegramOk(word(255, 15, make([]byte, count)...)); got != (count <= 60) {
			t.Errorf("%d bytes: %v", count, got)
		}
	}
	for name, w := range wrongWords() {
		if impl.TelegramOk(w) {
			t.Errorf("%s: not wrong", name)
		}
	}
}

func TestCrc8ByHand(t *testing.T) {
	cases := map[string]struct {
		data []byte
		want int
	}{
		"nothing":                 {nil, 0},
		"an empty list":           {[]byte{}, 0},
		"0":                       {[]byte{0}, 0},
		"many noughts":            {make([]byte, 3000), 0},
		"1":                       {[]byte{1}, 7},
		"2":                       {[]byte{2}, 14},
		"128":                     {[]byte{128}, 137},
		"255":                     {[]byte{255}, 243},
		"125":                     {[]byte{125}, 116},
		"126":                     {[]byte{126}, 125},
		"a nought ahead":          {[]byte{0, 1}, 7},
		"a nought behind":         {[]byte{1, 0}, 21},
		"a byte and its Crc8":     {[]byte{1, 7}, 0},
		"three":                   {[]byte{1, 2, 3}, 72},
		"the digits":              {[]byte("123456789"), 244},
		"one fewer than may be":   {slices.Repeat([]byte{1}, 2999), 236},
		"MaxStream bytes":         {slices.Repeat([]byte{1}, 3000), 141},
		"MaxStream great bytes":   {slices.Repeat([]byte{255}, 3000), 29},
		"one more":                {slices.Repeat([]byte{1}, 3001), 0},
		"one more, great bytes":   {slices.Repeat([]byte{255}, 3001), 0},
		"far more":                {slices.Repeat([]byte{1}, 100000), 0},
		"MaxStream, the last one": {append(make([]byte, 2999), 1), 7},
		"one more, the last one":  {append(make([]byte, 3000), 1), 0},
	}
	for name, c := range cases {
		if got := impl.Crc8(c.data); got != c.want {
			t.Errorf("%s: %d, not %d", name, got, c.want)
		}
		checkCrc(t, c.data)
	}
}

// TestCrc8OfEachByte asks each single byte, each two of them, and that no two bytes have one Crc8.
func TestCrc8OfEachByte(t *testing.T) {
	var met [256]int
	for a := range 256 {
		crc := checkCrc(t, []byte{byte(a)})
		if crc < 0 || crc > 255 {
			t.Fatalf("Crc8 of %d: %d", a, crc)
		}
		met[crc]++
		for b := range 256 {
			// The second byte is changed by what came of the first one.
			if got, want := impl.Crc8([]byte{byte(a), byte(b)}), impl.Crc8([]byte{byte(b ^ crc)}); got != want {
				t.Fatalf("Crc8 of %d, %d: %d, not %d", a, b, got, want)
			}
		}
	}
	for crc, count := range met {
		if count != 1 {
			t.Errorf("%d bytes have the Crc8 %d", count, crc)
		}
	}
}

func TestCrc8OfMany(t *testing.T) {
	d := &dice{state: 201}
	for count := range 300 {
		checkCrc(t, someBytes(d, count, d.below(11)))
	}
	for _, count := range []int{1000, 2000, 2998, 2999, 3000, 3001, 3002, 6000, 65536 + 5} {
		data := someBytes(d, count, 1)
		// With its Crc8 behind it, the rest is 0, and 0 stays 0: another end shows whether all bytes count.
		if crc := checkCrc(t, data); count < 3000 && impl.Crc8(append(data, byte(crc))) != 0 {
			t.Errorf("%d bytes with their Crc8", count)
		}
	}
}

func TestEncodeByHand(t *testing.T) {
	cases := map[string]struct {
		word impl.Telegram
		want []byte
	}{
		"the zero value":           {impl.Telegram{}, framed(0, 0, 0, 0)},
		"an empty Body":            {impl.Telegram{Body: []byte{}}, framed(0, 0, 0, 0)},
		"the greatest, no Body":    {word(255, 15), framed(255, 15, 0, 232)},
		"one byte":                 {word(0, 1, 8), framed(0, 1, 1, 8, 70)},
		"another":                  {word(1, 2, 3), framed(1, 2, 1, 3, 220)},
		"a reset":                  {word(7, 3), framed(7, 3, 0, 41)},
		"three bytes":              {word(9, 4, 1, 2, 3), framed(9, 4, 3, 1, 2, 3, 155)},
		"Seq of 125":               {word(125, 0), framed(125, 93, 0, 0, 246)},
		"Seq of 126":               {word(126, 0), framed(125, 94, 0, 0, 75)},
		"Seq of 126, a 125":        {word(126, 1, 125), framed(125, 94, 1, 1, 125, 93, 252)},
		"side by side":             {word(0, 0, 125, 126), framed(0, 0, 2, 125, 93, 125, 94, 224)},
		"first and last":           {word(0, 0, 126, 0, 125), framed(0, 0, 3, 125, 94, 0, 125, 93, 5)},
		"Seq and Body":             {word(125, 1, 126, 125), framed(125, 93, 1, 2, 125, 94, 125, 93, 170)},
		"Crc8 of 125":              {word(6, 0), framed(6, 0, 0, 125, 93)},
		"Crc8 of 126":              {word(216, 0), framed(216, 0, 0, 125, 94)},
		"125 and a Crc8 of 125":    {word(47, 0, 125), framed(47, 0, 1, 125, 93, 125, 93)},
		"125 and a Crc8 of 126":    {word(223, 0, 125), framed(223, 0, 1, 125, 93, 125, 94)},
		"126 and a Crc8 of 125":    {word(241, 0, 126), framed(241, 0, 1, 125, 94, 125, 93)},
		"126 and a Crc8 of 126":    {word(1, 0, 126), framed(1, 0, 1, 125, 94, 125, 94)},
		"what a flag is sent as":   {word(0, 0, 93), framed(0, 0, 1, 93, 129)},
		"the byte of an exclusive": {word(0, 0, 32), framed(0, 0, 1, 32, 245)},
	}
	for name, c := range cases {
		checkBytes(t, name, impl.Encode(c.word), c.want)
		checkEncode(t, c.word)
	}
	for name, w := range wrongWords() {
		if sent := impl.Encode(w); len(sent) != 0 {
			t.Errorf("%s: %v", name, sent)
		}
		checkEncode(t, w)
	}
}

// TestEncodeOfEachHead takes every Seq with every Kind.
func TestEncodeOfEachHead(t *testing.T) {
	d := &dice{state: 202}
	for seq := -2; seq <= 258; seq++ {
		for kind := -2; kind <= 18; kind++ {
			checkEncode(t, word(seq, kind))
			checkEncode(t, word(seq, kind, someBytes(d, 1+d.below(4), 5)...))
		}
	}
}

// TestEncodeOfEachLength has Bodies in which nothing is escaped, all is, or the first, the last or one between.
func TestEncodeOfEachLength(t *testing.T) {
	for count := range 64 {
		for _, hot := range []byte{125, 126} {
			plain, all := word(3, 4, ramp(count)...), word(3, 4, slices.Repeat([]byte{hot}, count)...)
			checkEncode(t, plain)
			sent := checkEncode(t, all)
			if want := 2*count + 6; count <= 60 && len(sent) != want && len(sent) != want+1 {
				t.Errorf("%d times %d: %d bytes", count, hot, len(sent))
			}
			for place := range count {
				w := wordCopy(plain)
				w.Body[place] = hot
				checkEncode(t, w)
				if place > 0 {
					w.Body[place-1] = 125 + 126 - hot
					checkEncode(t, w)
				}
			}
		}
	}
	// The longest of all: Seq, each byte of Body and the Crc8 are two bytes.
	longest := 0
	eachFlags(9, func(flags []bool) {
		w := word(125, 15, slices.Repeat([]byte{126}, 60)...)
		for k, flag := range flags {
			if !flag {
				w.Body[7*k] = 125
			}
		}
		longest = max(longest, len(checkEncode(t, w)))
	})
	if longest != 128 {
		t.Errorf("the longest has %d bytes", longest)
	}
}

// TestEscapedNowhere asks for Bodies of each length that are sent as they are.
func TestEscapedNowhere(t *testing.T) {
	for count := range 61 {
		plain := 0
		for seq := range 20 {
			w := word(seq, 0, ramp(count)...)
			sent := checkEncode(t, w)
			if len(sent) == count+6 {
				plain++
				checkBytes(t, "sent as it is", sent[1:len(sent)-1], loadByWords(w))
			}
		}
		if plain < 15 {
			t.Errorf("of %d bytes: only %d", count, plain)
		}
	}
}

// TestEscapesAnywhere lets hot bytes be Seq and all that a short Body has, and counts the Crc8s that are escaped.
func TestEscapesAnywhere(t *testing.T) {
	met := map[[2]byte]int{}
	for _, seq := range hotBytes() {
		manyLists(3, hotBytes(), func(body []byte) {
			load := loadByWords(word(int(seq), 1, body...))
			end := len(load) - 1
			met[[2]byte{load[end-1], load[end]}]++
			checkEncode(t, word(int(seq), 1, body...))
		})
	}
	for _, a := range []byte{125, 126} {
		for _, b := range []byte{125, 126} {
			if met[[2]byte{a, b}] == 0 {
				t.Errorf("%d with a Crc8 of %d was not met", a, b)
			}
		}
	}
	for _, crc := range []int{125, 126} {
		count := 0
		for seq := range 256 {
			for last := range 256 {
				w := word(seq, 5, 7, byte(last))
				if impl.Crc8(loadByWords(w)[:5]) == crc {
					checkEncode(t, w)
					count++
				}
			}
		}
		if count != 256 {
			t.Errorf("a Crc8 of %d: %d times", crc, count)
		}
	}
}

func TestDecodeByHand(t *testing.T) {
	right := map[string]impl.Telegram{
		"the least":            word(0, 0),
		"the greatest":         word(255, 15, slices.Repeat([]byte{126}, 60)...),
		"Seq and Body escaped": word(126, 1, 125),
		"MaxBody":              word(1, 2, ramp(60)...),
	}
	for name, w := range right {
		if got, ok := impl.Decode(encodeByWords(w)); !ok || !sameWord(got, w) {
			t.Errorf("%s: %v, %v", name, got, ok)
		}
	}
	sent := framed(9, 4, 3, 1, 2, 3, 155)
	wrong := map[string][]byte{
		"nothing":                      nil,
		"an empty list":                {},
		"one flag":                     {126},
		"two flags":                    {126, 126},
		"three flags":                  {126, 126, 126},
		"six flags":                    {126, 126, 126, 126, 126, 126},
		"one byte":                     {0},
		"an escape":                    {125},
		"an escape between flags":      {126, 125, 126},
		"an escaped flag alone":        {126, 125, 94, 126},
		"without its first flag":       sent[1:],
		"without its last flag":        sent[:len(sent)-1],
		"without both":                 sent[1 : len(sent)-1],
		"a byte more ahead":            append([]byte{5}, sent...),
		"a byte more behind":           append(slices.Clone(sent), 5),
		"a nought more ahead":          append([]byte{0}, sent...),
		"a nought more behind":         append(slices.Clone(sent), 0),
		"a flag more ahead":            append([]byte{126}, sent...),
		"a flag more behind":           append(slices.Clone(sent), 126),
		"sent twice":                   append(slices.Clone(sent), sent...),
		"two that share a flag":        append(slices.Clone(sent), sent[1:]...),
		"a flag within":                framed(9, 4, 126, 3, 1, 2, 3, 155),
		"a flag for a byte":            framed(crced(9, 4, 3, 1, 126, 3)...),
		"a flag as Seq":                framed(126, 0, 0, 75),
		"an escape as Seq":             framed(125, 0, 0, 246),
		"an escape in the Body":        framed(crced(9, 4, 3, 1, 125, 3)...),
		"an escape as Crc8":            framed(6, 0, 0, 125),
		"a flag as Crc8":               framed(216, 0, 0, 126),
		"an escape at last":            framed(9, 4, 3, 1, 2, 3, 155, 125),
		"an escape for its last byte":  framed(9, 4, 3, 1, 2, 3, 125),
		"two escapes":                  framed(125, 125, 0, 0, 246),
		"an escape and a flag":         framed(125, 126, 0, 0, 246),
		"an escaped escape, too short": framed(125, 93),
		"one byte of a load":           framed(0),
		"two":                          framed(0, 0),
		"three":                        framed(0, 0, 0),
		"without its Crc8":             framed(9, 4, 3, 1, 2, 3),
		"another Crc8":                 framed(9, 4, 3, 1, 2, 3, 154),
		"the Crc8 twice":               framed(9, 4, 3, 1, 2, 3, 155, 155),
		"a byte too few":               framed(crced(9, 4, 3, 1, 2)...),
		"a byte too many":              framed(crced(9, 4, 3, 1, 2, 3, 4)...),
		"a length of 0":                framed(crced(9, 4, 0, 1, 2, 3)...),
		"a length of 1, no Body":       framed(crced(9, 4, 1)...),
		"Kind of 16":                   framed(0, 16, 0, 87),
		"Kind of 255":                  framed(crced(0, 255, 0)...),
		"a length of 61":               framed(crced(joinBytes([]byte{9, 4, 61}, ramp(61))...)...),
		"a length of 60 of 61":         framed(crced(joinBytes([]byte{9, 4, 60}, ramp(61))...)...),
		"a length of 255":              framed(escapedByWords(crced(joinBytes([]byte{9, 4, 255}, make([]byte, 255))...))...),
		"a length that wraps to 0":     framed(crced(joinBytes([]byte{9, 4, 0}, make([]byte, 256))...)...),
		"a length that wraps to 3":     framed(crced(joinBytes([]byte{9, 4, 3}, make([]byte, 259))...)...),
		"many bytes":                   framed(make([]byte, 100000)...),
		"many escapes":                 framed(slices.Repeat([]byte{125}, 9999)...),
		"many escaped escapes":         framed(slices.Repeat([]byte{125, 93}, 9999)...),
		"more than MaxStream":          framed(crced(joinBytes([]byte{0, 0, 0}, make([]byte, 4000))...)...),
	}
	for name, data := range wrong {
		if got, ok := impl.Decode(data); ok || !sameWord(got, impl.Telegram{}) {
			t.Errorf("%s: %v, %v", name, got, ok)
		}
		checkDecode(t, data)
		checkScan(t, data[:min(len(data), 3000)])
	}
}

// spoiltWords are taken apart byte by byte.
func spoiltWords() []impl.Telegram {
	return []impl.Telegram{
		{}, word(255, 15), word(0, 1, 8), word(125, 1, 126, 125), word(126, 0), word(6, 0), word(216, 0), word(47, 0, 125),
		word(93, 2, 94), word(124, 3, 127, 124), word(9, 4, 125, 126, 0, 93, 94, 125), word(1, 2, ramp(60)...),
		word(126, 15, slices.Repeat([]byte{125, 126}, 30)...),
	}
}

// TestDecodeOfChangedBits changes each single bit: no telegram is left, whichever it is.
func TestDecodeOfChangedBits(t *testing.T) {
	for _, w := range spoiltWords() {
		sent := encodeByWords(w)
		for place := range sent {
			for bit := range 8 {
				data := slices.Clone(sent)
				data[place] ^= 1 << bit
				if got, ok := checkDecode(t, data); ok || !sameWord(got, impl.Telegram{}) {
					t.Fatalf("%v, bit %d of place %d: %v, %v", sent, bit, place, got, ok)
				}
				checkScan(t, data)
			}
		}
	}
}

// TestDecodeOfChangedBytes makes each byte another one, takes it out, and puts each byte in ahead of it and at the end. A
// byte more or fewer may make another telegram, by chance.
func TestDecodeOfChangedBytes(t *testing.T) {
	for _, w := range spoiltWords() {
		sent := encodeByWords(w)
		for place := range len(sent) + 1 {
			for b := range 256 {
				if place < len(sent) {
					data := slices.Clone(sent)
					data[place] = byte(b)
					if _, ok := checkDecode(t, data); ok != (byte(b) == sent[place]) {
						t.Fatalf("%v with %d at %d: %v", sent, b, place, ok)
					}
				}
				checkDecode(t, slices.Insert(slices.Clone(sent), place, byte(b)))
			}
			if place < len(sent) {
				checkDecode(t, slices.Delete(slices.Clone(sent), place, place+1))
			}
		}
	}
}

// TestDecodeOfEscapes puts an escape ahead of each byte, at each place of loads that are right otherwise.
func TestDecodeOfEscapes(t *testing.T) {
	for b := range 256 {
		x := byte(b)
		loads := [][]byte{crced(x, 0, 0), crced(0, 0, 1, x), crced(0, 0, 3, x, 5, 6), crced(0, 0, 3, 5, x, 6), crced(0, 0, 3, 5, 6, x)}
		places := []int{0, 3, 3, 4, 5}
		for k, load := range loads {
			head, tail := escapedByWords(load[:places[k]]), escapedByWords(load[places[k]+1:])
			needed := x == 125 || x == 126
			if _, ok := checkDecode(t, framed(joinBytes(head, []byte{125, x ^ 32}, tail)...)); ok != needed {
				t.Errorf("%d escaped at %d of %v: %v", x, places[k], load, ok)
			}
			if _, ok := checkDecode(t, framed(joinBytes(head, []byte{x}, tail)...)); ok == needed {
				t.Errorf("%d as it is at %d of %v: %v", x, places[k], load, ok)
			}
			// An escape whose byte stands as it is behind it.
			if _, ok := checkDecode(t, framed(joinBytes(head, []byte{125, x}, tail)...)); ok {
				t.Errorf("an escape ahead of %d at %d of %v", x, places[k], load)
			}
		}
		for kind := range 16 {
			load := crced(x, byte(kind), 0)
			end := len(load) - 1
			needed := load[end] == 125 || load[end] == 126
			if _, ok := checkDecode(t, framed(joinBytes(escapedByWords(load[:end]), []byte{125, load[end] ^ 32})...)); ok != needed {
				t.Errorf("the Crc8 of %v escaped: %v", load, ok)
			}
		}
	}
	// Neither Kind nor the length is ever escaped.
	for kind := range 16 {
		checkDecode(t, framed(joinBytes([]byte{0, 125, byte(kind) ^ 32, 0}, crced(0, byte(kind), 0)[3:])...))
		checkDecode(t, framed(joinBytes([]byte{0, byte(kind), 125, 32}, crced(0, byte(kind), 0)[3:])...))
	}
}

// TestDecodeOfEachHead lets every byte be the Kind, the length and the Crc8 of loads of each length.
func TestDecodeOfEachHead(t *testing.T) {
	for kind := range 256 {
		load := crced(5, byte(kind), 2, 8, 9)
		if _, ok := checkDecode(t, framed(escapedByWords(load)...)); ok != (kind <= 15) {
			t.Errorf("Kind %d: %v", kind, ok)
		}
	}
	for length := range 256 {
		for _, count := range []int{0, 1, 2, 59, 60, 61, 124, 125, 126, 127, 255} {
			load := crced(joinBytes([]byte{5, 1, byte(length)}, make([]byte, count))...)
			if _, ok := checkDecode(t, framed(escapedByWords(load)...)); ok != (length == count && count <= 60) {
				t.Errorf("a length of %d with %d bytes: %v", length, count, ok)
			}
		}
	}
	for seq := range 256 {
		right := 0
		for crc := range 256 {
			if w, ok := checkDecode(t, framed(escapedByWords([]byte{byte(seq), 1, 0, byte(crc)})...)); ok {
				right++
				if w.Seq != seq || w.Kind != 1 || len(w.Body) != 0 {
					t.Errorf("Seq %d: %v", seq, w)
				}
			}
		}
		if right != 1 {
			t.Errorf("Seq %d: right with %d numbers for its Crc8", seq, right)
		}
	}
}

// TestDecodeOfAllShortData goes through all that a few bytes make, between flags and without.
func TestDecodeOfAllShortData(t *testing.T) {
	right := map[bool]int{}
	manyLists(5, []byte{0, 1, 7, 93, 94, 125, 126}, func(data []byte) {
		checkDecode(t, data)
		_, ok := checkDecode(t, framed(data...))
		right[ok]++
	})
	if right[true] == 0 || right[false] == 0 {
		t.Errorf("%v", right)
	}
}

func TestScanByHand(t *testing.T) {
	a, b := word(0, 1, 8), word(126, 2, 125)
	sentA, sentB := encodeByWords(a), encodeByWords(b)
	bareA := sentA[1 : len(sentA)-1]
	spoiltA := slices.Delete(slices.Clone(sentA), 2, 3)
	junk := []byte{1, 2, 3}
	cases := map[string]struct {
		stream []byte
		want   []impl.Telegram
		spoilt int
	}{
		"nothing":                         {nil, nil, 0},
		"an empty list":                   {[]byte{}, nil, 0},
		"one flag":                        {[]byte{126}, nil, 0},
		"flags alone":                     {slices.Repeat([]byte{126}, 9), nil, 0},
		"one byte":                        {[]byte{0}, nil, 1},
		"an escape":                       {[]byte{125}, nil, 1},
		"no flag":                         {junk, nil, 1},
		"no flag, but a whole load":       {bareA, []impl.Telegram{a}, 0},
		"no first flag":                   {sentA[1:], []impl.Telegram{a}, 0},
		"no last flag":                    {sentA[:len(sentA)-1], []impl.Telegram{a}, 0},
		"one":                             {sentA, []impl.Telegram{a}, 0},
		"one piece at the first end":      {joinBytes(junk, []byte{126}), nil, 1},
		"one piece at the last end":       {joinBytes([]byte{126}, junk), nil, 1},
		"one piece at each end":           {joinBytes(junk, []byte{126}, junk), nil, 2},
		"junk ahead":                      {joinBytes(junk, sentA), []impl.Telegram{a}, 1},
		"junk behind":                     {joinBytes(sentA, junk), []impl.Telegram{a}, 1},
		"junk on both sides":              {joinBytes(junk, sentA, junk), []impl.Telegram{a}, 2},
		"one byte on both sides":          {joinBytes([]byte{0}, sentA, []byte{0}), []impl.Telegram{a}, 2},
		"flags on both sides":             {joinBytes([]byte{126, 126}, sentA, []byte{126, 126, 126}), []impl.Telegram{a}, 0},
		"two":                             {joinBytes(sentA, sentB), []impl.Telegram{a, b}, 0},
		"two, turned round":               {joinBytes(sentB, sentA), []impl.Telegram{b, a}, 0},
		"two that share a flag":           {joinBytes(sentA, sentB[1:]), []impl.Telegram{a, b}, 0},
		"three that share flags":          {joinBytes(sentA, sentB[1:], sentA[1:]), []impl.Telegram{a, b, a}, 0},
		"sent twice":                      {joinBytes(sentA, sentA), []impl.Telegram{a, a}, 0},
		"junk between":                    {joinBytes(sentA, junk, sentB), []impl.Telegram{a, b}, 1},
		"junk between, with flags":        {joinBytes(sentA, framed(junk...), sentB), []impl.Telegram{a, b}, 1},
		"two pieces between":              {joinBytes(sentA, junk, []byte{126}, junk, sentB), []impl.Telegram{a, b}, 2},
		"an escape ahead of a flag":       {joinBytes([]byte{125}, sentA), []impl.Telegram{a}, 1},
		"an escape behind":                {joinBytes(sentA, []byte{125}), []impl.Telegram{a}, 1},
		"a spoilt one":                    {spoiltA, nil, 1},
		"a spoilt one ahead":              {joinBytes(spoiltA, sentB), []impl.Telegram{b}, 1},
		"a spoilt one behind":             {joinBytes(sentB, spoiltA), []impl.Telegram{b}, 1},
		"a spoilt one between":            {joinBytes(sentB, spoiltA, sentA), []impl.Telegram{b, a}, 1},
		"a spoilt one sharing both flags": {joinBytes(sentB, spoiltA[1:len(spoiltA)-1], sentA), []impl.Telegram{b, a}, 1},
		"cut in two by a flag":            {framed(bareA[0], bareA[1], 126, bareA[2], bareA[3], bareA[4]), nil, 2},
		"without the flag between":        {framed(joinBytes(bareA, bareA)...), nil, 1},
		"one load in another's Body":      {encodeByWords(word(1, 1, sentA...)), []impl.Telegram{word(1, 1, sentA...)}, 0},
	}
	for name, c := range cases {
		if got, spoilt := impl.Scan(c.stream); !sameWords(got, c.want) || spoilt != c.spoilt {
			t.Errorf("%s: %v, %d, not %v, %d", name, got, spoilt, c.want, c.spoilt)
		}
		checkScan(t, c.stream)
	}
}

// TestScanAtMaxStream has streams of just so many bytes as may be, one fewer and one more.
func TestScanAtMaxStream(t *testing.T) {
	one := encodeByWords(word(3, 1, 4))
	fives := []byte{0, 0, 0, 0, 126}
	for _, count := range []int{2998, 2999, 3000, 3001, 3002, 6000, 100000} {
		beyond, rest := count > 3000, 0
		// What is left behind the last flag is nothing, a whole load, or a spoilt piece.
		if count%5 > 0 && count%5 < 4 {
			rest = 1
		}
		streams := map[string]struct {
			stream        []byte
			words, spoilt int
		}{
			"flags alone":          {slices.Repeat([]byte{126}, count), 0, 0},
			"no flag":              {make([]byte, count), 0, 1},
			"a telegram at last":   {joinBytes(slices.Repeat([]byte{126}, count-len(one)), one), 1, 0},
			"a telegram first":     {joinBytes(one, slices.Repeat([]byte{126}, count-len(one))), 1, 0},
			"junk, then one":       {joinBytes(make([]byte, count-len(one)), one), 1, 1},
			"one, then junk":       {joinBytes(one, make([]byte, count-len(one))), 1, 1},
			"escapes":              {slices.Repeat([]byte{125}, count), 0, 1},
			"as many as there fit": {slices.Repeat(fives, count/5+1)[:count], (count + 1) / 5, rest},
			"as many spoilt":       {slices.Repeat([]byte{9, 126}, count/2+1)[:count], 0, (count + 1) / 2},
		}
		for name, s := range streams {
			got, spoilt := checkScan(t, s.stream)
			if beyond && (len(got) != 0 || spoilt != -1) {
				t.Errorf("%d bytes, %s: %d, %d", count, name, len(got), spoilt)
			}
			if !beyond && (len(got) != s.words || spoilt != s.spoilt) {
				t.Errorf("%d bytes, %s: %d, %d", count, name, len(got), spoilt)
			}
		}
	}
}

// TestScanOfAllShortStreams goes through all that a few bytes make; four noughts are the least load.
func TestScanOfAllShortStreams(t *testing.T) {
	found := map[int]int{}
	manyLists(9, []byte{0, 125, 126}, func(stream []byte) {
		got, _ := checkScan(t, stream)
		found[len(got)]++
	})
	// Two fit into nine bytes alone, and in one way: with a flag between them.
	if found[2] != 1 || found[1] == 0 || found[0] == 0 {
		t.Errorf("%v", found)
	}
}

func TestManyStreams(t *testing.T) {
	d := &dice{state: 203}
	words := 0
	for range 1500 {
		var stream []byte
		for range d.below(12) {
			switch d.below(6) {
			case 0:
				stream = append(stream, someBytes(d, d.below(20), 5)...)
			case 1:
				stream = append(stream, spoiltPiece(d)...)
			case 2:
				sent := encodeByWords(someWord(d))
				sent[d.below(len(sent))] ^= 1 << d.below(8)
				stream = append(stream, sent...)
			default:
				sent := encodeByWords(someWord(d))
				stream = append(stream, sent[d.below(2):len(sent)-d.below(2)]...)
			}
		}
		got, _ := checkScan(t, stream)
		words += len(got)
	}
	if words < 1500 {
		t.Errorf("only %d were found", words)
	}
}

func TestManyTelegrams(t *testing.T) {
	d := &dice{state: 204}
	for range 4000 {
		w := someWord(d)
		sent := checkEncode(t, w)
		if len(sent) < len(w.Body)+6 || len(sent) > 128 || bytes.Count(sent, []byte{126}) != 2 {
			t.Fatalf("%v: %v", w, sent)
		}
		for range 3 {
			data := slices.Clone(sent)
			for range 1 + d.below(3) {
				data[d.below(len(data))] = hotBytes()[d.below(9)]
			}
			checkDecode(t, data)
			checkScan(t, data)
		}
	}
}

func TestAccept(t *testing.T) {
	cases := [][3]int{
		{255, 0, 0}, {0, 1, 0}, {254, 255, 0}, {4, 5, 0}, {127, 128, 0},
		{0, 0, 1}, {255, 255, 1}, {4, 4, 1},
		{0, 255, 2}, {1, 0, 2}, {255, 1, 2}, {255, 254, 2}, {4, 6, 2}, {4, 3, 2}, {0, 2, 2}, {0, 128, 2},
		{-1, 0, 2}, {-1, -1, 2}, {0, -1, 2}, {255, 256, 2}, {256, 256, 2}, {256, 0, 2}, {256, 257, 2}, {256, 1, 2}, {255, -1, 2}, {-2, -1, 2},
		{-256, 0, 2}, {0, 256, 2}, {0, 257, 2}, {511, 0, 2}, {-1, 255, 2},
		{math.MaxInt, math.MinInt, 2}, {math.MaxInt, math.MaxInt, 2}, {math.MinInt, math.MinInt, 2}, {math.MinInt, math.MinInt + 1, 2},
		{math.MaxInt, 0, 2}, {0, math.MaxInt, 2}, {math.MinInt, 0, 2}, {255, math.MinInt, 2},
	}
	for _, c := range cases {
		if got := impl.Accept(c[0], c[1]); got != c[2] {
			t.Errorf("Accept(%d, %d): %d, not %d", c[0], c[1], got, c[2])
		}
	}
	counts := map[int]int{}
	for last := -3; last <= 259; last++ {
		for seq := -3; seq <= 259; seq++ {
			got := impl.Accept(last, seq)
			if want := acceptByWords(last, seq); got != want {
				t.Fatalf("Accept(%d, %d): %d, not %d", last, seq, got, want)
			}
			counts[got]++
		}
	}
	checkInts(t, "how often", []int{counts[0], counts[1]}, []int{256, 256})
}

// inRow has telegrams of one Kind and number, with their Seqs in a row from 0 on.
func inRow(count, kind int, number byte) []impl.Telegram {
	var list []impl.Telegram
	for k := range count {
		list = append(list, word(k%256, kind, number))
	}
	return list
}

func TestAxlesByHand(t *testing.T) {
	in, out := word(0, 1, 8), word(1, 2, 3)
	cases := map[string]struct {
		list   []impl.Telegram
		axles  int
		passed int
	}{
		"no telegram":                    {nil, 0, 0},
		"an empty list":                  {[]impl.Telegram{}, 0, 0},
		"one in":                         {[]impl.Telegram{in}, 8, 0},
		"in and out":                     {[]impl.Telegram{in, out}, 5, 0},
		"sent twice":                     {[]impl.Telegram{in, in, out}, 5, 1},
		"sent three times":               {[]impl.Telegram{in, in, in, out}, 5, 2},
		"both twice":                     {[]impl.Telegram{in, in, out, out}, 5, 2},
		"both three times":               {[]impl.Telegram{in, in, in, out, out, out}, 5, 4},
		"sent again with another Body":   {[]impl.Telegram{in, word(0, 1, 99)}, 8, 1},
		"a reset passed over":            {[]impl.Telegram{in, word(0, 3)}, 8, 1},
		"255 first is passed over":       {[]impl.Telegram{word(255, 1, 9)}, 0, 1},
		"255 first, then 0":              {[]impl.Telegram{word(255, 1, 9), in}, 8, 1},
		"a reset 255 first":              {[]impl.Telegram{word(255, 3)}, 0, 1},
		"1 first":                        {[]impl.Telegram{word(1, 1, 9)}, -1, 0},
		"254 first":                      {[]impl.Telegram{word(254, 1, 9)}, -1, 0},
		"a gap by a Kind 1":              {[]impl.Telegram{in, word(2, 1, 3)}, -1, 0},
		"a gap by a Kind 2":              {[]impl.Telegram{in, word(2, 2)}, -1, 0},
		"a gap by a Kind 0":              {[]impl.Telegram{in, word(2, 0)}, -1, 0},
		"a gap by a Kind 15":             {[]impl.Telegram{in, word(2, 15, 7)}, -1, 0},
		"a gap by a Kind 3":              {[]impl.Telegram{in, word(2, 3)}, 0, 0},
		"a step back":                    {[]impl.Telegram{in, out, in}, -1, 0},
		"a gap, then the next":           {[]impl.Telegram{in, word(2, 1, 3), word(3, 1, 4)}, -1, 0},
		"a gap, then one passed over":    {[]impl.Telegram{in, word(2, 1, 3), word(2, 1, 3)}, -1, 1},
		"a gap, passed over, then reset": {[]impl.Telegram{in, word(2, 1, 3), word(2, 3), word(3, 3)}, 0, 1},
		"made known again":               {[]impl.Telegram{in, word(2, 3), word(3, 1, 2)}, 2, 0},
		"known only behind the reset":    {[]impl.Telegram{in, word(2, 1, 3), word(3, 3), word(4, 1, 2), word(5, 2, 1)}, 1, 0},
		"two gaps":                       {[]impl.Telegram{in, word(2, 3), word(4, 3), word(5, 1, 6)}, 6, 0},
		"a gap behind a reset":           {[]impl.Telegram{in, word(1, 3), word(3, 1, 6)}, -1, 0},
		"a reset while known":            {[]impl.Telegram{in, word(1, 3)}, 0, 0},
		"a reset with a Body":            {[]impl.Telegram{in, word(1, 3, 50)}, 0, 0},
		"a reset of nothing":             {[]impl.Telegram{word(0, 3)}, 0, 0},
		"just as many out":               {[]impl.Telegram{in, word(1, 2, 8)}, 0, 0},
		"one more out":                   {[]impl.Telegram{in, word(1, 2, 9)}, -1, 0},
		"255 out":                        {[]impl.Telegram{in, word(1, 2, 255)}, -1, 0},
		"out of nothing":                 {[]impl.Telegram{word(0, 2, 1)}, -1, 0},
		"none out of nothing":            {[]impl.Telegram{word(0, 2, 0)}, 0, 0},
		"one more out, then in":          {[]impl.Telegram{in, word(1, 2, 9), word(2, 1, 50)}, -1, 0},
		"one more out, then reset":       {[]impl.Telegram{in, word(1, 2, 9), word(2, 3), word(3, 1, 4)}, 4, 0},
		"one more out, then a Kind 0":    {[]impl.Telegram{in, word(1, 2, 9), word(2, 0)}, -1, 0},
		"one more out, passed over":      {[]impl.Telegram{in, word(0, 2, 9), out}, 5, 1},
		"none in":                        {[]impl.Telegram{in, word(1, 1)}, 8, 0},
		"none out":                       {[]impl.Telegram{in, word(1, 2)}, 8, 0},
		"an empty Body in":               {[]impl.Telegram{in, {Seq: 1, Kind: 1, Body: []byte{}}}, 8, 0},
		"the first byte alone":           {[]impl.Telegram{word(0, 1, 5, 200, 200), word(1, 2, 2, 200)}, 3, 0},
		"the first byte is 0":            {[]impl.Telegram{word(0, 1, 0, 200)}, 0, 0},
		"great bytes":                    {[]impl.Telegram{word(0, 1, 255), word(1, 1, 255), word(2, 1, 128)}, 638, 0},
		"a wide Body":                    {[]impl.Telegram{word(0, 1, ramp(60)...)}, 1, 0},
		"MaxTelegrams":                   {inRow(200, 1, 255), 51000, 0},
		"one more":                       {inRow(201, 1, 255), -1, -1},
		"far more":                       {inRow(10000, 1, 255), -1, -1},
		"MaxTelegrams, all alike":        {slices.Repeat([]impl.Telegram{in}, 200), 8, 199},
		"one more, all alike":            {slices.Repeat([]impl.Telegram{in}, 201), -1, -1},
	}
	for name, c := range cases {
		if axles, passed := impl.Axles(c.list); axles != c.axles || passed != c.passed {
			t.Errorf("%s: %d, %d, not %d, %d", name, axles, passed, c.axles, c.passed)
		}
		checkAxles(t, c.list)
	}
}

// TestAxlesOfEachKind lets each Kind come while the count is known, while it is not, and by a gap.
func TestAxlesOfEachKind(t *testing.T) {
	for kind := range 16 {
		known, unknown := 20, -1
		switch kind {
		case 1:
			known = 27
		case 2:
			known = 13
		case 3:
			known, unknown = 0, 0
		}
		for _, c := range []struct {
			list []impl.Telegram
			want int
		}{
			{[]impl.Telegram{word(0, 1, 20), word(1, kind, 7, 9)}, known},
			{[]impl.Telegram{word(0, 2, 20), word(1, kind, 7, 9)}, unknown},
			{[]impl.Telegram{word(0, 1, 20), word(2, kind, 7, 9)}, unknown},
			{[]impl.Telegram{word(0, 1, 20), word(0, kind, 7, 9)}, 20},
		} {
			if axles, _ := checkAxles(t, c.list); axles != c.want {
				t.Errorf("%v: %d, not %d", c.list, axles, c.want)
			}
		}
	}
}

// TestAxlesBehind255 lets the Seqs go round: 0 stands behind 255.
func TestAxlesBehind255(t *testing.T) {
	for first := range 256 {
		list := []impl.Telegram{word((first+254)%256, 3), word((first+255)%256, 1, 40), word(first, 2, 6), word((first+1)%256, 1, 1)}
		wantPassed := 0
		// A first Seq of 255 is passed over, and the next one comes to a count that is known.
		if first == 1 {
			wantPassed = 1
		}
		if axles, passed := checkAxles(t, list); axles != 35 || passed != wantPassed {
			t.Errorf("around %d: %d, %d", first, axles, passed)
		}
		list[2].Seq = (first + 2) % 256
		if axles, _ := checkAxles(t, list); axles != -1 {
			t.Errorf("a gap around %d: %d", first, axles)
		}
	}
}

func TestAxlesOfWrongLists(t *testing.T) {
	for name, wrong := range wrongWords() {
		for _, count := range []int{1, 2, 3, 200} {
			for _, place := range []int{0, count / 2, count - 1} {
				list := inRow(count, 1, 2)
				list[place] = wrong
				if axles, passed := impl.Axles(list); axles != -1 || passed != -1 {
					t.Errorf("%s at %d of %d: %d, %d", name, place, count, axles, passed)
				}
				checkAxles(t, list)
			}
		}
	}
	// Also one that would be passed over, or comes while nothing is known.
	for _, list := range [][]impl.Telegram{
		{word(0, 1, 5), word(0, 16, 5)},
		{word(0, 1, 5), word(0, 1, ramp(61)...)},
		{word(9, 1, 5), word(10, -1)},
		{word(9, 1, 5), word(256, 3)},
		append(inRow(200, 1, 1), word(-1, 0)),
	} {
		if axles, passed := checkAxles(t, list); axles != -1 || passed != -1 {
			t.Errorf("%v: %d, %d", list, axles, passed)
		}
	}
	for count := range 210 {
		if axles, _ := checkAxles(t, inRow(count, 1, 1)); axles != count && count <= 200 || axles != -1 && count > 200 {
			t.Errorf("%d telegrams: %d", count, axles)
		}
	}
}

// TestAxlesOfAllShortLists goes through all lists of a few chosen telegrams, a wrong one among them.
func TestAxlesOfAllShortLists(t *testing.T) {
	choices := []impl.Telegram{
		word(255, 1, 4), word(0, 1, 3), word(0, 2, 2), word(1, 1, 200), word(1, 2, 3), word(1, 3), word(2, 2, 1), word(2, 0, 9), word(0, 16),
	}
	met := map[int]int{}
	manyLists(5, choices, func(list []impl.Telegram) {
		axles, _ := checkAxles(t, list)
		met[axles]++
	})
	if met[-1] == 0 || met[0] == 0 || met[3] == 0 {
		t.Errorf("%v", met)
	}
}

// someCounts throws telegrams that mostly follow each other, some sent again, and some lost.
func someCounts(d *dice, count int) []impl.Telegram {
	var list []impl.Telegram
	seq := 255
	for range count {
		switch d.below(12) {
		case 0:
			seq = (seq + 2 + d.below(4)) % 256
		case 1, 2: // sent again
		default:
			seq = (seq + 1) % 256
		}
		kind := 1 + d.below(2)
		if d.below(6) == 0 {
			kind = d.below(16)
		}
		list = append(list, word(seq, kind, someBytes(d, d.below(3), 0)...))
		if kind == 2 && len(list[len(list)-1].Body) > 0 {
			list[len(list)-1].Body[0] /= 8
		}
	}
	return list
}

func TestManyAxles(t *testing.T) {
	d := &dice{state: 205}
	met := map[bool]int{}
	for range 4000 {
		axles, _ := checkAxles(t, someCounts(d, d.below(30)))
		met[axles >= 0]++
	}
	for range 200 {
		checkAxles(t, someCounts(d, 190+d.below(14)))
	}
	if met[true] < 500 || met[false] < 500 {
		t.Errorf("%v", met)
	}
}

// TestPromise22 puts telegrams into a stream with spoilt pieces around each of them, and lets some be sent again.
func TestPromise22(t *testing.T) {
	d := &dice{state: 206}
	for range 1500 {
		var stream []byte
		var sent []impl.Telegram
		spoilt := 0
		spoil := func() {
			for range d.below(3) {
				stream = append(stream, joinBytes([]byte{126}, spoiltPiece(d), slices.Repeat([]byte{126}, 1+d.below(2)))...)
				spoilt++
			}
		}
		spoil()
		for range d.below(8) {
			w := someWord(d)
			data := impl.Encode(w)
			if got, ok := impl.Decode(data); !ok || !sameWord(got, w) {
				t.Fatalf("%v: %v, %v", w, got, ok)
			}
			for range 1 + d.below(2) {
				stream, sent = append(stream, data...), append(sent, w)
			}
			spoil()
		}
		if len(stream) > impl.MaxStream {
			continue
		}
		got, bad := impl.Scan(stream)
		if !sameWords(got, sent) || bad != spoilt {
			t.Fatalf("%v: %v, %d, not %v, %d", stream, got, bad, sent, spoilt)
		}
	}
}

// TestFoundWhateverStandsAround lets any bytes at all stand around a telegram, other flags and telegrams among them.
func TestFoundWhateverStandsAround(t *testing.T) {
	d := &dice{state: 207}
	for range 3000 {
		w := someWord(d)
		data := impl.Encode(w)
		ahead, behind := someBytes(d, d.below(30), d.below(11)), someBytes(d, d.below(30), d.below(11))
		got, bad := impl.Scan(joinBytes(ahead, data, behind))
		others, badAhead := impl.Scan(ahead)
		tail, badBehind := impl.Scan(behind)
		if want := slices.Concat(others, []impl.Telegram{w}, tail); !sameWords(got, want) || bad != badAhead+badBehind {
			t.Fatalf("%v, %v, %v: %v, %d", ahead, data, behind, got, bad)
		}
	}
}

// TestSentTwiceCountsOnce sends telegrams again, as often as it likes: the count is the same.
func TestSentTwiceCountsOnce(t *testing.T) {
	d := &dice{state: 208}
	for range 3000 {
		once := someCounts(d, d.below(40))
		var often []impl.Telegram
		again := 0
		for _, w := range once {
			count := 1 + max(0, d.below(6)-2)
			for range count {
				often = append(often, w)
			}
			again += count - 1
		}
		axles, passed := impl.Axles(once)
		got, gotPassed := impl.Axles(often)
		if got != axles || gotPassed != passed+again {
			t.Fatalf("%v: %d, %d; sent again %d, %d", once, axles, passed, got, gotPassed)
		}
	}
}

// TestAxlesOverTheLine sends what is counted over a line with spoilt pieces: the count is that of what was sent.
func TestAxlesOverTheLine(t *testing.T) {
	d := &dice{state: 209}
	for range 500 {
		list := someCounts(d, d.below(60))
		var stream []byte
		for _, w := range list {
			stream = append(stream, impl.Encode(w)...)
			if d.below(4) == 0 {
				stream = append(stream, framed(spoiltPiece(d)...)...)
			}
		}
		got, _ := impl.Scan(stream)
		axles, passed := impl.Axles(list)
		if gotAxles, gotPassed := impl.Axles(got); len(stream) <= 3000 && (gotAxles != axles || gotPassed != passed) {
			t.Fatalf("%v: %d, %d, over the line %d, %d", list, axles, passed, gotAxles, gotPassed)
		}
	}
}

// spoilBytes writes into all of the memory that a list has.
func spoilBytes(list []byte) {
	whole := list[:cap(list)]
	for k := range whole {
		whole[k] = 77
	}
}

// TestEncodeSharesNoMemory gives Bodies with memory behind their ends.
func TestEncodeSharesNoMemory(t *testing.T) {
	for _, given := range [][]byte{{}, {5}, {125, 126}, ramp(60), ramp(61), slices.Repeat([]byte{126}, 60)} {
		memory := append(append(make([]byte, 0, 100), given...), 50, 60, 70)
		was := slices.Clone(memory[:cap(memory)])
		w := impl.Telegram{Seq: 126, Kind: 1, Body: memory[:len(given)]}
		want := encodeByWords(w)
		sent, again := impl.Encode(w), impl.Encode(w)
		impl.TelegramOk(w)
		impl.Axles([]impl.Telegram{w, w})
		spoilBytes(sent)
		_ = append(sent, 9, 9)
		checkBytes(t, "the memory of a Body", memory[:cap(memory)], was)
		checkBytes(t, "sent again", again, want)
		spoilBytes(memory)
		checkBytes(t, "sent again, the Body spoilt", again, want)
	}
}

func TestDecodeSharesNoMemory(t *testing.T) {
	for _, given := range []impl.Telegram{word(0, 0), word(1, 2, 3), word(126, 1, 125, 5, 126), word(9, 9, ramp(60)...), word(9, 16, 1)} {
		sent := framed(escapedByWords(loadByWords(given))...)
		memory := append(append(make([]byte, 0, 200), sent...), 50, 60, 70)
		was, data := slices.Clone(memory[:cap(memory)]), memory[:len(sent)]
		want, _ := decodeByWords(sent)
		got, _ := impl.Decode(data)
		again, _ := impl.Decode(data)
		impl.Crc8(data)
		spoilBytes(got.Body)
		_ = append(got.Body, 9, 9)
		checkBytes(t, "the data", memory[:cap(memory)], was)
		if !sameWord(again, want) {
			t.Errorf("%v: then %v", want, again)
		}
		spoilBytes(memory)
		if !sameWord(again, want) {
			t.Errorf("%v: with the data spoilt %v", want, again)
		}
	}
}

// TestScanSharesNoMemory spoils one Body of an answer after the other, and the stream at last.
func TestScanSharesNoMemory(t *testing.T) {
	words := []impl.Telegram{word(0, 1, 5, 6), word(1, 1), word(2, 1, 125, 126), word(3, 1, 5, 6), word(4, 1, ramp(60)...), word(4, 1, ramp(60)...)}
	var stream []byte
	for _, w := range words {
		stream = append(stream, encodeByWords(w)...)
	}
	memory := append(append(make([]byte, 0, 1000), stream...), 50, 60, 70)
	was, part := slices.Clone(memory[:cap(memory)]), memory[:len(stream)]
	other, _ := impl.Scan(part)
	for k := range words {
		got, spoilt := impl.Scan(part)
		if spoilt != 0 || !sameWords(got, words) {
			t.Fatalf("%v, %d", got, spoilt)
		}
		spoilBytes(got[k].Body)
		_ = append(got[k].Body, 9, 9, 9)
		for l := range got {
			if l != k && !sameWord(got[l], words[l]) {
				t.Errorf("%d is spoilt by %d", l, k)
			}
		}
		got[k] = impl.Telegram{Seq: -1}
		_ = append(got, impl.Telegram{})
		checkBytes(t, "the stream", memory[:cap(memory)], was)
	}
	spoilBytes(memory)
	if !sameWords(other, words) {
		t.Errorf("with the stream spoilt: %v", other)
	}
}

// TestAxlesLeaveTheirListAlone gives a list whose Bodies lie side by side in one memory.
func TestAxlesLeaveTheirListAlone(t *testing.T) {
	memory := []byte{9, 8, 7, 6, 5, 4, 3}
	list := append(make([]impl.Telegram, 0, 5), word(0, 1), word(0, 1), word(2, 3), word(3, 1))
	for k := range list {
		list[k].Body = memory[k : k+2]
	}
	was, lists := slices.Clone(memory), wordsCopy(list[:5])
	if axles, passed := impl.Axles(list[:3]); axles != 0 || passed != 1 {
		t.Errorf("%d, %d", axles, passed)
	}
	if axles, passed := impl.Axles(list); axles != 6 || passed != 1 {
		t.Errorf("%d, %d", axles, passed)
	}
	checkBytes(t, "the memory", memory, was)
	if !sameWords(list[:5], lists) {
		t.Errorf("%v was %v", list[:5], lists)
	}
}

// TestWordsAreTheSameHoweverOften lets many ask at once, with other questions between.
func TestWordsAreTheSameHoweverOften(t *testing.T) {
	d := &dice{state: 210}
	for range 20 {
		w, list := someWord(d), someCounts(d, 60)
		sent := impl.Encode(w)
		stream := joinBytes(spoiltPiece(d), sent, spoiltPiece(d), sent, []byte{125})
		want, wantSpoilt := impl.Scan(stream)
		crc := impl.Crc8(stream)
		axles, passed := impl.Axles(list)
		var group sync.WaitGroup
		for k := range 8 {
			group.Go(func() {
				for range 10 {
					impl.Scan(framed(byte(k), 126, byte(k)))
					impl.Axles([]impl.Telegram{word(k, 1, 5)})
					impl.Encode(word(k, k, byte(k)))
					checkBytes(t, "sent", impl.Encode(w), sent)
					if got, ok := impl.Decode(sent); !ok || !sameWord(got, w) {
						t.Errorf("%v, then %v", w, got)
					}
					if got, spoilt := impl.Scan(stream); !sameWords(got, want) || spoilt != wantSpoilt {
						t.Errorf("%v: %v, %d, then %v, %d", stream, want, wantSpoilt, got, spoilt)
					}
					if got, gotPassed := impl.Axles(list); got != axles || gotPassed != passed {
						t.Errorf("%v: %d, %d, then %d, %d", list, axles, passed, got, gotPassed)
					}
					if impl.Crc8(stream) != crc || !impl.TelegramOk(w) || impl.Accept(w.Seq, w.Seq) != 1 {
						t.Errorf("%v, %v: other answers", w, stream)
					}
				}
			})
		}
		group.Wait()
	}
}

func TestWordsNeverPanic(t *testing.T) {
	extremes := []int{math.MinInt, math.MinInt + 1, -256, -1, 0, 1, 2, 3, 15, 16, 125, 126, 255, 256, math.MaxInt - 1, math.MaxInt}
	d := &dice{state: 211}
	pick := func() int { return extremes[d.below(len(extremes))] }
	for range 10000 {
		w := word(pick(), pick(), someBytes(d, d.below(70), 5)...)
		data := someBytes(d, d.below(12), d.below(11))
		last, seq := pick(), pick()
		if panicsIn(func() {
			checkEncode(t, w)
			checkDecode(t, data)
			checkDecode(t, framed(data...))
			checkScan(t, data)
			checkCrc(t, data)
			checkAxles(t, []impl.Telegram{w, word(pick(), 1, data...), w})
			if got, want := impl.Accept(last, seq), acceptByWords(last, seq); got != want {
				t.Errorf("Accept(%d, %d): %d, not %d", last, seq, got, want)
			}
		}) {
			t.Fatalf("%v, %v, %d, %d", w, data, last, seq)
		}
	}
	if panicsIn(func() {
		impl.TelegramOk(impl.Telegram{})
		impl.Crc8(nil)
		impl.Encode(impl.Telegram{})
		impl.Decode(nil)
		impl.Scan(nil)
		impl.Axles(nil)
		impl.Axles(make([]impl.Telegram, 3))
	}) {
		t.Error("nothing at all")
	}
}
