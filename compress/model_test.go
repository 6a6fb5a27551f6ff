package compress

import (
	"math/rand"
	"testing"
)

// modelPack packs a page in another way than the program: it marks the bytes that are in the middle of three equal ones
// or beside it, and cuts between two bytes of which only one is marked, or which are marked and differ.
func modelPack(page string) (string, bool) {
	if len(page) != 64 {
		return "", false
	}
	var inRun [64]bool
	for i := 1; i < 63; i++ {
		if page[i-1] == page[i] && page[i] == page[i+1] {
			inRun[i-1], inRun[i], inRun[i+1] = true, true, true
		}
	}
	packed, from := "", 0
	for i := 1; i <= 64; i++ {
		if i < 64 && inRun[i-1] == inRun[i] && (!inRun[i] || page[i-1] == page[i]) {
			continue
		}
		if inRun[from] {
			packed += string([]byte{byte(128 + i - from), page[from]})
		} else {
			packed += string([]byte{byte(i - from)}) + page[from:i]
		}
		from = i
	}
	if len(packed) > 47 {
		return "", false
	}
	return packed, true
}

// modelUnpack unpacks a string in another way than the program: it never packs, but refuses what no packed form has.
func modelUnpack(s string) (string, bool) {
	if len(s) > 47 {
		return "", false
	}
	page, ran := "", true // whether the last piece was a run
	for s != "" {
		n, piece, size := int(s[0]), "", 2
		run := n >= 131
		if run {
			n -= 128
		} else {
			size = 1 + n
		}
		if n == 0 || n > 64 || len(s) < size || !run && !ran {
			return "", false
		}
		piece = s[1:size]
		if run {
			piece = times(piece, n)
		}
		if !run && hasRun(piece) || page != "" && page[len(page)-1] == piece[0] && (run || ran) {
			return "", false
		}
		page, ran, s = page+piece, run, s[size:]
	}
	if len(page) != 64 {
		return "", false
	}
	return page, true
}

// hasRun reports whether three neighbors in s are equal.
func hasRun(s string) bool {
	for i := 2; i < len(s); i++ {
		if s[i-2] == s[i] && s[i-1] == s[i] {
			return true
		}
	}
	return false
}

// same compares what a function and its model return for s, undoes it, and reports whether there is a result.
func same(t *testing.T, s string, do, model, undo func(string) (string, bool)) bool {
	t.Helper()
	got, ok := do(s)
	if want, wantOk := model(s); got != want || ok != wantOk {
		t.Fatalf("%q: %q, %v, not %q, %v", s, got, ok, want, wantOk)
	}
	if back, backOk := undo(got); backOk != ok || ok && back != s {
		t.Fatalf("%q: %q, %v; undone: %q, %v", s, got, ok, back, backOk)
	}
	return ok
}

// samePack is same for Pack.
func samePack(t *testing.T, page string) bool {
	t.Helper()
	return same(t, page, Pack, modelPack, Unpack)
}

// sameUnpack is same for Unpack.
func sameUnpack(t *testing.T, s string) bool {
	t.Helper()
	return same(t, s, Unpack, modelUnpack, Pack)
}

// randomPage returns a page of runs whose greatest length is most, with few different bytes.
func randomPage(r *rand.Rand, most int) string {
	page := ""
	for len(page) < 64 {
		page += times(string([]byte{byte(r.Intn(3)) + '\x7f'}), 1+r.Intn(most))
	}
	return page[:64]
}

// changed returns s with one byte replaced, removed or added.
func changed(r *rand.Rand, s string) string {
	at := r.Intn(len(s))
	other := string([]byte{byte(r.Intn(256))})
	switch r.Intn(6) {
	case 0:
		return s[:at] + s[at+1:]
	case 1:
		return s[:at] + other + s[at:]
	case 2:
		return s[:at] + other + s[at+1:]
	case 3:
		return s[:at] + string([]byte{s[at] + 1}) + s[at+1:]
	case 4:
		return s[:at] + string([]byte{s[at] - 1}) + s[at+1:]
	}
	return s[:at] + string([]byte{s[r.Intn(len(s))]}) + s[at+1:]
}

// P8.1, P8.2, P8.4, P8.5: random pages are packed as the model packs them, and come back.
func TestRandomPages(t *testing.T) {
	packed := 0
	for seed := range 200 {
		r := rand.New(rand.NewSource(int64(seed)))
		for range 200 {
			if samePack(t, randomPage(r, 1+seed%20)) {
				packed++
			}
		}
	}
	if packed < 10000 || packed > 38000 {
		t.Fatalf("%d of the pages can be packed", packed)
	}
}

// P8.2, P8.4: packed forms with some bytes changed are unpacked only if they are the packed form of another page.
func TestChangedForms(t *testing.T) {
	unpacked := 0
	for seed := range 200 {
		r := rand.New(rand.NewSource(int64(seed)))
		for range 200 {
			s, ok := Pack(randomPage(r, 4+seed%20))
			if !ok {
				continue
			}
			for range 1 + r.Intn(3) {
				s = changed(r, s)
			}
			if sameUnpack(t, s) {
				unpacked++
			}
		}
	}
	if unpacked < 1000 {
		t.Fatalf("%d changed forms are unpacked", unpacked)
	}
}

// P8.2, P8.4: strings of pieces whose bytes are 64 together are unpacked only if they are the packed form of a page.
func TestForms(t *testing.T) {
	unpacked := 0
	for seed := range 50000 {
		r := rand.New(rand.NewSource(int64(seed)))
		s, left := "", 64
		for left > 0 {
			n := min(1+r.Intn(1+r.Intn(30)), left)
			if left -= n; r.Intn(2) == 0 {
				s += string([]byte{byte(128 + n), 'a' + byte(r.Intn(4))})
				continue
			}
			s += string([]byte{byte(n)})
			for range n {
				s += string([]byte{'a' + byte(r.Intn(4))})
			}
		}
		if sameUnpack(t, s) {
			unpacked++
		}
	}
	if unpacked < 100 {
		t.Fatalf("%d forms are unpacked", unpacked)
	}
}

// FuzzPack packs and unpacks a string.
func FuzzPack(f *testing.F) {
	for _, page := range []string{times("\x00", 64), "ab" + times("c", 62), times("aabb", 16), times("aaax", 11) + times("b", 20)} {
		packed, _ := Pack(page)
		f.Add([]byte(page))
		f.Add([]byte(packed))
	}
	f.Fuzz(func(t *testing.T, s []byte) {
		samePack(t, string(s))
		sameUnpack(t, string(s))
		samePack(t, (string(s) + times("\x00", 64))[:64])
	})
}
