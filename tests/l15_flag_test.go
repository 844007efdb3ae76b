package tests

import (
	"fmt"
	"slices"
	"testing"

	"loop.example/g00821/impl"
)

// wantOwned tells it by the other telling of the defects, of an image that has a
// head: a DfOwn leads where it must, so that it is the flag alone that is wrong.
func wantOwned(b []int64) []int64 {
	want := filledUp(b)
	for _, d := range wantDefects(b) {
		if d.Kind == 7 {
			want[8*d.A+d.B] = spoiltWord(want[8*d.A+d.B])
		}
	}
	return want
}

// checkOwned holds the answer against the one that is wanted, and is promise 15.
func checkOwned(t *testing.T, what string, b, want []int64) {
	t.Helper()
	got := impl.Owned(b)
	if !same(got, want) {
		t.Errorf("%s: what is flagged anew is\n%v, want\n%v", what, got, want)
	}
	checkFlagsAlone(t, what, b, got)
}

// checkFlagsAlone is promise 15: no DfOwn is left, all other defects but that of
// the length are, and that just those words are other ones that were told; and
// that all claims stay, and that who is flagged again does.
func checkFlagsAlone(t *testing.T, what string, b, owned []int64) {
	t.Helper()
	var want []impl.Defect
	wrong := make(map[int]bool)
	for _, d := range impl.DefectsIn(b) {
		switch d.Kind {
		case 2:
		case 7:
			wrong[int(8*d.A+d.B)] = true
		default:
			want = append(want, d)
		}
	}
	if got := impl.DefectsIn(owned); !slices.Equal(got, want) {
		t.Fatalf("%s: the defects of what is flagged anew are\n%v, want\n%v", what, got, want)
	}
	was := filledUp(b)
	if len(owned) != len(was) {
		t.Fatalf("%s: %d words are flagged anew, want %d", what, len(owned), len(was))
	}
	for at, w := range owned {
		if wrong[at] != (w != was[at]) || w&32767 != was[at]&32767 {
			t.Fatalf("%s: the word %d is %d, and was %d; is it a DfOwn: %v", what, at, w, was[at], wrong[at])
		}
	}
	if got, want := impl.ClaimsIn(owned), impl.ClaimsIn(b); !slices.Equal(got, want) {
		t.Fatalf("%s: the claims\n%v, and were\n%v", what, got, want)
	}
	if again := impl.Owned(owned); !same(again, owned) {
		t.Fatalf("%s: flagged again it is\n%v, and was\n%v", what, again, owned)
	}
}

// checkOneFlag is of an image of which just that word is a DfOwn, and which must
// be that word.
func checkOneFlag(t *testing.T, what string, b []int64, table, slot, must int64) {
	t.Helper()
	own := slices.DeleteFunc(impl.DefectsIn(b), func(d impl.Defect) bool { return d.Kind != 7 })
	if !slices.Equal(own, []impl.Defect{defect(7, table, slot)}) {
		t.Errorf("%s: the wrong flags %v, want that of %d, %d", what, own, table, slot)
	}
	checkOwned(t, what, b, withWord(filledUp(b), int(8*table+slot), must))
}

func TestOwnedOfWhatIsRight(t *testing.T) {
	// What is not Sound has right flags, too, when they were put right.
	images := append(soundImages(), wantOwned(allKinds()), wantOwned(fullDisk(64)), wantOwned(strewn(40, nil, 10, 10, 32788)))
	for i, b := range images {
		if slices.ContainsFunc(impl.DefectsIn(b), func(d impl.Defect) bool { return d.Kind == 7 }) {
			t.Fatalf("the image %d: the defects %v", i, impl.DefectsIn(b))
		}
		checkOwned(t, fmt.Sprint("the image ", i), b, b)
	}
}

// TestOneWrongFlagInEachKindOfTable: of words that are own and must not be, of
// those that must be and are not, and of those that lead nowhere.
func TestOneWrongFlagInEachKindOfTable(t *testing.T) {
	for _, c := range []struct {
		what         string
		table, slot  int64
		wrong, right int64
	}{
		{"Refs", 10, 0, 32776, 8},
		{"Refs, the last block", 10, 1, 32769, 1},
		{"Refs, no target", 10, 7, 32768, 0},
		{"First, alone", 9, 0, 5, 32773},
		{"First, shared", 9, 2, 32772, 4},
		{"First, no target", 9, 1, 32768, 0},
		{"First, past the disk's end", 9, 7, 32768, 0},
		{"of the first Shot, shared with another one", 3, 0, 32774, 6},
		{"of the first Shot, shared with the disk", 3, 2, 32772, 4},
		{"of the first Shot, no target", 3, 1, 32768, 0},
		{"of the last Shot, shared", 2, 0, 32774, 6},
		{"of the last Shot, alone", 2, 1, 7, 32775},
		{"of the last Shot, no target", 2, 7, 32768, 0},
		{"a second table of the disk, alone", 5, 1, 12, 32780},
		{"a second table of the disk, no target", 5, 0, 32768, 0},
		{"a second table of the disk and a Shot", 4, 0, 32781, 13},
		{"a second table of both Shots", 6, 1, 32782, 14},
		{"a second table of both Shots, no target", 6, 7, 32768, 0},
		{"a second table of a Shot", 7, 7, 32782, 14},
	} {
		at := int(8*c.table + c.slot)
		if w := inOrder()[at]; w != c.right {
			t.Fatalf("%s: it is %d in what is right, want %d", c.what, w, c.right)
		}
		checkOneFlag(t, c.what, withWord(inOrder(), at, c.wrong), c.table, c.slot, c.right)
	}
}

// TestEachFlagIsPutRight is of each slot of each table, and of all of them.
func TestEachFlagIsPutRight(t *testing.T) {
	all := inOrder()
	for _, table := range tablesInOrder() {
		for slot := range int64(8) {
			at := int(8*table + slot)
			right := all[at]
			checkOneFlag(t, fmt.Sprintf("the table %d, the slot %d", table, slot), withWord(inOrder(), at, spoiltWord(right)), table, slot, right)
			all[at] = spoiltWord(right)
		}
	}
	checkOwned(t, "all of them", all, inOrder())
	for i, sound := range soundImages() {
		all := slices.Clone(sound)
		for _, c := range wantClaims(sound) {
			if c.Kind == 4 || c.Kind >= 7 {
				all[8*c.From+c.Slot] = spoiltWord(sound[8*c.From+c.Slot])
			}
		}
		checkOwned(t, fmt.Sprint("all claims of the sound image ", i), all, sound)
	}
}

// TestTheFlagAloneIsTakenAway: a word of no target is 0, be its place on the
// disk or not.
func TestTheFlagAloneIsTakenAway(t *testing.T) {
	for size := int64(1); size <= 64; size++ {
		sound := laid(impl.Head{Size: size, First: 1, Refs: 2}, []int64{32772}, []int64{3}, []int64{1, 1, 1, 1, 1}, nil)
		b := slices.Clone(sound)
		for _, table := range []int64{1, 2, 4} {
			for at := 8 * table; at < 8*table+8; at++ {
				if b[at] == 0 {
					b[at] = 32768
					what := fmt.Sprintf("the size %d, at %d", size, at)
					checkOneFlag(t, what, withWord(sound, int(at), 32768), table, at%8, 0)
				}
			}
		}
		checkOwned(t, fmt.Sprint("the size ", size, ", all of them"), b, sound)
	}
}

// TestRefsOwnsNobody: though each of its blocks has a count of 1.
func TestRefsOwnsNobody(t *testing.T) {
	all := fullyStored()
	for slot := range int64(8) {
		checkOneFlag(t, fmt.Sprint("the block of the slot ", slot), withWord(fullyStored(), int(16+slot), 32771+slot), 2, slot, 3+slot)
		all[16+slot] += 32768
	}
	checkOwned(t, "all blocks", all, fullyStored())
	// Wherever it is, and whatever is missing of it.
	for refs := int64(2); refs <= 40; refs++ {
		b := laid(impl.Head{Size: 8, First: 1, Refs: refs}, make([][]int64, 42)...)
		copy(b[8*refs:], []int64{32768, 32809, 32810, 32768})
		want := slices.Clone(b)
		copy(want[8*refs:], []int64{0, 41, 42, 0})
		checkOwned(t, fmt.Sprint("Refs is ", refs), b, want)
	}
	// Where First is Refs, too, Refs is loose, and the table is a first one.
	b := laid(impl.Head{Size: 8, First: 1, Refs: 1}, []int64{32770, 32768}, nil)
	checkOneFlag(t, "First is Refs", b, 1, 1, 0)
	checkOneFlag(t, "First is Refs, not own", withWord(laid(impl.Head{Size: 8, First: 1, Refs: 1}, nil, nil), 8, 2), 1, 0, 32770)
}

// TestOwnWhereTheCountIsOne: with the flag and without it, of each word by
// itself and of all of them.
func TestOwnWhereTheCountIsOne(t *testing.T) {
	sound := withCounts(laid(impl.Head{Size: 20, First: 1, Refs: 2, Shots: 4, Many: 1},
		[]int64{6, 32775, 32776}, []int64{3, 12}, nil, []int64{91, 5}, []int64{6},
		[]int64{9}, []int64{32778, 11}, []int64{11}, nil, nil, nil, nil))
	checkOwned(t, "they are right", sound, sound)
	all := slices.Clone(sound)
	for _, c := range []struct {
		table, slot, count, right, wrong int64
	}{
		{1, 0, 2, 6, 32774},  // two first tables lead there
		{1, 1, 1, 32775, 7},  //
		{1, 2, 1, 32776, 8},  //
		{5, 0, 2, 6, 32774},  // the other one of the two
		{6, 0, 2, 9, 32777},  // by one word of a table that is shared
		{7, 0, 1, 32778, 10}, // by one word
		{7, 1, 2, 11, 32779}, // by words of two tables
		{8, 0, 2, 11, 32779}, //
	} {
		what := fmt.Sprint(c)
		at := 8*c.table + c.slot
		if count := impl.CountsIn(sound)[c.right&32767]; sound[at] != c.right || count != c.count {
			t.Fatalf("%s: the word is %d, its count %d", what, sound[at], count)
		}
		checkOneFlag(t, what, withWord(sound, int(at), c.wrong), c.table, c.slot, c.right)
		all[at] = c.wrong
	}
	checkOwned(t, "all of them", all, sound)
	// Two words of one table lead there: neither is own.
	two := withWord(withWord(someDisk(), 34, 5), 35, 5)
	for _, words := range [][2]int64{{5, 5}, {5, 32773}, {32773, 5}, {32773, 32773}} {
		checkOwned(t, fmt.Sprint("two words ", words), withWords(two, [2]int64{34, words[0]}, [2]int64{35, words[1]}), two)
	}
	// One of them is loose: the other one is own then.
	b := withWords(someDisk(), [2]int64{2, 3}, [2]int64{34, 5}, [2]int64{35, 5})
	checkOneFlag(t, "two words, one past the disk's end", b, 4, 2, 32773)
	checkOneFlag(t, "two words, that past the disk's end own", withWord(b, 35, 32773), 4, 2, 32773)
}

// TestCountsUpToFive: First and up to four Shots lead to one second table, and
// to one cluster of each by one word of it, or by eight.
func TestCountsUpToFive(t *testing.T) {
	for many := range int64(5) {
		for _, own := range []int64{0, 32768} {
			b := laid(impl.Head{Size: 64, First: 1, Refs: 2, Shots: 3, Many: many},
				[]int64{8 + own}, []int64{own}, []int64{91, 4, 92, 5, 93, 6, 94, 7}, []int64{8 + own}, []int64{8 + own}, []int64{8 + own}, []int64{8 + own},
				[]int64{9 + own, 10 + own, 10 + own, own}, nil, nil)
			want := slices.Clone(b)
			want[16] = 0
			copy(want[64:], []int64{9, 10, 10, 0})
			// The first tables of Shots that are none are nobody's.
			for shot := range many {
				want[8*(4+shot)] = 8
			}
			want[8] = 8
			if many == 0 {
				want[8], want[64] = 32776, 32777
			}
			checkOwned(t, fmt.Sprintf("%d Shots, %d", many, own), b, want)
		}
	}
}

// TestItIsTheCountThatTells: and not what is stored of it.
func TestItIsTheCountThatTells(t *testing.T) {
	for _, stored := range []int64{0, 1, 2, 7, 32769, 65535} {
		b := withWord(someDisk(), 29, stored)
		checkOwned(t, fmt.Sprint(stored, " is stored of one"), b, b)
		checkOneFlag(t, fmt.Sprint(stored, " is stored of one that is not own"), withWord(b, 34, 5), 4, 2, 32773)
		b = withWords(inOrder(), [2]int64{12, stored}, [2]int64{14, stored})
		checkOwned(t, fmt.Sprint(stored, " is stored of several"), b, b)
		checkOneFlag(t, fmt.Sprint(stored, " is stored of several that are own"), withWord(b, 49, 32782), 6, 1, 14)
	}
	// There is no block, or no Refs, at all.
	b := withWords(someDisk(), [2]int64{16, 0}, [2]int64{34, 5})
	checkOneFlag(t, "no block", b, 4, 2, 32773)
	checkOneFlag(t, "no Refs", withWord(b, 4, 0), 4, 2, 32773)
}

// wrongFlags is a disk with wrong flags in each of its three tables, and
// rightFlags the same disk with right ones; both with these other words besides.
func wrongFlags(changes ...[2]int64) []int64 {
	return withWords(withWords(someDisk(), [2]int64{15, 32768}, [2]int64{16, 32771}, [2]int64{34, 5}, [2]int64{39, 32768}), changes...)
}

func rightFlags(changes ...[2]int64) []int64 {
	return withWords(someDisk(), changes...)
}

// TestWordsOfLooseClaimsStay: with the flag and without it, though beside them
// words are put right.
func TestWordsOfLooseClaimsStay(t *testing.T) {
	for _, own := range []int64{0, 32768} {
		// First; Refs; a block; not there.
		for _, target := range []int64{1, 2, 3, 6, 63, 64, 32767} {
			for _, at := range []int64{17, 9, 32, 35} {
				change := [2]int64{at, target + own}
				what := fmt.Sprintf("%d at %d", target+own, at)
				if loose := impl.LooseIn(rightFlags(change)); len(loose) != 1 {
					t.Fatalf("%s: the loose claims %v, want one", what, loose)
				}
				checkOwned(t, what, rightFlags(change), rightFlags(change))
				checkOwned(t, what+", and wrong flags", wrongFlags(change), rightFlags(change))
			}
			b := withWord(inOrder(), 8*2+2, target+own)
			checkOwned(t, fmt.Sprintf("%d in a Shot's table", target+own), b, b)
		}
		for _, change := range [][2]int64{{9, 4 + own}, {11, 5 + own}, {14, 3 + own}, {33, 4 + own}} {
			what := fmt.Sprint(change)
			checkOwned(t, what, rightFlags(change), rightFlags(change))
			checkOwned(t, what+", and wrong flags", wrongFlags(change), rightFlags(change))
		}
		// The very entry that would be own, where it is past the disk's end.
		b := withWords(someDisk(), [2]int64{2, 2}, [2]int64{34, 5 + own})
		checkOwned(t, "a cluster past the disk's end", b, b)
		// Two claims of one word, of a table that is shared.
		b = withWord(inOrder(), 8*4+1, 15+own)
		checkOwned(t, "a cluster that is not there, of a shared table", b, b)
		checkOneFlag(t, "and a wrong flag beside it", withWord(b, 8*4, 32781), 4, 0, 13)
	}
}

// TestWordsOfTheHeadAndOfShotsStay: they are no entries, Good or loose.
func TestWordsOfTheHeadAndOfShotsStay(t *testing.T) {
	for at := 3; at <= 5; at++ {
		for _, w := range []int64{0, 1, 2, 3, 32768, 32769, 32770, 65535} {
			b := withWords(someDisk(), [2]int64{6, 1}, [2]int64{int64(at), w})
			checkOwned(t, fmt.Sprintf("%d at %d", w, at), b, wantOwned(b))
			if got := impl.Owned(b); !same(got[:8], b[:8]) {
				t.Errorf("%d at %d: the head is %v, and was %v", w, at, got[:8], b[:8])
			}
		}
	}
	for at := 8 * 11; at < 8*12; at++ {
		for _, w := range []int64{0, 2, 3, 15, 32768, 32770, 32771, 65535} {
			b := withWord(inOrder(), at, w)
			checkOwned(t, fmt.Sprintf("%d at %d", w, at), b, wantOwned(b))
			if got := impl.Owned(b); !same(got[88:96], b[88:96]) {
				t.Errorf("%d at %d: the Shots are %v, and were %v", w, at, got[88:96], b[88:96])
			}
		}
	}
}

// TestTablesThatAreLedToTwice: by a slot of First and the same slot of a Shot's
// first table, each is gone into but once.
func TestTablesThatAreLedToTwice(t *testing.T) {
	sound := inOrder()
	for _, table := range []int64{4, 6} {
		b := slices.Clone(sound)
		for slot := range int64(8) {
			b[8*table+slot] = spoiltWord(sound[8*table+slot])
		}
		checkOwned(t, fmt.Sprint("the table ", table), b, sound)
	}
	// What a shared one leads to is nobody's own, though just one word does.
	b := twoFirsts([]int64{5, 0, 32775}, []int64{32773, 32774})
	b = withWords(b, [2]int64{40, 32776}, [2]int64{41, 32768}, [2]int64{49, 0}, [2]int64{58, 0})
	want := withWords(b, [2]int64{33, 32774}, [2]int64{32, 5}, [2]int64{40, 8}, [2]int64{41, 0})
	checkOwned(t, "with a Shot", b, want)
	// Without the Shot it is the disk's alone.
	want = withWords(b, [2]int64{5, 0}, [2]int64{6, 0}, [2]int64{8, 32773}, [2]int64{40, 32776}, [2]int64{41, 0})
	checkOwned(t, "without a Shot", withWords(b, [2]int64{5, 0}, [2]int64{6, 0}), want)
	// A loose claim is the other one that leads there: the table is gone into by
	// the Good one, and the word of the loose one stays.
	for _, own := range []int64{0, 32768} {
		change := [2]int64{9, 4 + own}
		checkOwned(t, fmt.Sprint("another slot, ", own), wrongFlags(change, [2]int64{8, 4}), rightFlags(change))
	}
}

// wildWords are no entries of anybody's, if nobody leads to them.
func wildWords() []int64 {
	return []int64{32768, 32769, 5, 65535, 32773, 32768, 1, 64}
}

// TestTablesThatNoGoodClaimLeadsTo: their words stay as they are.
func TestTablesThatNoGoodClaimLeadsTo(t *testing.T) {
	wild := wildWords()
	stays := func(what string, h impl.Head, clusters ...[]int64) {
		t.Helper()
		b := laid(h, clusters...)
		checkOwned(t, what, b, b)
	}
	block := []int64{1, 1, 1, 1}
	disk := impl.Head{Size: 8, First: 1, Refs: 2}
	stays("nobody's", disk, nil, []int64{3}, block, wild, wild)
	stays("past the disk's end", disk, []int64{0, 4}, []int64{3}, block, wild)
	stays("past the disk's end, own", disk, []int64{0, 32772}, []int64{3}, block, wild)
	stays("the block", disk, nil, []int64{3}, wild)
	stays("a second table that is the block", disk, []int64{3}, []int64{3}, wild)
	stays("a second table that is the block, own", disk, []int64{32771}, []int64{3}, wild)
	stays("contents", disk, []int64{32772}, []int64{3}, block, []int64{32773}, wild)
	stays("Shots without Many", impl.Head{Size: 8, First: 1, Refs: 2, Shots: 4}, nil, []int64{3}, block, wild)
	stays("the first table of a Shot that is the block", impl.Head{Size: 8, First: 1, Refs: 2, Shots: 4, Many: 1}, nil, []int64{3}, wild, []int64{91, 3})
	stays("that of a Shot that is none", impl.Head{Size: 8, First: 1, Refs: 2, Shots: 4, Many: 1}, nil, []int64{3}, block, []int64{91, 6, 92, 5}, wild, nil)
	stays("Shots that are the block", impl.Head{Size: 8, First: 1, Refs: 2, Shots: 3, Many: 4}, nil, []int64{3}, wild)
	stays("First that is not there", impl.Head{Size: 8, First: 32769, Refs: 2}, wild, []int64{3}, block)
	stays("Refs that is not there", impl.Head{Size: 8, First: 1, Refs: 32770}, nil, wild, block)
	stays("First and Refs that are 0", impl.Head{Size: 8}, wild, wild, wild)
	// A table of the disk is gone into beside it.
	b := laid(disk, []int64{4, 32773}, []int64{32771}, block, []int64{32768, 6, 32774, 6}, wild, nil)
	want := withWords(b, [2]int64{8, 32772}, [2]int64{16, 3}, [2]int64{32, 0}, [2]int64{34, 6})
	checkOwned(t, "the one behind it is past the disk's end", b, want)
	// First is lost: what its table was, and that behind it, is nobody's.
	b = wrongFlags([2]int64{3, 0})
	checkOwned(t, "First is 0", b, withWord(b, 16, 3))
	// Refs is lost, and so it was ahead of it.
	b = wrongFlags([2]int64{4, 0})
	checkOwned(t, "Refs is 0", b, withWord(rightFlags([2]int64{4, 0}), 16, 32771))
}

// TestOtherDefectsStay: each alone, and all of them, beside wrong flags.
func TestOtherDefectsStay(t *testing.T) {
	changes := map[string][][2]int64{
		"a count that is too low":  {{24, 0}},
		"a count that is too high": {{25, 9}, {31, 65535}},
		"a loose block":            {{17, 40}},
		"a loose second table":     {{9, 32808}},
		"a loose cluster":          {{35, 32808}},
		"Shots without Many":       {{5, 3}},
		"Shots that are lost":      {{6, 4}},
		"Refs that is lost":        {{4, 40}},
	}
	var all [][2]int64
	for what, c := range changes {
		b, want := wrongFlags(c...), rightFlags(c...)
		if what == "Refs that is lost" {
			want[16] = 32771
		} else {
			all = append(all, c...)
		}
		if before := impl.DefectsIn(want); len(before) == 0 || slices.ContainsFunc(before, func(d impl.Defect) bool { return d.Kind == 7 }) {
			t.Fatalf("%s: the defects %v", what, before)
		}
		checkOwned(t, what, b, want)
		checkOwned(t, what+", a word behind", append(b, 7), append(want, 7, 0, 0, 0, 0, 0, 0, 0))
	}
	checkOwned(t, "all of them", append(wrongFlags(all...), 32768), append(rightFlags(all...), 32768, 0, 0, 0, 0, 0, 0, 0))
}

// TestFlagsOfALastClusterThatLacksWords is of each kind of table that is the
// last cluster; behind it, in the spare room, there are words that are none of
// the image.
func TestFlagsOfALastClusterThatLacksWords(t *testing.T) {
	flags := func(first int64) []int64 { return append([]int64{first}, slices.Repeat([]int64{32768}, 7)...) }
	for _, c := range []struct {
		what  string
		b     []int64
		right int64
	}{
		{"Refs", laid(impl.Head{Size: 64, First: 1, Refs: 3}, nil, []int64{1, 1, 1, 1}, flags(32770)), 2},
		{"First", laid(impl.Head{Size: 64, First: 4, Refs: 1}, []int64{2}, []int64{1, 1, 1, 1, 1}, nil, flags(3)), 32771},
		{"the first table of a Shot", laid(impl.Head{Size: 64, First: 1, Refs: 2, Shots: 3, Many: 1}, nil, []int64{4}, []int64{91, 6}, []int64{1, 1, 1, 1, 1, 1, 1}, nil, flags(5)), 32773},
		{"a second table", laid(impl.Head{Size: 64, First: 1, Refs: 2}, []int64{32773}, []int64{3}, []int64{1, 1, 1, 1, 1, 1}, nil, flags(4)), 32772},
		{"a second table, no target", laid(impl.Head{Size: 64, First: 1, Refs: 2}, []int64{32772}, []int64{3}, []int64{1, 1, 1, 1, 1}, flags(32768)), 0},
		{"a second table, loose", laid(impl.Head{Size: 64, First: 1, Refs: 2}, []int64{32772}, []int64{3}, []int64{1, 1, 1, 1, 1}, flags(32773)), 32773},
	} {
		for n := 1; n <= 8; n++ {
			whole := len(c.b) - 8
			want := append(slices.Clone(c.b[:whole]), c.right, 0, 0, 0, 0, 0, 0, 0)
			checkOwned(t, fmt.Sprintf("%s, %d words of eight", c.what, n), c.b[:whole+n], want)
		}
	}
	// One that is no table is filled up, too, and no word of it is put right.
	for n := 1; n <= 8; n++ {
		b := append(wrongFlags(), wildWords()...)[:48+n]
		checkOwned(t, fmt.Sprintf("nobody's, %d words of eight", n), b, append(someDisk(), wantCluster(wildWords()[:n], 0)...))
	}
}

// TestOwnedOfEveryLength: all clusters are whole, and there is always room for
// that.
func TestOwnedOfEveryLength(t *testing.T) {
	images := [][]int64{strewn(64, []int64{32772, 32768}, 10, 10, 32831, 63, 20), append(wrongFlags(), slices.Repeat([]int64{32768}, 464)...)}
	for i, long := range images {
		for n := 3; n <= 512; n++ {
			b := long[:n]
			what := fmt.Sprintf("the image %d, %d words", i, n)
			checkOwned(t, what, b, wantOwned(b))
			if got := impl.Owned(b); len(got) != (n+7)/8*8 {
				t.Errorf("%s: %d words are flagged anew", what, len(got))
			}
		}
	}
	// A head alone, that may lack words itself.
	for n := 3; n <= 8; n++ {
		checkOwned(t, fmt.Sprint("a head of ", n, " words"), laid(impl.Head{Size: 64})[:n], laid(impl.Head{Size: 64}))
	}
}

// TestWhoHasWrongFlagsAloneIsSoundThen: its names and contents stay, and what was
// Mild is Sound when it is counted, too.
func TestWhoHasWrongFlagsAloneIsSoundThen(t *testing.T) {
	for i, sound := range soundImages() {
		b := allOwn(sound)
		owned := impl.Owned(b)
		if !impl.Sound(owned) {
			t.Errorf("the image %d: the defects of what is flagged anew are %v", i, impl.DefectsIn(owned))
		}
		checkNames(t, fmt.Sprint("the image ", i), owned, impl.NamesIn(b)...)
		for which := range int64(3) {
			for g := range b[2] {
				if got, want := impl.ContentOf(owned, which, g), impl.ContentOf(b, which, g); !same(got, want) {
					t.Errorf("the image %d: the cluster %d of %d is %v, and was %v", i, g, which, got, want)
				}
			}
		}
		for _, c := range wantClaims(sound) {
			if c.Kind == 4 {
				b[8*c.Target] += 7
			}
		}
		if again := impl.Owned(impl.Counted(b)); !impl.Mild(b) || !same(again, sound) {
			t.Errorf("the image %d: Mild %v, counted and flagged anew it is\n%v, want\n%v", i, impl.Mild(b), again, sound)
		}
	}
}

func TestOwnedWithoutAHead(t *testing.T) {
	lists := append(nearlyAllKinds(), nil, []int64{}, make([]int64, 7), make([]int64, 512), make([]int64, 513))
	for _, w := range [][2]int64{{0, 0}, {0, 20558}, {1, 4}, {2, 0}, {2, 65}, {6, 5}, {7, 1}, {3, -1}, {3, 65536}, {4, -1}, {34, -1}, {34, 65536}, {47, 65536}} {
		lists = append(lists, wrongFlags(w))
	}
	lists = append(lists, append(wrongFlags(), make([]int64, 465)...), append(wrongFlags(), -1))
	for i, b := range lists {
		wantNoHead(t, "headless", b)
		if got := impl.Owned(b); len(got) != 0 {
			t.Errorf("the list %d: what is flagged anew is %v, want nothing", i, got)
		}
	}
}

// TestOwnedOfOneWord is of Sound images in which one word is another one.
func TestOwnedOfOneWord(t *testing.T) {
	for i, sound := range soundImages()[:6] {
		for at := 2; at < len(sound); at++ {
			for _, w := range []int64{0, 2, 5, 9, 32768, 32772, spoiltWord(sound[at])} {
				b := withWord(sound, at, w)
				if _, is := impl.HeadIn(b); is {
					checkOwned(t, fmt.Sprintf("the image %d, %d at %d", i, w, at), b, wantOwned(b))
				} else if got := impl.Owned(b); len(got) != 0 {
					t.Errorf("the image %d, %d at %d: what is flagged anew is %v", i, w, at, got)
				}
			}
		}
	}
}

// allOwn has the flag at each word that leads anywhere, in each table that is
// gone into.
func allOwn(b []int64) []int64 {
	flagged := slices.Clone(b)
	for _, c := range wantClaims(b) {
		if c.Kind == 4 || c.Kind >= 7 {
			flagged[8*c.From+c.Slot] |= 32768
		}
	}
	return flagged
}

// sortsOfOwn tells of each wrong flag the role of its table, whether the word is
// own, and whether one leads where it does, or several, or it leads nowhere.
func sortsOfOwn(b []int64) []string {
	var sorts []string
	whole, roles, counts := filledUp(b), wantRoles(b), wantCounts(b)
	for _, d := range wantDefects(b) {
		if d.Kind != 7 {
			continue
		}
		w := whole[8*d.A+d.B]
		many := "none"
		if target := w & 32767; target > 0 {
			many = []string{"none", "one", "several"}[min(counts[target], 2)]
		}
		sorts = append(sorts, fmt.Sprintf("in the role %d, own %v, %s", roles[d.A], w > 32767, many))
	}
	return sorts
}

// TestOwnedOfBrokenImages is promise 15 at large; and that each sort of wrong
// flag was met that there is, and each other defect beside one.
func TestOwnedOfBrokenImages(t *testing.T) {
	met := make(map[string]int)
	brokenImages(1500, func(broken []int64) {
		for _, b := range [][]int64{broken, allOwn(broken)} {
			checkOwned(t, fmt.Sprint(b), b, wantOwned(b))
			sorts := sortsOfOwn(b)
			if len(sorts) == 0 {
				met["no wrong flag"]++
				continue
			}
			for _, sort := range sorts {
				met[sort]++
			}
			for _, d := range wantDefects(b) {
				met[fmt.Sprint("the defect ", d.Kind)]++
			}
		}
	})
	wanted := []string{"no wrong flag", "in the role 3, own true, none", "in the role 3, own true, one"}
	for _, role := range []int{impl.ClFirst, impl.ClShot, impl.ClSecond} {
		for _, sort := range []string{"own true, none", "own true, several", "own false, one"} {
			wanted = append(wanted, fmt.Sprintf("in the role %d, %s", role, sort))
		}
	}
	for kind := impl.DfLength; kind <= impl.DfOwn; kind++ {
		wanted = append(wanted, fmt.Sprint("the defect ", kind))
	}
	for _, each := range wanted {
		if met[each] < 50 {
			t.Errorf("%s: it is met too seldom: %v", each, met)
		}
		delete(met, each)
	}
	if len(met) > 0 {
		t.Errorf("there should be no such ones: %v", met)
	}
}

func TestOwnedAnswersEverywhere(t *testing.T) {
	headedImages(func(b []int64) {
		checkOwned(t, fmt.Sprint(len(b), " words"), b, wantOwned(b))
	})
}

// ownedAtAll are images that are answered by nothing, by the same, and by other
// words, of whole clusters and of such as lack words.
func ownedAtAll() [][]int64 {
	images := append(headless(), allKinds(), allKinds()[:117], oneOfEach(), inOrder(), inOrder()[:83], fullDisk(20), someDisk()[:43])
	return append(images, wrongFlags(), wrongFlags()[:41], append(wrongFlags(), 1), append(wrongFlags(), make([]int64, 464)...), eightBlocks())
}

func TestOwnedLeavesItsArgument(t *testing.T) {
	for _, words := range ownedAtAll() {
		b := guard(words)
		spoil(impl.Owned(b.list))
		b.check(t, "flagging anew")
	}
}

// TestOwnedAnswersAnew: an answer that somebody wrote over is not given again.
func TestOwnedAnswersAnew(t *testing.T) {
	for _, b := range ownedAtAll() {
		if _, is := impl.HeadIn(b); !is {
			continue
		}
		kept := impl.Owned(b)
		spoil(impl.Owned(b))
		if want := wantOwned(b); !same(kept, want) || !same(impl.Owned(b), want) {
			t.Error("two answers share memory")
		}
	}
}
