package tests

import (
	"fmt"
	"slices"
	"testing"

	"loop.example/g00821/impl"
)

// withWords is the image with other words: of each where it stands, and it.
func withWords(words []int64, changes ...[2]int64) []int64 {
	changed := slices.Clone(words)
	for _, c := range changes {
		changed[c[0]] = c[1]
	}
	return changed
}

// filledUp has zeros for what the last cluster lacks.
func filledUp(b []int64) []int64 {
	return append(slices.Clone(b), make([]int64, 8*wantMany(b)-len(b))...)
}

func checkCleared(t *testing.T, what string, b, want []int64) {
	t.Helper()
	got := impl.Cleared(b)
	if !same(got, want) {
		t.Errorf("%s: what is cleared is\n%v, want\n%v", what, got, want)
	}
	checkNobodyLeadsNowhere(t, what, b, got)
}

// checkNobodyLeadsNowhere is promise 12; and that it is the very same claims
// that are Good, but that a Shot may have moved up; and that who is cleared
// again stays.
//
// In one case the promise and the chapter can't both be kept: where ClShots is
// Good and none of its Shots is, the chapter has Many and Shots 0, so that the
// Good ClShots is no claim any more. There the chapter goes first, and just that
// one claim is missing.
func checkNobodyLeadsNowhere(t *testing.T, what string, b, cleared []int64) {
	t.Helper()
	for _, c := range impl.LooseIn(cleared) {
		if c != looseClaim(2, 0, 0, 0, 0) && c != looseClaim(3, 0, 0, 0, 0) {
			t.Fatalf("%s: %v is loose in what is cleared", what, c)
		}
	}
	was, is := goodButForSlots(b), goodButForSlots(cleared)
	if isGoodOf(was, 5) && !isGoodOf(was, 6) {
		was = slices.DeleteFunc(was, func(c impl.Claim) bool { return c.Kind == 5 })
	}
	if len(was) != len(is) {
		t.Fatalf("%s: %d claims are Good, want %d", what, len(is), len(was))
	}
	if !slices.Equal(was, is) {
		t.Fatalf("%s: the Good claims\n%v, want\n%v", what, is, was)
	}
	if again := impl.Cleared(cleared); !same(again, cleared) {
		t.Fatalf("%s: cleared again it is\n%v, and was\n%v", what, again, cleared)
	}
}

// goodButForSlots leaves out of the claims of Shots where these stand.
func goodButForSlots(b []int64) []impl.Claim {
	var good []impl.Claim
	for _, c := range impl.ClaimsIn(b) {
		if c.Kind == 6 {
			c.Slot = 0
		}
		if c.Good {
			good = append(good, c)
		}
	}
	return good
}

func isGoodOf(good []impl.Claim, kind int64) bool {
	return slices.ContainsFunc(good, func(c impl.Claim) bool { return c.Kind == kind })
}

// wantCleared tells it by the other telling of the claims, of an image that has
// a head: the Shots that stay are written anew.
func wantCleared(b []int64) []int64 {
	want := filledUp(b)
	lost := make(map[int64]bool)
	for _, c := range wantLoose(b) {
		switch c.Kind {
		case 2:
			want[3] = 0
		case 3:
			want[4] = 0
		case 5:
			want[5], want[6] = 0, 0
		case 6:
			lost[c.Slot] = true
		default:
			want[8*c.From+c.Slot] = 0
		}
	}
	if len(lost) > 0 {
		table, many := want[8*want[5]:], want[6]
		was := slices.Clone(table[:2*many])
		kept := table[: 0 : 2*many]
		for i := range many {
			if !lost[i] {
				kept = append(kept, was[2*i], was[2*i+1])
			}
		}
		clear(table[len(kept) : 2*many])
		want[6] = int64(len(kept)) / 2
	}
	if want[6] == 0 {
		want[5] = 0
	}
	return want
}

// checkAlone is of an image that has just one loose claim, which is of that
// kind; changes is what is another word of it then.
func checkAlone(t *testing.T, what string, b []int64, kind int64, changes ...[2]int64) {
	t.Helper()
	if loose := impl.LooseIn(b); len(loose) != 1 || loose[0].Kind != kind {
		t.Errorf("%s: the loose claims %v, want one of the kind %d", what, loose, kind)
	}
	checkCleared(t, what, b, withWords(b, changes...))
}

func TestNothingIsLoose(t *testing.T) {
	images := append(soundImages(), allKinds(), eightBlocks(), fullDisk(64))
	// What is stored and who is owned is nobody's claim; 32768 leads nowhere, but
	// is none, either.
	images = append(images,
		withWords(inOrder(), [2]int64{8, 65535}, [2]int64{64, 0}, [2]int64{72, 5}, [2]int64{80, 32776}, [2]int64{74, 32772}),
		withWords(inOrder(), [2]int64{73, 32768}, [2]int64{79, 32768}, [2]int64{82, 32768}, [2]int64{31, 32768}, [2]int64{40, 32768}))
	for i, b := range images {
		if loose := impl.LooseIn(b); len(loose) != 0 {
			t.Errorf("the image %d: the loose claims %v", i, loose)
		}
		checkCleared(t, fmt.Sprint("the image ", i), b, b)
	}
}

func TestFirstIsCleared(t *testing.T) {
	for _, first := range []int64{15, 16, 63, 64, 32767, 32768, 32777, 65535} {
		checkAlone(t, fmt.Sprint("First is ", first), withWord(inOrder(), 3, first), 2, [2]int64{3, 0})
	}
	// It is loose and stays so, and what its table was leads where it did.
	checkAlone(t, "First is 0", withWord(inOrder(), 3, 0), 2)
	checkLoose(t, "First is cleared", impl.Cleared(withWord(inOrder(), 3, 15)), looseClaim(2, 0, 0, 0, 0))
}

func TestRefsIsCleared(t *testing.T) {
	// 9 is First, which is ahead.
	for _, refs := range []int64{9, 15, 63, 64, 32767, 32768, 32778, 65535} {
		checkAlone(t, fmt.Sprint("Refs is ", refs), withWord(inOrder(), 4, refs), 3, [2]int64{4, 0})
	}
	checkAlone(t, "Refs is 0", withWord(inOrder(), 4, 0), 3)
	checkLoose(t, "Refs is cleared", impl.Cleared(withWord(inOrder(), 4, 15)), looseClaim(3, 0, 0, 0, 0))
}

func TestBlocksAreCleared(t *testing.T) {
	for slot := range int64(8) {
		// Not there; First; Refs.
		for _, target := range []int64{15, 64, 32767, 9, 10} {
			for _, own := range []int64{0, 32768} {
				what := fmt.Sprintf("%d at the slot %d", target+own, slot)
				checkAlone(t, what, withWord(inOrder(), int(80+slot), target+own), 4, [2]int64{80 + slot, 0})
			}
		}
	}
	checkAlone(t, "a block again", withWord(inOrder(), 87, 8), 4, [2]int64{87, 0})
	checkAlone(t, "a block again, own", withWord(inOrder(), 82, 32769), 4, [2]int64{82, 0})
	checkAlone(t, "the one ahead again", withWord(inOrder(), 81, 8), 4, [2]int64{81, 0})
	// Who is ahead stays.
	checkAlone(t, "the one behind", withWord(inOrder(), 80, 1), 4, [2]int64{81, 0})
}

// TestShotsAreCleared: Many and Shots are 0, and of the table no word is another
// one, whatever it is.
func TestShotsAreCleared(t *testing.T) {
	// Not there; First; Refs; two blocks; as entries they would be there.
	for _, shots := range []int64{0, 15, 64, 32767, 65535, 9, 10, 8, 1, 32768, 32779} {
		for many := int64(1); many <= 4; many++ {
			b := withWords(inOrder(), [2]int64{5, shots}, [2]int64{6, many})
			checkAlone(t, fmt.Sprintf("Shots is %d, Many is %d", shots, many), b, 5, [2]int64{5, 0}, [2]int64{6, 0})
			checkNames(t, "cleared", impl.Cleared(b))
		}
	}
}

// TestShotsOfNoneAreCleared: they make no claim, but Shots is 0 where Many is.
func TestShotsOfNoneAreCleared(t *testing.T) {
	for _, shots := range []int64{0, 1, 9, 11, 12, 15, 64, 32779, 65535} {
		b := withWords(inOrder(), [2]int64{5, shots}, [2]int64{6, 0})
		if loose := impl.LooseIn(b); len(loose) != 0 {
			t.Errorf("Shots is %d, Many is 0: the loose claims %v", shots, loose)
		}
		checkCleared(t, fmt.Sprintf("Shots is %d, Many is 0", shots), b, withWord(b, 5, 0))
	}
}

func TestSecondTablesAreCleared(t *testing.T) {
	for _, c := range []struct {
		what     string
		at, word int64
	}{
		{"not there", 73, 15},
		{"not there, own", 72 + 1, 32783},
		{"not there, the last target", 72 + 1, 32767},
		{"First", 73, 9},
		{"Refs", 73, 10},
		{"a block", 73, 8},
		{"Shots", 73, 11},
		{"the first table of a Shot", 73, 32771},
		{"one of the slot ahead", 73, 5},
		{"past the disk's end", 75, 12},
		{"past the disk's end, the last slot", 79, 32780},
		{"past the disk's end, a second table of it", 75, 4},
		{"of a Shot, not there", 8*3 + 1, 15},
		{"of a Shot, that very table", 8*3 + 1, 3},
		{"of a Shot, one of another slot of the disk", 8*3 + 1, 5},
		{"of the last Shot, one of another slot of a Shot", 8*2 + 2, 6},
		{"of the last Shot, past the disk's end", 8*2 + 7, 7},
	} {
		checkAlone(t, c.what, withWord(inOrder(), int(c.at), c.word), 7, [2]int64{c.at, 0})
	}
	// Who is ahead stays, and the words of a table that nobody leads to any more.
	checkCleared(t, "two that are behind", withWord(inOrder(), 73, 4), withWords(inOrder(), [2]int64{73, 4}, [2]int64{74, 0}, [2]int64{26, 0}))
	wild := []int64{15, 32783, 9, 1, 32768, 40, 5, 32767}
	b := laid(impl.Head{Size: 8, First: 1, Refs: 2}, []int64{0, 4}, []int64{3}, []int64{1, 1, 1, 1}, wild)
	checkAlone(t, "wild words in a table past the end", b, 7, [2]int64{9, 0})
}

func TestDiskIsCleared(t *testing.T) {
	for slot := range int64(8) {
		// 5 has the places 0 to 7, of the disk alone; 7 has 8 to 15, of a Shot.
		for _, table := range []int64{5, 7} {
			// Not there; First; Refs; a block; Shots; the first table of a Shot;
			// second tables, that very one among them.
			for _, target := range []int64{15, 64, 32767, 9, 10, 8, 11, 2, 4, 5, 7} {
				at := 8*table + slot
				what := fmt.Sprintf("%d at the slot %d of %d", target, slot, table)
				checkAlone(t, what, withWord(inOrder(), int(at), target), 8, [2]int64{at, 0})
				checkAlone(t, what+", own", withWord(inOrder(), int(at), target+32768), 8, [2]int64{at, 0})
			}
		}
	}
}

// TestPlacesPastTheSizeAreCleared: whatever leads to places that the disk has
// not got, leads nowhere.
func TestPlacesPastTheSizeAreCleared(t *testing.T) {
	for size := int64(1); size <= 64; size++ {
		want := fullDisk(size)
		for slot := range int64(8) {
			if slot*8 >= size {
				want[8+slot] = 0
			}
		}
		// A table that is past the end is not gone into, so that its words stay.
		for place := size; place < (size+7)/8*8; place++ {
			want[16+place] = 0
		}
		checkCleared(t, fmt.Sprint("the size ", size), fullDisk(size), want)
	}
}

// TestWordsThatTwoClaimsAreOf: a table that is shared tells its claims as often
// as it is, and the word is 0 all the same.
func TestWordsThatTwoClaimsAreOf(t *testing.T) {
	for _, c := range [][2]int64{
		{8*4 + 1, 15}, {8*4 + 1, 32783}, {8*4 + 3, 9}, {8 * 4, 4}, // of the disk and a Shot
		{8*4 + 4, 12}, {8*4 + 7, 32780}, // past its end
		{8 * 6, 15}, {8*6 + 7, 32774}, {8*6 + 1, 11}, // of two Shots
	} {
		b := withWord(inOrder(), int(c[0]), c[1])
		what := fmt.Sprintf("%d at %d", c[1], c[0])
		if loose := impl.LooseIn(b); len(loose) != 2 || loose[0] != loose[1] {
			t.Errorf("%s: the loose claims %v, want two that are alike", what, loose)
		}
		checkCleared(t, what, b, withWord(b, int(c[0]), 0))
	}
	// First and four Shots lead to one second table.
	b := laid(impl.Head{Size: 3, First: 1, Refs: 2, Shots: 3, Many: 4},
		[]int64{8}, nil, []int64{91, 4, 92, 5, 93, 6, 94, 7}, []int64{8}, []int64{8}, []int64{8}, []int64{8}, []int64{9, 10, 32769, 9})
	if loose := impl.LooseIn(b); len(loose) != 20 {
		t.Errorf("%d loose claims, want four words of five", len(loose))
	}
	checkCleared(t, "five of one table", b, withWords(b, [2]int64{64, 0}, [2]int64{65, 0}, [2]int64{66, 0}, [2]int64{67, 0}))
}

// fourShots is an image with these pairs as its table of Shots, of which Many
// are some. The clusters 4 to 7 are free to be first tables.
func fourShots(many int64, pairs ...int64) []int64 {
	return laid(impl.Head{Size: 8, First: 1, Refs: 2, Shots: 3, Many: many}, []int64{32776}, nil, pairs, []int64{8}, nil, nil, []int64{8}, nil)
}

func checkShotsCleared(t *testing.T, what string, b []int64, many int64, pairs ...int64) {
	t.Helper()
	want := fourShots(many, pairs...)
	if many == 0 {
		want[5] = 0
	}
	checkCleared(t, what, b, want)
}

func TestShotsThatAreLeftOut(t *testing.T) {
	for _, c := range []struct {
		what string
		many int64
		was  []int64
		left int64
		want []int64
	}{
		{"the only one", 1, []int64{91, 0}, 0, nil},
		{"the only one, its name 0", 1, []int64{0, 9}, 0, nil},
		{"the first of two", 2, []int64{91, 9, 92, 4}, 1, []int64{92, 4}},
		{"the last of two", 2, []int64{91, 4, 92, 9}, 1, []int64{91, 4}},
		{"the first of four", 4, []int64{91, 1, 92, 5, 93, 6, 94, 7}, 3, []int64{92, 5, 93, 6, 94, 7}},
		{"the second of four", 4, []int64{91, 4, 92, 2, 93, 6, 94, 7}, 3, []int64{91, 4, 93, 6, 94, 7}},
		{"the third of four", 4, []int64{91, 4, 92, 5, 93, 3, 94, 7}, 3, []int64{91, 4, 92, 5, 94, 7}},
		{"the last of four", 4, []int64{91, 4, 92, 5, 93, 6, 94, 65535}, 3, []int64{91, 4, 92, 5, 93, 6}},
		{"the first two", 4, []int64{91, 9, 92, 10, 93, 6, 94, 7}, 2, []int64{93, 6, 94, 7}},
		{"the last two", 4, []int64{91, 7, 92, 6, 93, 0, 94, 0}, 2, []int64{91, 7, 92, 6}},
		{"the first and the third", 4, []int64{91, 9, 92, 5, 93, 9, 94, 7}, 2, []int64{92, 5, 94, 7}},
		{"all but the second", 4, []int64{91, 9, 92, 5, 93, 9, 94, 9}, 1, []int64{92, 5}},
		{"all but the last", 4, []int64{91, 0, 92, 0, 93, 0, 94, 4}, 1, []int64{94, 4}},
		{"all of them", 4, []int64{91, 9, 92, 64, 93, 32772, 94, 0}, 0, nil},
		{"those that lead where one ahead does", 4, []int64{91, 4, 92, 4, 93, 5, 94, 4}, 2, []int64{91, 4, 93, 5}},
		{"all that are alike but one", 4, []int64{91, 4, 91, 4, 91, 4, 91, 4}, 1, []int64{91, 4}},
		{"names that are alike, and 0", 4, []int64{0, 9, 7, 5, 7, 9, 0, 7}, 2, []int64{7, 5, 0, 7}},
		{"words behind the one", 1, []int64{91, 9, 92, 5, 93, 6, 94, 7}, 0, []int64{0, 0, 92, 5, 93, 6, 94, 7}},
		{"words behind two, the first", 2, []int64{91, 9, 92, 5, 93, 6, 94, 7}, 1, []int64{92, 5, 0, 0, 93, 6, 94, 7}},
		{"words behind two, the last", 2, []int64{91, 4, 92, 9, 93, 6, 94, 7}, 1, []int64{91, 4, 0, 0, 93, 6, 94, 7}},
		{"words behind three, the middle", 3, []int64{91, 4, 92, 9, 93, 6, 94, 9}, 2, []int64{91, 4, 93, 6, 0, 0, 94, 9}},
		{"words behind three, all", 3, []int64{91, 9, 92, 0, 93, 1, 65535, 65535}, 0, []int64{0, 0, 0, 0, 0, 0, 65535, 65535}},
		{"words behind three, none", 3, []int64{91, 4, 92, 5, 93, 6, 94, 6}, 3, []int64{91, 4, 92, 5, 93, 6, 94, 6}},
	} {
		checkShotsCleared(t, c.what, fourShots(c.many, c.was...), c.left, c.want...)
	}
}

// TestShotsLeftOutOfEveryMany is of each choice among them: those that stay are
// in their order, zeros behind them, and behind the first Many pairs what was.
func TestShotsLeftOutOfEveryMany(t *testing.T) {
	// Lost are a First of 0, First, Refs, Shots, and what is not there.
	for _, lost := range []int64{0, 1, 2, 3, 9, 63, 64, 32767, 32768, 32772, 65535} {
		for many := range int64(5) {
			for choice := range 1 << many {
				var was, kept, names, behind []int64
				for i := range int64(4) {
					pair := []int64{91 + i, 4 + i}
					switch {
					case i >= many:
						behind = append(behind, 900+i, lost)
						pair = []int64{900 + i, lost}
					case choice>>i&1 == 1:
						pair[1] = lost
					default:
						kept, names = append(kept, pair...), append(names, pair[0])
					}
					was = append(was, pair...)
				}
				b := fourShots(many, was...)
				what := fmt.Sprintf("%d of %d Shots, lost at %d", len(names), many, lost)
				want := append(append(slices.Clone(kept), make([]int64, int(2*many)-len(kept))...), behind...)
				checkShotsCleared(t, what, b, int64(len(names)), want...)
				checkNames(t, what, impl.Cleared(b), names...)
			}
		}
	}
}

// TestTableOfNoShotsIsNobodys is the one case in which a Good claim goes: that
// of a table of which all Shots are left out, and no other one with it.
func TestTableOfNoShotsIsNobodys(t *testing.T) {
	for many := int64(1); many <= 4; many++ {
		b := fourShots(many, 91, 9, 92, 0, 93, 1, 94, 2)
		was, is := goodButForSlots(b), goodButForSlots(impl.Cleared(b))
		if len(is) != len(was)-1 || !isGoodOf(was, 5) || isGoodOf(is, 5) {
			t.Errorf("%d Shots: the Good claims %v, and then %v", many, was, is)
		}
		if role := impl.RolesIn(impl.Cleared(b))[3]; role != 0 {
			t.Errorf("%d Shots: the role of their table is %d then", many, role)
		}
		// One that stays keeps its table.
		b[8*3+1] = 4
		was, is = goodButForSlots(b), goodButForSlots(impl.Cleared(b))
		if len(is) != len(was) || !isGoodOf(is, 5) {
			t.Errorf("%d Shots, one of them Good: the Good claims %v, and then %v", many, was, is)
		}
	}
}

// TestShotsThatMoveUpAreReadAsTheyWere: each has its first table along.
func TestShotsThatMoveUpAreReadAsTheyWere(t *testing.T) {
	b := laid(impl.Head{Size: 8, First: 1, Refs: 2, Shots: 3, Many: 4},
		nil, nil, []int64{91, 40, 92, 4, 93, 4, 94, 5}, []int64{6}, []int64{7}, []int64{8}, []int64{9}, newWords, []int64{1, 2, 3, 4, 5, 6, 7, 8})
	cleared := impl.Cleared(b)
	checkNames(t, "cleared", cleared, 92, 94)
	for g := range int64(8) {
		for which, old := range []int64{0, 2, 4} {
			if got, want := impl.ContentOf(cleared, int64(which), g), impl.ContentOf(b, old, g); !same(got, want) {
				t.Errorf("the cluster %d of %d is %v, and was %v", g, which, got, want)
			}
		}
		if got := impl.ContentOf(cleared, 3, g); len(got) != 0 {
			t.Errorf("the cluster %d of a Shot that is left out is %v", g, got)
		}
	}
}

func TestSeveralAreCleared(t *testing.T) {
	// One of each kind that stands in a table; of the Shots two.
	b := withWords(inOrder(),
		[2]int64{6, 4}, [2]int64{8*11 + 1, 15}, [2]int64{8*11 + 5, 3},
		[2]int64{82, 9}, [2]int64{73, 15}, [2]int64{43, 10}, [2]int64{55, 32783})
	want := withWords(inOrder(), [2]int64{82, 0}, [2]int64{73, 0}, [2]int64{43, 0}, [2]int64{55, 0})
	copy(want[8*11:], []int64{92, 2, 32768, 3, 0, 0, 0, 0})
	// The cluster 3 is a Shot's, by the third pair, and so are its words.
	checkLoose(t, "one of each", b,
		looseClaim(4, 10, 2, 0, 9), looseClaim(6, 11, 0, 0, 15), looseClaim(6, 11, 3, 0, 9), looseClaim(7, 9, 1, 8, 15),
		looseClaim(8, 5, 3, 3, 10), looseClaim(8, 6, 7, 7, 15), looseClaim(8, 6, 7, 7, 15))
	checkCleared(t, "one of each", b, want)
	// First, Refs and Shots, and a short end.
	b = append(withWords(inOrder(), [2]int64{3, 64}, [2]int64{4, 65535}, [2]int64{5, 32768}), 9)
	want = append(withWords(inOrder(), [2]int64{3, 0}, [2]int64{4, 0}, [2]int64{5, 0}, [2]int64{6, 0}), 9, 0, 0, 0, 0, 0, 0, 0)
	checkCleared(t, "First, Refs and Shots", b, want)
	// They are one cluster: First is ahead, and leads to itself.
	b = laid(impl.Head{Size: 64, First: 1, Refs: 1, Shots: 1, Many: 4}, []int64{1, 1, 2, 2, 0, 32770, 3, 1}, []int64{2, 1, 3})
	want = laid(impl.Head{Size: 64, First: 1}, []int64{0, 0, 2, 0, 0, 0, 0, 0}, nil)
	checkCleared(t, "one cluster", b, want)
	// Every word of every table leads out.
	b = laid(impl.Head{Size: 64, First: 1, Refs: 2, Shots: 3, Many: 4}, slices.Repeat([]int64{7}, 8), slices.Repeat([]int64{65535}, 8), slices.Repeat([]int64{6}, 8))
	checkCleared(t, "all of them", b, laid(impl.Head{Size: 64, First: 1, Refs: 2}, nil, nil, nil))
	// The first of the slots that lead to one table has it.
	b = laid(impl.Head{Size: 64, First: 1, Refs: 2}, slices.Repeat([]int64{3}, 8), slices.Repeat([]int64{32772}, 8), slices.Repeat([]int64{5}, 8), nil, nil)
	checkCleared(t, "all but one", b, laid(impl.Head{Size: 64, First: 1, Refs: 2}, []int64{3}, []int64{32772}, slices.Repeat([]int64{5}, 8), nil, nil))
}

func TestClustersAreWhole(t *testing.T) {
	for n := 3; n <= 120; n++ {
		b := inOrder()[:n]
		checkCleared(t, fmt.Sprint(n, " words"), b, wantCleared(b))
		if got := impl.Cleared(b); len(got) != (n+7)/8*8 {
			t.Errorf("%d words are %d when they are cleared", n, len(got))
		}
	}
	// What stands in the spare room is no word of the image.
	b := someDisk()
	for n := 41; n < 48; n++ {
		checkCleared(t, fmt.Sprint(n, " words"), b[:n], append(b[:n:n], make([]int64, 48-n)...))
	}
	checkCleared(t, "40 words", b[:40], withWord(b[:40], 34, 0))
	long := append(someDisk(), slices.Repeat([]int64{65535}, 464)...)
	for n := 500; n <= 512; n++ {
		checkCleared(t, fmt.Sprint(n, " words"), long[:n], append(long[:n:n], make([]int64, (512-n)%8)...))
	}
	// A head alone, that may lack words itself.
	head := laid(impl.Head{Size: 9, First: 1, Refs: 2, Shots: 3, Many: 4})
	for n := 3; n <= 8; n++ {
		checkCleared(t, fmt.Sprint("a head of ", n, " words"), head[:n], laid(impl.Head{Size: 9}))
	}
}

// TestShotsInALastClusterThatLacksWords: a pair that lacks its First leads to 0.
func TestShotsInALastClusterThatLacksWords(t *testing.T) {
	b := laid(impl.Head{Size: 9, First: 1, Refs: 2, Shots: 5, Many: 4}, nil, nil, nil, nil, []int64{91, 40, 92, 3, 93, 4, 94, 65535})
	for n, want := range map[int][]int64{
		40: nil, // Shots is not there at all
		41: make([]int64, 8),
		42: make([]int64, 8),
		43: make([]int64, 8),
		44: {92, 3, 0, 0, 0, 0, 0, 0},
		45: {92, 3, 0, 0, 0, 0, 0, 0},
		46: {92, 3, 93, 4, 0, 0, 0, 0},
		47: {92, 3, 93, 4, 0, 0, 0, 0},
		48: {92, 3, 93, 4, 0, 0, 0, 0},
	} {
		head := impl.Head{Size: 9, First: 1, Refs: 2}
		if n >= 44 {
			head.Shots, head.Many = 5, min(int64(n-42)/2, 2)
		}
		checkCleared(t, fmt.Sprint(n, " words"), b[:n], append(laid(head, nil, nil, nil, nil), want...))
	}
}

func TestClearedWithoutAHead(t *testing.T) {
	lists := append(nearlyAllKinds(), nil, []int64{}, make([]int64, 7), make([]int64, 512), make([]int64, 513))
	for _, w := range [][2]int64{{0, 0}, {1, 4}, {2, 0}, {2, 65}, {6, 5}, {7, 1}, {3, -1}, {3, 65536}, {40, -1}, {47, 65536}} {
		lists = append(lists, withWord(someDisk(), int(w[0]), w[1]))
	}
	lists = append(lists, append(someDisk(), make([]int64, 465)...), append(someDisk(), -1))
	for i, b := range lists {
		wantNoHead(t, "headless", b)
		if got := impl.Cleared(b); len(got) != 0 {
			t.Errorf("the list %d: what is cleared is %v, want nothing", i, got)
		}
	}
}

// TestClearedOfOneWord is of Sound images in which one word is another one.
func TestClearedOfOneWord(t *testing.T) {
	for i, sound := range soundImages()[:6] {
		for at := 2; at < len(sound); at++ {
			for _, w := range []int64{0, 1, 2, 3, 5, 9, int64(len(sound) / 8), 32768, 32770, 32772, 65535} {
				b := withWord(sound, at, w)
				if _, is := impl.HeadIn(b); is {
					checkCleared(t, fmt.Sprintf("the image %d, %d at %d", i, w, at), b, wantCleared(b))
				} else if got := impl.Cleared(b); len(got) != 0 {
					t.Errorf("the image %d, %d at %d: what is cleared is %v", i, w, at, got)
				}
			}
		}
	}
}

// TestClearedOfBrokenImages is promise 12 at large; and that each kind was met
// loose, and some, and all, of the Shots were left out.
func TestClearedOfBrokenImages(t *testing.T) {
	var met [9]int
	left := make(map[[2]int64]int)
	brokenImages(20000, func(b []int64) {
		was, want := wantCluster(b, 0), wantCleared(b)
		checkCleared(t, fmt.Sprint(b), b, want)
		for _, c := range wantLoose(b) {
			met[c.Kind]++
		}
		left[[2]int64{was[6], want[6]}]++
	})
	if slices.Min(met[2:]) < 500 {
		t.Errorf("some are met too seldom: %v", met)
	}
	for many := int64(1); many <= 4; many++ {
		for of := range many + 1 {
			if left[[2]int64{many, of}] == 0 {
				t.Errorf("%d of %d Shots are never met: %v", of, many, left)
			}
		}
	}
}

func TestClearedAnswersEverywhere(t *testing.T) {
	headedImages(func(b []int64) {
		checkCleared(t, fmt.Sprint(len(b), " words"), b, wantCleared(b))
	})
}

func TestClearedLeavesItsArgument(t *testing.T) {
	images := append(headless(), allKinds(), allKinds()[:117], oneOfEach(), inOrder(), inOrder()[:83], fullDisk(20), someDisk()[:43])
	images = append(images, fourShots(4, 91, 9, 92, 5, 93, 9, 94, 7), fourShots(3, 91, 9, 92, 9, 93, 9)[:29], laid(impl.Head{Size: 1, First: 9, Refs: 9, Shots: 9, Many: 1}))
	for _, words := range images {
		b := guard(words)
		spoil(impl.Cleared(b.list))
		b.check(t, "clearing")
	}
}

// TestClearedAnswersAnew: an answer that somebody wrote over is not given again.
func TestClearedAnswersAnew(t *testing.T) {
	for _, b := range [][]int64{allKinds(), oneOfEach(), fullDisk(20), fourShots(4, 91, 9, 92, 5, 93, 9, 94, 7), someDisk()[:43]} {
		kept := impl.Cleared(b)
		spoil(impl.Cleared(b))
		if want := wantCleared(b); !same(kept, want) || !same(impl.Cleared(b), want) {
			t.Error("two answers share memory")
		}
	}
}
