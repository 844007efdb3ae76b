package tests

import (
	"fmt"
	"math"
	"slices"
	"testing"

	"loop.example/g00821/impl"
)

// wantLike tells of an image that has a head, and of a cluster of it that may
// not be there, whether that is SecondLike, by the other telling of the claims.
func wantLike(b []int64, roles []int64, at int64) bool {
	many := int64(wantMany(b))
	if at <= 0 || at >= many || roles[at] != 0 {
		return false
	}
	owned := 0
	for _, word := range wantCluster(b, int(at)) {
		if word != 0 && (word%32768 == 0 || word%32768 >= many) {
			return false
		}
		owned += int(word / 32768)
	}
	return owned > 0
}

// allLike are all that are SecondLike, however few slots there are.
func allLike(b []int64) []int64 {
	var like []int64
	roles := wantRoles(b)
	for at := range roles {
		if wantLike(b, roles, int64(at)) {
			like = append(like, int64(at))
		}
	}
	return like
}

func wantLost(b []int64) []int64 {
	like := allLike(b)
	slots := 0
	for from := int64(0); from < b[2]; from += 8 {
		slots++
	}
	return like[:min(slots, len(like))]
}

func wantRefound(b []int64) []int64 {
	many := wantMany(b)
	if many > 63 {
		return nil
	}
	want := append(filledUp(b), make([]int64, 8)...)
	want[3] = int64(many)
	for slot, target := range wantLost(b) {
		want[8*many+slot] = 32768 + target
	}
	return want
}

func checkLike(t *testing.T, what string, b []int64, at int64, want bool) {
	t.Helper()
	if got := impl.SecondLike(b, at); got != want {
		t.Errorf("%s: SecondLike %d is %v, want %v", what, at, got, want)
	}
}

// checkLost holds the answer against the one that is wanted, and is promise 13.
func checkLost(t *testing.T, what string, b []int64, want ...int64) {
	t.Helper()
	if got := impl.LostIn(b); !same(got, want) {
		t.Errorf("%s: LostIn is %v, want %v", what, got, want)
	}
	checkNobodyElses(t, what, b)
}

// checkNobodyElses is promise 13: what is found again has no role, so that no
// Good claim leads to it, and the numbers rise.
func checkNobodyElses(t *testing.T, what string, b []int64) {
	t.Helper()
	roles, lost := impl.RolesIn(b), impl.LostIn(b)
	for i, at := range lost {
		if at < 1 || at >= int64(len(roles)) || roles[at] != 0 {
			t.Fatalf("%s: %d is found again and has a role in %v, or is not there", what, at, roles)
		}
		if slices.ContainsFunc(impl.ClaimsIn(b), func(c impl.Claim) bool { return c.Good && c.Target == at }) {
			t.Fatalf("%s: %d is found again, and a Good claim leads to it", what, at)
		}
		if !impl.SecondLike(b, at) {
			t.Fatalf("%s: %d is found again and is not SecondLike", what, at)
		}
		if i > 0 && at <= lost[i-1] {
			t.Fatalf("%s: %v does not rise", what, lost)
		}
	}
}

func checkRefound(t *testing.T, what string, b, want []int64) {
	t.Helper()
	got := impl.Refound(b)
	if !same(got, want) {
		t.Errorf("%s: what is refound is\n%v, want\n%v", what, got, want)
	}
	if len(got) > 0 {
		checkFoundHaveARole(t, what, b, got)
	}
}

// checkFoundHaveARole: where no First was there, each that is found again is a
// second table then, by one claim alone, and all others are what they were.
func checkFoundHaveARole(t *testing.T, what string, b, refound []int64) {
	t.Helper()
	was, is := impl.RolesIn(b), impl.RolesIn(refound)
	if len(is) != len(was)+1 || is[len(was)] != impl.ClFirst {
		t.Fatalf("%s: the roles %v, and then %v", what, was, is)
	}
	if slices.Contains(was, impl.ClFirst) {
		return
	}
	for _, at := range impl.LostIn(b) {
		if counts := impl.CountsIn(refound); is[at] != impl.ClSecond || counts[at] != 1 {
			t.Fatalf("%s: the role of %d, which is found again, is %d, its count %d", what, at, is[at], counts[at])
		}
	}
	for at, role := range was {
		if role != 0 && is[at] != role {
			t.Fatalf("%s: the role of %d is %d, and was %d", what, at, is[at], role)
		}
	}
}

// withTables is an image of that Size in which no table is led to: clusters
// that are SecondLike, many of them, and between these some that are not.
func withTables(size int64, many int) []int64 {
	clusters := [][]int64{nil, {1}}
	for i := range many {
		clusters = append(clusters, []int64{0, 32769 + int64(i)}, []int64{1, 2, 32768})
	}
	return laid(impl.Head{Size: size}, clusters...)
}

// tablesOf are the numbers of the SecondLike ones of withTables.
func tablesOf(many int) []int64 {
	var tables []int64
	for i := range many {
		tables = append(tables, int64(3+2*i))
	}
	return tables
}

// withCandidate is an image with five clusters behind the head, that leads to
// its first two: the third one has these words, and nobody leads there.
func withCandidate(words ...int64) []int64 {
	return laid(impl.Head{Size: 20, First: 1, Refs: 2}, nil, nil, words, []int64{1, 2, 3}, nil)
}

func TestTablesOfAnOrdinaryDisk(t *testing.T) {
	for at := range int64(6) {
		checkLike(t, "a disk in order", someDisk(), at, false)
	}
	checkLost(t, "a disk in order", someDisk())
	// Its first table, and what that led to; 5 has words that lead out.
	b := withWord(someDisk(), 3, 0)
	for at, want := range []bool{false, true, false, false, true, false} {
		checkLike(t, "First is lost", b, int64(at), want)
	}
	checkLost(t, "First is lost", b, 1, 4)
	for i, b := range soundImages()[:6] {
		checkLost(t, fmt.Sprint("the sound image ", i), b)
	}
	for _, b := range [][]int64{allKinds(), oneOfEach(), fullDisk(64), eightBlocks()} {
		checkLost(t, "nothing is lost", b)
	}
	// A First that is not there is no other than none.
	for _, first := range []int64{6, 63, 64, 32769, 65535} {
		checkLost(t, fmt.Sprint("First is ", first), withWord(someDisk(), 3, first), 1, 4)
	}
}

// TestWhoHasARoleIsNoneOfThem is of a cluster of each role, with words by which
// it would be SecondLike: in the cluster 8, which has no role, they are.
func TestWhoHasARoleIsNoneOfThem(t *testing.T) {
	b := withWords(oneOfEach(), [2]int64{9, 32774}, [2]int64{18, 32771}, [2]int64{24, 32769},
		[2]int64{32, 32769}, [2]int64{42, 32773}, [2]int64{51, 32775}, [2]int64{56, 32776})
	checkRoles(t, "one of each, and all own", b, 1, 2, 3, 4, 5, 6, 7, 8, 0)
	for at := range int64(8) {
		what := fmt.Sprint("the role ", at+1)
		checkLike(t, what, b, at, false)
		twin := slices.Clone(b)
		copy(twin[64:], b[8*at:8*at+8])
		checkLike(t, what, twin, at, false)
		checkLike(t, what+", the same words without a role", twin, 8, at != 0)
		if at != 0 {
			checkLost(t, what+", the same words without a role", twin, 8)
		}
	}
	// Who loses the claim that leads to him has no role any more.
	for _, w := range whoTells() {
		for _, target := range []int64{0, 9, 32767} {
			checkLike(t, fmt.Sprintf("the kind %d, which leads to %d", w.kind, target), withWord(b, w.at, target), w.kind-1, true)
		}
	}
}

// TestLooseClaimsGiveNoRole: one to which none but loose claims lead is found
// again all the same.
func TestLooseClaimsGiveNoRole(t *testing.T) {
	b := laid(impl.Head{Size: 8, First: 1, Refs: 2}, []int64{3, 4}, nil, []int64{0, 32774, 0, 5}, []int64{32773}, []int64{32773}, nil)
	checkLoose(t, "past the disk's end", b, looseClaim(7, 1, 1, 8, 4))
	checkRoles(t, "past the disk's end", b, 1, 2, 3, 7, 0, 8, 8)
	checkLost(t, "past the disk's end", b, 4)
	b[2] = 9
	checkLost(t, "not past the disk's end", b)
}

func TestLikeOutsideTheImage(t *testing.T) {
	b := withCandidate(32772)
	for at := range int64(6) {
		checkLike(t, "six clusters", b, at, at == 3)
	}
	for _, at := range []int64{math.MinInt64, math.MinInt64 + 3, -65536, -64, -8, -5, -3, -2, -1, 0, 6, 7, 8, 63, 64, 65, 32768, 32771, 65536, 1<<61 + 3, 1<<61 - 5, math.MaxInt64} {
		checkLike(t, "outside", b, at, false)
	}
	// The last of 64 clusters, and the one behind.
	full := append(someDisk(), make([]int64, 464)...)
	full[504] = 32769
	checkLike(t, "64 clusters", full, 63, true)
	checkLike(t, "64 clusters", full, 64, false)
	checkLost(t, "64 clusters", full, 63)
	// A head alone.
	for n := 3; n <= 8; n++ {
		for _, at := range []int64{-1, 0, 1} {
			checkLike(t, fmt.Sprint("a head of ", n, " words"), laid(impl.Head{Size: 64})[:n], at, false)
		}
		checkLost(t, fmt.Sprint("a head of ", n, " words"), laid(impl.Head{Size: 64})[:n])
	}
}

func TestWordsOfATable(t *testing.T) {
	for _, c := range []struct {
		what  string
		words []int64
		want  bool
	}{
		{"all 0", nil, false},
		{"none is own", []int64{1, 2, 3, 4, 5}, false},
		{"none is own, the same one", slices.Repeat([]int64{4}, 8), false},
		{"all are own", []int64{32769, 32770, 32771, 32772, 32773, 32769, 32770, 32771}, true},
		{"one is own, others are not", []int64{1, 2, 32771, 4, 5, 1, 2, 3}, true},
		{"the last one is own", []int64{0, 0, 0, 0, 0, 0, 0, 32769}, true},
		{"the first one is own", []int64{32773}, true},
		{"itself, own", []int64{32771}, true},
		{"the flag alone", []int64{32768}, false},
		{"the flag alone eight times", slices.Repeat([]int64{32768}, 8), false},
		{"the flag alone behind an own one", []int64{32769, 32768}, false},
		{"the flag alone ahead of an own one", []int64{32768, 32769}, false},
		{"the flag alone behind one that is not own", []int64{1, 32768}, false},
		{"many as there are, own", []int64{32768 + 6}, false},
		{"many as there are, behind an own one", []int64{32769, 6}, false},
		{"many as there are, ahead of an own one", []int64{6, 32769}, false},
		{"one past it, own", []int64{32768 + 7}, false},
		{"one past it, behind an own one", []int64{32769, 7}, false},
		{"the last one there, own", []int64{32768 + 5}, true},
		{"the last one there, behind an own one", []int64{32769, 5}, true},
		{"the most there can be, own", []int64{65535}, false},
		{"the most there can be, behind an own one", []int64{32769, 32767}, false},
		{"words of the disk", []int64{7, 7, 7, 7, 7, 7, 7, 9}, false},
	} {
		b := withCandidate(c.words...)
		checkLike(t, c.what, b, 3, c.want)
		if c.want {
			checkLost(t, c.what, b, 3)
		} else {
			checkLost(t, c.what, b)
		}
	}
}

// TestEachWordOfATable is of each slot, with each target that may be there or
// not, alone and among others.
func TestEachWordOfATable(t *testing.T) {
	for slot := range 8 {
		for _, target := range []int64{0, 1, 2, 3, 4, 5, 6, 7, 8, 63, 64, 20559, 32767} {
			there := target >= 1 && target <= 5
			what := fmt.Sprintf("%d at the slot %d", target, slot)
			alone := make([]int64, 8)
			alone[slot] = target
			checkLike(t, what, withCandidate(alone...), 3, false)
			alone[slot] = 32768 + target
			checkLike(t, what+", own", withCandidate(alone...), 3, there)
			others := slices.Repeat([]int64{32770}, 8)
			others[slot] = target
			checkLike(t, what+", among own ones", withCandidate(others...), 3, there || target == 0)
			others[slot] = 32768 + target
			checkLike(t, what+", own, among own ones", withCandidate(others...), 3, there)
			others = slices.Repeat([]int64{2}, 8)
			others[slot] = 32768 + target
			checkLike(t, what+", own, among others", withCandidate(others...), 3, there)
		}
	}
}

// TestTargetsAreThereByHowManyThereAre: the same word leads to a cluster or to
// none, as there are more of them.
func TestTargetsAreThereByHowManyThereAre(t *testing.T) {
	for many := int64(2); many <= 64; many++ {
		for _, target := range []int64{1, many - 1, many, many + 1, 64} {
			b := append(laid(impl.Head{Size: 64}, []int64{32768 + target}), make([]int64, 8*(many-2))...)
			checkLike(t, fmt.Sprintf("%d of %d clusters", target, many), b, 1, target < many)
		}
	}
}

// TestTableInALastClusterThatLacksWords: what it lacks is 0, though words stand
// in the spare room behind; and one word makes it a cluster to lead to.
func TestTableInALastClusterThatLacksWords(t *testing.T) {
	whole := laid(impl.Head{Size: 20, First: 1, Refs: 2}, nil, nil, []int64{0, 1, 32771, 2, 0, 4, 32769, 32768})
	for n := 25; n <= 32; n++ {
		// 4 is not there at all, which is the word 29; the third one is own.
		checkLike(t, fmt.Sprint(n, " words"), whole[:n], 3, n >= 27 && n <= 29)
		checkRefound(t, fmt.Sprint(n, " words"), whole[:n], wantRefound(whole[:n]))
	}
	checkLike(t, "24 words", whole[:24], 3, false)
	checkLost(t, "26 words", whole[:26])
	checkLost(t, "27 words", whole[:27], 3)
	checkLost(t, "29 words", whole[:29], 3)
	checkLost(t, "30 words", whole[:30])
	b := laid(impl.Head{Size: 20, First: 1, Refs: 2}, nil, nil, []int64{32772}, []int64{32771})
	checkLost(t, "two that lead to each other", b, 3, 4)
	checkLost(t, "the last one has one word", b[:33], 3, 4)
	checkLost(t, "the last one is not there", b[:32])
}

// TestLostOfEverySize: no more than the first table has slots for, the first of
// them; with fewer, as many, and more.
func TestLostOfEverySize(t *testing.T) {
	for size := int64(1); size <= 64; size++ {
		slots := int(size+7) / 8
		for many := range 13 {
			what := fmt.Sprintf("%d tables, the size %d", many, size)
			b := withTables(size, many)
			for _, at := range tablesOf(many) {
				checkLike(t, what, b, at, true)
				checkLike(t, what, b, at-1, false)
			}
			checkLost(t, what, b, tablesOf(min(many, slots))...)
		}
	}
	for size, want := range map[int64][]int64{
		1:  {3},
		7:  {3},
		8:  {3},
		9:  {3, 5},
		16: {3, 5},
		17: {3, 5, 7},
		56: {3, 5, 7, 9, 11, 13, 15},
		57: {3, 5, 7, 9, 11, 13, 15, 17},
		63: {3, 5, 7, 9, 11, 13, 15, 17},
		64: {3, 5, 7, 9, 11, 13, 15, 17},
	} {
		checkLost(t, fmt.Sprint("more than the size ", size, " has slots for"), withTables(size, 10), want...)
		checkLost(t, fmt.Sprint("as many as the size ", size, " has slots for"), withTables(size, len(want)), want...)
		checkLost(t, fmt.Sprint("one less than the size ", size, " has slots for"), withTables(size, len(want)-1), want[:len(want)-1]...)
	}
}

// TestLostIsNoMatterOfWhoLeadsOn: tables that lead to each other, to one and the
// same, or to what has a role, are found all the same, and in their order.
func TestLostIsNoMatterOfWhoLeadsOn(t *testing.T) {
	b := laid(impl.Head{Size: 64, First: 8, Refs: 1, Shots: 6, Many: 1},
		[]int64{32770}, nil, []int64{32773}, []int64{32771, 32771}, []int64{4, 32772}, []int64{91, 9}, []int64{32769, 8, 6}, nil, nil)
	checkRoles(t, "several", b, 1, 3, 4, 0, 0, 0, 5, 0, 2, 6)
	checkLost(t, "several", b, 3, 4, 5, 7)
}

func TestRefoundOfOrdinaryDisks(t *testing.T) {
	b := withWord(someDisk(), 3, 0)
	want := append(withWord(someDisk(), 3, 6), 32769, 32772, 0, 0, 0, 0, 0, 0)
	checkRefound(t, "First is lost", b, want)
	// With the first table written over, the second one is all there is.
	b[8] = 0
	want = append(withWords(someDisk(), [2]int64{3, 6}, [2]int64{8, 0}), 32772, 0, 0, 0, 0, 0, 0, 0)
	checkRefound(t, "First is lost, and written over", b, want)
	for slot := range int64(3) {
		for g := range int64(8) {
			if got := impl.EntryAt(impl.Refound(b), 0, 8*slot+g); (got == 32773) != (slot == 0 && g == 2) {
				t.Errorf("the entry of %d is %d", 8*slot+g, got)
			}
		}
	}
	if got := impl.ContentOf(impl.Refound(b), 0, 2); !same(got, []int64{7, 7, 7, 7, 7, 7, 7, 9}) {
		t.Errorf("the cluster 2 is %v", got)
	}
	// What is found is somebody's then.
	checkLost(t, "refound", impl.Refound(b))
}

func TestRefoundWhereNoneIsLost(t *testing.T) {
	zeros := make([]int64, 8)
	checkRefound(t, "an empty disk", laid(impl.Head{Size: 8, Refs: 1}, nil), laid(impl.Head{Size: 8, First: 2, Refs: 1}, nil, zeros))
	checkRefound(t, "a First that is there", someDisk(), append(withWord(someDisk(), 3, 6), zeros...))
	for n := 3; n <= 8; n++ {
		checkRefound(t, fmt.Sprint("a head of ", n, " words"), laid(impl.Head{Size: 64})[:n], laid(impl.Head{Size: 64, First: 1}, zeros))
	}
}

// TestRefoundOfEverySize: an own entry for each that is found, in order, and as
// many as there are slots for.
func TestRefoundOfEverySize(t *testing.T) {
	for size := int64(1); size <= 64; size++ {
		slots := int(size+7) / 8
		for many := range 13 {
			b := withTables(size, many)
			want := append(withWord(b, 3, int64(len(b)/8)), make([]int64, 8)...)
			for slot, at := range tablesOf(min(many, slots)) {
				want[len(b)+slot] = 32768 + at
			}
			checkRefound(t, fmt.Sprintf("%d tables, the size %d", many, size), b, want)
		}
	}
}

// TestRefoundKeepsAllOtherWords: of the head, too, and those of clusters that
// nobody leads to, whatever these are.
func TestRefoundKeepsAllOtherWords(t *testing.T) {
	for i, b := range append(soundImages(), allKinds(), oneOfEach(), fullDisk(64), eightBlocks()) {
		what := fmt.Sprint("the image ", i)
		b = append(b, 65535, 32768, 0, 1, 32767, 9, 32769, 255, 0, 0, 0, 0, 0, 0, 0, 32769)
		if len(b) > 504 {
			b = b[:504]
		}
		for _, first := range []int64{0, b[3], 64, 65535} {
			b := withWord(b, 3, first)
			got := impl.Refound(b)
			if len(got) != len(b)+8 || got[3] != int64(len(b)/8) || !same(got[:3], b[:3]) || !same(got[4:len(b)], b[4:]) {
				t.Errorf("%s, First is %d: what is refound is\n%v, and was\n%v", what, first, got, b)
			}
			checkRefound(t, what, b, wantRefound(b))
		}
	}
}

// TestRefoundKeepsTheHead is of each number of it but First.
func TestRefoundKeepsTheHead(t *testing.T) {
	for _, h := range rightHeads() {
		b := laid(h, []int64{32769}, nil)
		is, ok := impl.HeadIn(impl.Refound(b))
		if h.First = 3; !ok || is != h {
			t.Errorf("the head %v, %v, want %v", is, ok, h)
		}
		checkRefound(t, fmt.Sprint(h), b, wantRefound(b))
	}
}

// TestRefoundKeepsTheShots: they lead where they did, and are read as they were.
func TestRefoundKeepsTheShots(t *testing.T) {
	b := withWord(inOrder(), 3, 0)
	checkLost(t, "the disk is lost", b, 5, 9)
	refound := impl.Refound(b)
	checkNames(t, "refound", refound, impl.NamesIn(b)...)
	for g := range int64(20) {
		for which := int64(1); which <= 2; which++ {
			if got, want := impl.ContentOf(refound, which, g), impl.ContentOf(b, which, g); !same(got, want) {
				t.Errorf("the cluster %d of %d is %v, and was %v", g, which, got, want)
			}
		}
	}
	checkRefound(t, "the disk is lost", b, append(withWord(b, 3, 15), 32773, 32777, 0, 0, 0, 0, 0, 0))
}

// TestRefoundOfEveryLength: all clusters are whole, and there is room up to 63.
func TestRefoundOfEveryLength(t *testing.T) {
	long := append(withWord(someDisk(), 3, 0), slices.Repeat([]int64{32769}, 472)...)
	for n := 3; n <= 512; n++ {
		what := fmt.Sprint(n, " words")
		checkRefound(t, what, long[:n], wantRefound(long[:n]))
		want := (n+7)/8*8 + 8
		if n > 504 {
			want = 0
		}
		if got := impl.Refound(long[:n]); len(got) != want {
			t.Errorf("%s: %d words are refound, want %d", what, len(got), want)
		}
	}
}

func TestRefoundAtItsLimits(t *testing.T) {
	lost := withWord(someDisk(), 3, 0)
	for _, c := range []struct{ many, want int }{{6, 7}, {7, 8}, {62, 63}, {63, 64}, {64, 0}} {
		b := append(slices.Clone(lost), make([]int64, 8*c.many-len(lost))...)
		if got := impl.Refound(b); len(got) != 8*c.want {
			t.Errorf("%d clusters: %d words are refound, want %d clusters", c.many, len(got), c.want)
		}
		checkRefound(t, fmt.Sprint(c.many, " clusters"), b, wantRefound(b))
		// One word is a cluster, and all but one, too.
		for _, short := range []int{1, 7} {
			checkRefound(t, fmt.Sprint(c.many, " clusters, of which the last lacks words"), b[:len(b)-short], wantRefound(b[:len(b)-short]))
		}
	}
	// That there is no room is no matter of what is lost, nor of First.
	for _, b := range [][]int64{someDisk(), laid(impl.Head{Size: 1}), withTables(64, 8)} {
		b = append(b, make([]int64, 512-len(b))...)
		checkRefound(t, "64 clusters", b, nil)
		checkRefound(t, "64 clusters, of which the last has one word", b[:505], nil)
		checkLost(t, "64 clusters", b, wantLost(b)...)
	}
}

// TestTheNewClusterIsNotThereYet: what leads to its number leads nowhere, and is
// no table for that.
func TestTheNewClusterIsNotThereYet(t *testing.T) {
	b := laid(impl.Head{Size: 16}, []int64{32772}, []int64{32769}, []int64{32771, 4})
	checkLost(t, "the number of the new one", b, 2)
	checkRefound(t, "the number of the new one", b, append(withWord(b, 3, 4), 32770, 0, 0, 0, 0, 0, 0, 0))
}

func TestScanningWithoutAHead(t *testing.T) {
	lost := withWord(someDisk(), 3, 0)
	lists := append(nearlyAllKinds(), headless()...)
	lists = append(lists, nil, []int64{}, make([]int64, 7), make([]int64, 512), make([]int64, 513), slices.Repeat([]int64{32769}, 64))
	for _, w := range [][2]int64{{0, 0}, {0, 20558}, {1, 4}, {2, 0}, {2, 65}, {6, 5}, {7, 1}, {3, -1}, {3, 65536}, {36, -1}, {36, 65536}, {47, 65536}} {
		lists = append(lists, withWord(lost, int(w[0]), w[1]))
	}
	lists = append(lists, append(slices.Clone(lost), make([]int64, 465)...), append(slices.Clone(lost), -1))
	for i, b := range lists {
		wantNoHead(t, "headless", b)
		for _, at := range append(oddNumbers(), 3, 4, 5, 6) {
			checkLike(t, fmt.Sprint("the list ", i), b, at, false)
		}
		if lost, got := impl.LostIn(b), impl.Refound(b); len(lost) != 0 || len(got) != 0 {
			t.Errorf("the list %d: LostIn is %v, what is refound is %v", i, lost, got)
		}
	}
}

// lostTables are of a broken image: it itself; it without First; and that with
// six more clusters, some of which are SecondLike.
func lostTables(b []int64) [][]int64 {
	without := withWord(b, 3, 0)
	more := filledUp(without)
	many := int64(len(more) / 8)
	for i := range int64(6) {
		more = append(more, 0, 32768+(b[8]+i)%(many+6), 0, (b[9]+i*i)%(many+7), 0, 0, 0, 32769)
	}
	return [][]int64{slices.Clone(b), without, more}
}

// TestScanningOfBrokenImages is promise 13 at large; and that there were images
// with none that are lost, with less of them than slots, as many, and more.
func TestScanningOfBrokenImages(t *testing.T) {
	met := make(map[string]int)
	brokenImages(2000, func(broken []int64) {
		for _, b := range lostTables(broken) {
			what := fmt.Sprint(b)
			roles, like, want := wantRoles(b), allLike(b), wantLost(b)
			for at := range int64(len(roles)) + 1 {
				checkLike(t, what, b, at, wantLike(b, roles, at))
			}
			checkLost(t, what, b, want...)
			checkRefound(t, what, b, wantRefound(b))
			switch slots := int(b[2]+7) / 8; {
			case len(like) == 0:
				met["none"]++
			case len(like) < slots:
				met["less"]++
			case len(like) == slots:
				met["as many"]++
			default:
				met["more"]++
			}
		}
	})
	for _, many := range []string{"none", "less", "as many", "more"} {
		if met[many] < 200 {
			t.Errorf("%s are met too seldom: %v", many, met)
		}
	}
}

func TestScanningAnswersEverywhere(t *testing.T) {
	headedImages(func(b []int64) {
		what := fmt.Sprint(len(b), " words")
		roles := wantRoles(b)
		for _, at := range oddNumbers() {
			checkLike(t, what, b, at, wantLike(b, roles, at))
		}
		checkLost(t, what, b, wantLost(b)...)
		checkRefound(t, what, b, wantRefound(b))
	})
}

func TestScanningLeavesItsArguments(t *testing.T) {
	images := append(headless(), allKinds(), allKinds()[:117], oneOfEach(), inOrder()[:83], withWord(inOrder(), 3, 0), withTables(20, 5), withTables(64, 12)[:203])
	for _, words := range images {
		b := guard(words)
		for _, at := range append(oddNumbers(), 3, 4, 5) {
			impl.SecondLike(b.list, at)
		}
		b.check(t, "SecondLike")
		spoil(impl.LostIn(b.list))
		b.check(t, "LostIn")
		spoil(impl.Refound(b.list))
		b.check(t, "Refound")
	}
}

// TestScanningAnswersAnew: an answer that somebody wrote over is not given again.
func TestScanningAnswersAnew(t *testing.T) {
	for _, b := range [][]int64{withWord(inOrder(), 3, 0), withTables(20, 5), withTables(64, 12)[:203], someDisk()} {
		lost, refound := impl.LostIn(b), impl.Refound(b)
		spoil(impl.LostIn(b))
		spoil(impl.Refound(b))
		if !same(lost, wantLost(b)) || !same(refound, wantRefound(b)) {
			t.Error("two answers share memory")
		}
		checkLost(t, "asked again", b, wantLost(b)...)
		checkRefound(t, "asked again", b, wantRefound(b))
	}
}
