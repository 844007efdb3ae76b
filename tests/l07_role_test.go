package tests

import (
	"fmt"
	"slices"
	"testing"

	"loop.example/g00821/impl"
)

func checkRoles(t *testing.T, what string, b []int64, want ...int64) {
	t.Helper()
	if got := impl.RolesIn(b); !same(got, want) {
		t.Errorf("%s: the roles\n%v, want\n%v", what, got, want)
	}
	checkGoodOrLoose(t, what, b)
}

func checkLoose(t *testing.T, what string, b []int64, want ...impl.Claim) {
	t.Helper()
	if got := impl.LooseIn(b); !slices.Equal(got, want) {
		t.Errorf("%s: the loose claims\n%v, want\n%v", what, got, want)
	}
	checkGoodOrLoose(t, what, b)
}

// checkGoodOrLoose is promise 7: the loose claims, each where it was among all
// of them, leave the Good ones over; and a cluster has a role just where one of
// these leads to it, and the role of each that does.
func checkGoodOrLoose(t *testing.T, what string, b []int64) {
	t.Helper()
	roles, loose := impl.RolesIn(b), impl.LooseIn(b)
	if len(roles) != wantMany(b) {
		t.Fatalf("%s: %d roles of %d clusters", what, len(roles), wantMany(b))
	}
	led := make([]bool, len(roles))
	for _, c := range impl.ClaimsIn(b) {
		if !c.Good {
			if len(loose) == 0 || loose[0] != c {
				t.Fatalf("%s: %v is neither Good nor the next of the loose %v", what, c, loose)
			}
			loose = loose[1:]
			continue
		}
		led[c.Target] = true
		if roles[c.Target] != c.Kind {
			t.Fatalf("%s: the role of %d is %d, and %v is Good", what, c.Target, roles[c.Target], c)
		}
	}
	if len(loose) != 0 {
		t.Fatalf("%s: %v are loose and no claims", what, loose)
	}
	for at, role := range roles {
		if (role != 0) != led[at] {
			t.Fatalf("%s: the role of %d is %d, is it led to: %v", what, at, role, led[at])
		}
	}
}

// wantRoles and wantLoose tell both by the other telling of the claims.
func wantRoles(b []int64) []int64 {
	roles := make([]int64, wantMany(b))
	for _, c := range wantClaims(b) {
		if c.Good {
			roles[c.Target] = c.Kind
		}
	}
	return roles
}

func wantLoose(b []int64) []impl.Claim {
	return slices.DeleteFunc(wantClaims(b), func(c impl.Claim) bool { return c.Good })
}

func TestRolesOfOrdinaryDisks(t *testing.T) {
	disk := someDisk()
	checkRoles(t, "a disk", disk, 1, 2, 3, 4, 7, 8)
	checkLoose(t, "a disk", disk)
	empty := laid(impl.Head{Size: 8, First: 1, Refs: 2}, nil, []int64{3}, []int64{1, 1, 1, 1})
	checkRoles(t, "an empty disk", empty, 1, 2, 3, 4)
	checkLoose(t, "an empty disk", empty)
	shot := laid(impl.Head{Size: 20, First: 7, Refs: 6, Shots: 2, Many: 1}, []int64{4}, []int64{99, 1}, []int64{9}, []int64{0, 0, 3}, nil, []int64{5}, []int64{4})
	checkRoles(t, "a disk and a Shot of it, the other way round", shot, 1, 6, 5, 8, 7, 4, 3, 2)
	checkLoose(t, "a disk and a Shot of it, the other way round", shot)
}

func TestRolesOfEachKind(t *testing.T) {
	checkRoles(t, "one of each", oneOfEach(), impl.ClHead, impl.ClFirst, impl.ClRefs, impl.ClBlock, impl.ClShots, impl.ClShot, impl.ClSecond, impl.ClData, 0)
	checkRoles(t, "several of some", allKinds(), 1, 2, 3, 4, 5, 6, 6, 7, 7, 7, 8, 8, 8, 4, 0)
	checkLoose(t, "several of some", allKinds())
	// Each of the kinds leads to the last cluster, in turn.
	for _, w := range whoTells() {
		roles := impl.RolesIn(withWord(oneOfEach(), w.at, 8))
		if len(roles) != 9 || roles[8] != w.kind || roles[w.kind-1] != 0 {
			t.Errorf("the kind %d at the last cluster: the roles %v", w.kind, roles)
		}
	}
}

func TestClustersWithoutARole(t *testing.T) {
	b := laid(impl.Head{Size: 64, First: 3, Refs: 6}, nil, []int64{3, 3, 3}, []int64{0, 9}, nil, nil, nil, []int64{7, 3, 8, 8, 2}, nil, []int64{11}, nil, nil, []int64{1, 2, 3}, nil)
	checkRoles(t, "between others and at the end", b, 1, 0, 0, 2, 0, 0, 3, 0, 0, 7, 0, 8, 0, 0)
	checkLoose(t, "between others and at the end", b)
	b = laid(impl.Head{Size: 64, First: 63, Refs: 1}, make([][]int64, 63)...)
	want := make([]int64, 64)
	want[0], want[1], want[63] = 1, 3, 2
	checkRoles(t, "all but three", b, want...)
	checkRoles(t, "all but two, and the last one is not there", b[:504], append([]int64{1, 3}, make([]int64, 61)...)...)
	// Where there is none whose target is there, the head is all.
	b = laid(impl.Head{Size: 64}, make([][]int64, 63)...)
	checkRoles(t, "all but the head", b, append([]int64{1}, make([]int64, 63)...)...)
	for n := 3; n <= 8; n++ {
		checkRoles(t, "the head alone", b[:n], 1)
	}
}

// TestRolesThatSeveralLeadTo: how many Good claims lead to a cluster does not
// matter, nor does a loose one among them.
func TestRolesThatSeveralLeadTo(t *testing.T) {
	checkRoles(t, "a cluster of the disk, 64 times", fullDisk(64), 1, 2, 7, 7, 7, 7, 7, 7, 7, 7, 8, 3)
	checkLoose(t, "a cluster of the disk, 64 times", fullDisk(64))
	checkRoles(t, "a second table of two", twoFirsts([]int64{0, 5}, []int64{0, 5}), 1, 2, 3, 5, 6, 7, 0, 0, 8)
	checkLoose(t, "a second table of two", twoFirsts([]int64{0, 5}, []int64{0, 5}))
	mixed := twoFirsts([]int64{0, 5, 5}, []int64{5, 5, 5})
	checkRoles(t, "loose ones between Good ones", mixed, 1, 2, 3, 5, 6, 7, 0, 0, 8)
	checkLoose(t, "loose ones between Good ones", mixed, looseClaim(7, 1, 2, 16, 5), looseClaim(7, 4, 0, 0, 5), looseClaim(7, 4, 2, 16, 5))
	b := fullDisk(63)
	checkRoles(t, "63 Good ones and a loose one", b, 1, 2, 7, 7, 7, 7, 7, 7, 7, 7, 8, 3)
	checkLoose(t, "63 Good ones and a loose one", b, looseClaim(8, 9, 7, 63, 10))
}

// TestLooseClaimsOfARole is of each two kinds of one target: the role is that
// of the one ahead, and the one behind is told as loose.
func TestLooseClaimsOfARole(t *testing.T) {
	tellers := whoTells()
	for i, ahead := range tellers {
		for _, behind := range tellers[i+1:] {
			target := ahead.kind - 1
			what := fmt.Sprintf("the kinds %d and %d", ahead.kind, behind.kind)
			b := withWord(oneOfEach(), behind.at, target)
			if roles := impl.RolesIn(b); len(roles) != 9 || roles[target] != ahead.kind || roles[behind.kind-1] != 0 {
				t.Errorf("%s: the roles %v", what, roles)
			}
			if loose := impl.LooseIn(b); !slices.Contains(loose, behind.claim(target, false)) {
				t.Errorf("%s: the loose claims %v", what, loose)
			}
			checkGoodOrLoose(t, what, b)
		}
	}
	// No claim can lead to the head: a target of 0 is none.
	b := laid(impl.Head{Size: 8, Many: 1})
	checkRoles(t, "the head", b, 1)
	checkLoose(t, "the head", b, looseClaim(2, 0, 0, 0, 0), looseClaim(3, 0, 0, 0, 0), looseClaim(5, 0, 0, 0, 0))
}

// TestClustersThatOnlyLooseClaimsLeadTo: they have no role, though they are
// there.
func TestClustersThatOnlyLooseClaimsLeadTo(t *testing.T) {
	b := laid(impl.Head{Size: 8, First: 1, Refs: 2}, []int64{0, 3, 4}, nil, []int64{5}, nil, nil)
	checkRoles(t, "second tables past the end", b, 1, 2, 3, 0, 0, 0)
	checkLoose(t, "second tables past the end", b, looseClaim(7, 1, 1, 8, 3), looseClaim(7, 1, 2, 16, 4))
	b = laid(impl.Head{Size: 3, First: 1, Refs: 2}, []int64{3}, nil, []int64{0, 0, 5, 4, 0, 4}, nil, nil)
	checkRoles(t, "clusters past the end", b, 1, 2, 3, 7, 0, 8)
	checkLoose(t, "clusters past the end", b, looseClaim(8, 3, 3, 3, 4), looseClaim(8, 3, 5, 5, 4))
	b[2] = 6
	checkRoles(t, "clusters that are not past the end", b, 1, 2, 3, 7, 8, 8)
	// What such a table has in it is led to by nobody, and makes no claim.
	b = laid(impl.Head{Size: 8, First: 1, Refs: 1, Shots: 1, Many: 4}, []int64{0, 2}, []int64{3, 4}, nil, nil)
	checkRoles(t, "all but the first table", b, 1, 2, 0, 0, 0)
	checkLoose(t, "all but the first table", b, looseClaim(3, 0, 0, 0, 1), looseClaim(5, 0, 0, 0, 1), looseClaim(7, 1, 1, 8, 2))
}

func TestRolesOfTargetsThatAreNotThere(t *testing.T) {
	for _, w := range whoTells() {
		for _, target := range []int64{9, 10, 63, 64, 255, 32767} {
			what := fmt.Sprintf("the kind %d of %d", w.kind, target)
			b := withWord(oneOfEach(), w.at, target)
			if roles := impl.RolesIn(b); len(roles) != 9 || slices.Contains(roles, w.kind) {
				t.Errorf("%s: the roles %v", what, roles)
			}
			if loose := impl.LooseIn(b); !slices.Contains(loose, w.claim(target, false)) {
				t.Errorf("%s: the loose claims %v", what, loose)
			}
			checkGoodOrLoose(t, what, b)
		}
	}
}

// TestLooseClaimsInOrder: of each kind that can be loose, in two images, since
// what a loose claim leads to is not gone into.
func TestLooseClaimsInOrder(t *testing.T) {
	b := laid(impl.Head{Size: 12, First: 0, Refs: 1, Shots: 2, Many: 4},
		[]int64{3, 0, 9, 3, 32777}, []int64{91, 9, 92, 4, 93, 0, 94, 65535}, nil, []int64{5, 2, 5, 32767}, []int64{6, 1, 0, 0, 6, 4, 99}, nil)
	checkRoles(t, "First, blocks, Shots of them, second tables, the disk", b, 1, 3, 5, 4, 6, 7, 8)
	checkLoose(t, "First, blocks, Shots of them, second tables, the disk", b,
		looseClaim(2, 0, 0, 0, 0),
		looseClaim(4, 1, 2, 0, 9), looseClaim(4, 1, 3, 0, 3), looseClaim(4, 1, 4, 0, 9),
		looseClaim(6, 2, 0, 0, 9), looseClaim(6, 2, 2, 0, 0), looseClaim(6, 2, 3, 0, 65535),
		looseClaim(7, 4, 1, 8, 2), looseClaim(7, 4, 2, 16, 5), looseClaim(7, 4, 3, 24, 32767),
		looseClaim(8, 5, 1, 1, 1), looseClaim(8, 5, 5, 5, 4), looseClaim(8, 5, 6, 6, 99))
	b = laid(impl.Head{Size: 12, First: 1, Refs: 7, Shots: 1, Many: 4}, []int64{0, 2, 3}, []int64{4, 0, 0, 0, 4, 9}, nil, nil)
	checkRoles(t, "Refs, Shots, a second table, the disk", b, 1, 2, 7, 0, 8)
	checkLoose(t, "Refs, Shots, a second table, the disk", b,
		looseClaim(3, 0, 0, 0, 7), looseClaim(5, 0, 0, 0, 1), looseClaim(7, 1, 2, 16, 3), looseClaim(8, 2, 4, 12, 4), looseClaim(8, 2, 5, 13, 9))
	// The same loose claim is told as often as it is made.
	shared := twoFirsts([]int64{5}, []int64{5})
	shared[41] = 9
	checkLoose(t, "a second table of two", shared, looseClaim(8, 5, 1, 1, 9), looseClaim(8, 5, 1, 1, 9))
}

func TestRolesWhereFirstAndRefsAreZero(t *testing.T) {
	b := laid(impl.Head{Size: 64, First: 1, Refs: 2}, []int64{4}, []int64{3}, nil, []int64{5}, nil)
	checkRoles(t, "none", b, 1, 2, 3, 4, 7, 8)
	checkRoles(t, "First", withWord(b, 3, 0), 1, 0, 3, 4, 0, 0)
	checkLoose(t, "First", withWord(b, 3, 0), looseClaim(2, 0, 0, 0, 0))
	checkRoles(t, "Refs", withWord(b, 4, 0), 1, 2, 0, 0, 7, 8)
	checkLoose(t, "Refs", withWord(b, 4, 0), looseClaim(3, 0, 0, 0, 0))
	both := withWord(withWord(b, 3, 0), 4, 0)
	checkRoles(t, "both", both, 1, 0, 0, 0, 0, 0)
	checkLoose(t, "both", both, looseClaim(2, 0, 0, 0, 0), looseClaim(3, 0, 0, 0, 0))
}

func TestRolesWithoutAHead(t *testing.T) {
	for i, b := range nearlyAllKinds() {
		wantNoHead(t, "headless", b)
		if roles, loose := impl.RolesIn(b), impl.LooseIn(b); len(roles) != 0 || len(loose) != 0 {
			t.Errorf("the list %d: the roles %v, the loose claims %v", i, roles, loose)
		}
	}
	// 512 words are the most there can be.
	checkRoles(t, "512 words", append(allKinds(), make([]int64, 392)...),
		append([]int64{1, 2, 3, 4, 5, 6, 6, 7, 7, 7, 8, 8, 8, 4}, make([]int64, 50)...)...)
}

// TestRolesOfALastClusterThatLacksWords: one word makes it a cluster, and what
// it lacks leads to nobody, though words stand in the spare room behind.
func TestRolesOfALastClusterThatLacksWords(t *testing.T) {
	whole := laid(impl.Head{Size: 64, First: 1, Refs: 2}, []int64{4}, nil, nil, []int64{9, 32771, 0, 3, 0, 0, 0, 4})
	checkLoose(t, "the whole cluster", whole, looseClaim(8, 4, 0, 0, 9), looseClaim(8, 4, 7, 7, 4))
	for n := 34; n < 40; n++ {
		checkRoles(t, fmt.Sprint(n, " words"), whole[:n], 1, 2, 3, 8, 7)
		checkLoose(t, fmt.Sprint(n, " words"), whole[:n], looseClaim(8, 4, 0, 0, 9))
	}
	checkRoles(t, "33 words", whole[:33], 1, 2, 3, 0, 7)
	checkRoles(t, "32 words", whole[:32], 1, 2, 3, 0)
	checkLoose(t, "32 words", whole[:32], looseClaim(7, 1, 0, 0, 4))
	checkRoles(t, "a word behind", append(slices.Clone(whole), 1), 1, 2, 3, 8, 7, 0)
}

// TestRolesOfBrokenImages is promise 7 at large, and that each role (and none)
// was met, and each kind that can be loose.
func TestRolesOfBrokenImages(t *testing.T) {
	var roles, loose [9]int
	brokenImages(20000, func(b []int64) {
		if got, want := impl.RolesIn(b), wantRoles(b); !same(got, want) {
			t.Fatalf("%v: the roles\n%v, want\n%v", b, got, want)
		}
		if got, want := impl.LooseIn(b), wantLoose(b); !slices.Equal(got, want) {
			t.Fatalf("%v: the loose claims\n%v, want\n%v", b, got, want)
		}
		checkGoodOrLoose(t, fmt.Sprint(b), b)
		for _, role := range impl.RolesIn(b) {
			roles[role]++
		}
		for _, c := range impl.LooseIn(b) {
			loose[c.Kind]++
		}
	})
	if slices.Min(roles[:]) < 1000 || slices.Min(loose[2:]) < 1000 || loose[1] != 0 {
		t.Errorf("some are met too seldom: the roles %v, the loose %v", roles, loose)
	}
}

func TestRolesAnswerEverywhere(t *testing.T) {
	headedImages(func(b []int64) {
		checkRoles(t, fmt.Sprint(len(b), " words"), b, wantRoles(b)...)
		checkLoose(t, fmt.Sprint(len(b), " words"), b, wantLoose(b)...)
	})
}

func TestRolesLeaveTheirArguments(t *testing.T) {
	for _, words := range append(headless(), allKinds(), allKinds()[:117], oneOfEach(), fullDisk(20)) {
		b := guard(words)
		spoil(impl.RolesIn(b.list))
		b.check(t, "roles")
		spoilClaims(impl.LooseIn(b.list))
		b.check(t, "loose claims")
	}
}

// TestRolesAnswerAnew: an answer that somebody wrote over is not given again.
func TestRolesAnswerAnew(t *testing.T) {
	b := withWord(oneOfEach(), 51, 99)
	roles, loose := impl.RolesIn(b), impl.LooseIn(b)
	spoil(impl.RolesIn(b))
	spoilClaims(impl.LooseIn(b))
	if !same(roles, wantRoles(b)) || !slices.Equal(loose, wantLoose(b)) {
		t.Error("two answers share memory")
	}
	checkRoles(t, "asked again", b, wantRoles(b)...)
	checkLoose(t, "asked again", b, wantLoose(b)...)
}
