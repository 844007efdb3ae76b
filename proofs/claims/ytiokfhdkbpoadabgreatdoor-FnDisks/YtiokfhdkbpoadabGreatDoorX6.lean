/- Errors (chapter 11): the program's side: an error of each kind (wrongBy), and the rows of them that are told without going into tables. Errors (chapter 11): the program's side: loose claims, and counts that are wrong. Words that are not as they must be, as the program tells them (pure). The words of a table as they must be, as the program tells them. Plain mathematics. Whether a list of claims has one that a function asks for (slices.ContainsFunc), for the two functions that the program asks with. The iterator over the good claims, ahead of a body that appends to a row in a box: each cell stays but those of the box and of the row. The tables that are gone into (tablesGoneInto): the program's side. Three passes over the iterator, each a round of a loop. -/
import Derived.Test.YtiokfhdkbpoadabGreatDoorY4
import Derived.Test.YtiokfhdkbpoadabGreatDoorY2
import Derived.Test.YtiokfhdkbpoadabGreatDoorX2
import Derived.Test.YtiokfhdkbpoadabGreatDoorH1
import Derived.Test.YtiokfhdkbpoadabGreatDoorX1
import Derived.Test.YtiokfhdkbpoadabGreatDoorQ1
import Derived.RangeFuncBox
namespace Go.Proofs.YtiokfhdkbpoadabGreatDoor
open Go.RowKit
open Go.RowKit Go.Shelf

/-- What the program's package-level variables hold: three errors. -/
structure GlE (W : World) (aN aM aG : Addr) : Prop where
  size : 3 ≤ W.heap.size
  noImg : W.cell? ⟨0, 0, none⟩ = some (.iface 152 (.pointer (some aN)))
  mild : W.cell? ⟨2, 0, none⟩ = some (.iface 152 (.pointer (some aM)))
  grave : W.cell? ⟨1, 0, none⟩ = some (.iface 152 (.pointer (some aG)))
theorem GlE.below {W W' : World} {aN aM aG : Addr} {B : Nat} (h : GlE W aN aM aG) (hb : Below B W W') (hB : 3 ≤ B) : GlE W' aN aM aG :=
  ⟨by have := hb.size; have := h.size; omega, (World.cell?_of_block (hb.block 0 (by omega))).trans h.noImg, (World.cell?_of_block (hb.block 2 (by omega))).trans h.mild, (World.cell?_of_block (hb.block 1 (by omega))).trans h.grave⟩

def weightA (aM aG : Addr) (k : Int) : Addr := if k = 6 ∨ k = 7 then aM else aG
/-- A defect as the error that it is told by. -/
def erV (aM aG : Addr) (x : Dc) : Value := .iface 121 (.agg #[.int .i64 x.kind, .int .i64 x.a, .int .i64 x.b, .iface 152 (.pointer (some (weightA aM aG x.kind)))])
theorem infoEr : (Tryz.prog.info? 96).map (fun i => (i.zero, i.size, i.bytes)) = some (some .nilIface, 1, 16) := by kernel_rfl

/-- It answers a new row of errors. -/
def RetE (aM aG : Addr) (w : World) (l : List Dc) : Ending → World → Prop := RetR 96 1 w l.length (l.map (erV aM aG))
theorem ers_one (aM aG : Addr) (l : List Dc) : ∀ u ∈ l.map (erV aM aG), u.oneCell' = true := by
  intro u hu
  rw [List.mem_map] at hu
  obtain ⟨x, _, rfl⟩ := hu
  rfl
theorem RetE.nil (aM aG : Addr) (w w' : World) (hb : Below w.heap.size w w') : RetE aM aG w [] (.returned (.slice none 0 0)) w' := ⟨none, 0, rfl, OwR.nil _ _ _ _ _, hb⟩
/-- One error in a row of its own. -/
theorem RetE.one (aM aG : Addr) (w w1 : World) (x : Dc) (hb : Below w.heap.size w w1) : RetE aM aG w [x] (.returned (.slice (some ⟨w1.heap.size, 0, none⟩) 1 1)) (w1.alloc (.cells #[erV aM aG x] 96)) :=
  ⟨_, 1, rfl, (madeV 96 1 w1 #[erV aM aG x] 1 w.heap.size (w1.alloc (.cells #[erV aM aG x] 96)).heap.size w1.heap.size hb.size rfl (by simp) (by omega) (by simp)).toR, hb.alloc hb.size _⟩

set_option maxHeartbeats 1000000 in
theorem wrongBy_any {aN aM aG : Addr} (k a b : Int) (w : World) (hG : GlE w aN aM aG) : Calls Tryz.prog 97 #[.int .i64 k, .int .i64 a, .int .i64 b] w fun e w' => e = .returned (erV aM aG ⟨k, a, b⟩) ∧ w = w' := by
  have g1 := hG.mild
  have g2 := hG.grave
  by_cases h6 : k = 6
  · have HW : Hid (weightA aM aG k = aM) := if_pos (.inl h6)
    subst h6
    unfold erV
    go_enter Tryz.func97, Tryz.ntmps97
    go_wp2
    go_ret
    exact ⟨by rw [HW.out]; rfl, rfl⟩
  by_cases h7 : k = 7
  · have HW : Hid (weightA aM aG k = aM) := if_pos (.inr h7)
    subst h7
    unfold erV
    go_enter Tryz.func97, Tryz.ntmps97
    go_wp2
    go_ret
    exact ⟨by rw [HW.out]; rfl, rfl⟩
  have HW : Hid (weightA aM aG k = aG) := if_neg (by omega)
  have d6 : (k == 6) = false := by simpa using h6
  have d7 : (k == 7) = false := by simpa using h7
  unfold erV
  go_enter Tryz.func97, Tryz.ntmps97
  go_wp2
  go_ret
  exact ⟨by rw [HW.out]; rfl, rfl⟩

theorem wrongLength_any {aN aM aG : Addr} (A : Option Addr) (n c : Nat) (xs : List Int) (w : World) (hG : GlE w aN aM aG) (hl : xs.length = n) (hn : n ≤ 2097152) : Calls Tryz.prog 99 #[.slice A n c] w (RetE aM aG w (d1L xs)) := by
  by_cases h8 : n % 8 = 0
  · have HD : Hid (d1L xs = []) := by unfold d1L; rw [hl, if_neg (by omega)]; exact rfl
    have hm : ((n : Int) % 8 == 0) = true := by simp; omega
    clear h8
    go_enter Tryz.func99, Tryz.ntmps99
    go_wp2_with fail
    go_ret
    rw [HD.out]
    exact RetE.nil _ _ _ _ (Below.refl _ _)
  · have HD : Hid (d1L xs = [⟨2, n, 0⟩]) := by unfold d1L; rw [hl, if_pos (by omega)]; exact rfl
    have hm : ((n : Int) % 8 == 0) = false := by simp; omega
    clear h8
    go_enter Tryz.func99, Tryz.ntmps99
    go_wp2_with fail
    refine (wrongBy_any _ _ _ _ hG).mono ?_
    rintro e w' ⟨rfl, rfl⟩
    have hR := RetE.one aM aG w w ⟨2, n, 0⟩ (Below.refl _ _)
    unfold erV at hR ⊢
    go_wp2_with fail
    go_ret
    rw [HD.out]
    exact hR

/-- Many 0 and Shots not 0. -/
def shotD (h : Hd) : List Dc := if h.many = 0 ∧ h.shots ≠ 0 then [⟨4, h.shots, 0⟩] else []

set_option maxHeartbeats 1000000 in
theorem wrongShots_any {aN aM aG : Addr} (s f r u m : Int) (w : World) (hG : GlE w aN aM aG) : Calls Tryz.prog 101 #[.agg #[.int .i64 s, .int .i64 f, .int .i64 r, .int .i64 u, .int .i64 m]] w (RetE aM aG w (shotD ⟨s, f, r, u, m⟩)) := by
  have b1 := (Below.refl w.heap.size w).alloc (Nat.le_refl _) (.cells #[.int .i64 s, .int .i64 f, .int .i64 r, .int .i64 u, .int .i64 m] 33)
  have hG1 := hG.below b1 hG.size
  by_cases hm : m = 0
  · by_cases hu : u = 0
    · have HD : Hid (shotD ⟨s, f, r, u, m⟩ = []) := if_neg (fun h => h.2 hu)
      subst hm
      subst hu
      go_enter Tryz.func101, Tryz.ntmps101
      go_wp2_with fail
      go_ret
      rw [HD.out]
      exact RetE.nil _ _ _ _ b1
    · have HD : Hid (shotD ⟨s, f, r, u, m⟩ = [⟨4, u, 0⟩]) := if_pos ⟨hm, hu⟩
      have du : (u == 0) = false := by simpa using hu
      subst hm
      clear hu
      go_enter Tryz.func101, Tryz.ntmps101
      go_wp2_with fail
      refine (wrongBy_any _ _ _ _ hG1).mono ?_
      rintro e w' ⟨rfl, rfl⟩
      have hR := RetE.one aM aG w _ ⟨4, u, 0⟩ b1
      unfold erV at hR ⊢
      go_wp2_with fail
      go_ret
      rw [HD.out]
      simpa using hR
  · have HD : Hid (shotD ⟨s, f, r, u, m⟩ = []) := if_neg (fun h => hm h.1)
    have dm : (m != 0) = true := by simpa using hm
    clear hm
    go_enter Tryz.func101, Tryz.ntmps101
    go_wp2_with fail
    go_ret
    rw [HD.out]
    exact RetE.nil _ _ _ _ b1

set_option maxRecDepth 100000 in
set_option maxHeartbeats 4000000 in
theorem wrongClaims_any (hL : LooseC) {aN aM aG : Addr} (A : Option Addr) (n c : Nat) (xs : List Int) (w : World) (hG : GlE w aN aM aG) (hr : Rd w w.heap.size A n xs) (hn : n ≤ 2097152) (hnc : n ≤ c) :
    Calls Tryz.prog 100 #[.slice A n c] w (RetE aM aG w ((looseL xs).map looseD)) := by
  obtain ⟨i0, hi0, hz0, hz1, hz2⟩ := info_parts infoEr
  go_enter Tryz.func100, Tryz.ntmps100
  go_wp2_with fail
  refine (hL A n c xs w hr hn hnc).mono ?_
  rintro e w2 ⟨G, cg, rfl, oG, b2⟩
  have hll := looseL_length xs
  have hG2 := hG.below b2 hG.size
  have hGB := hG2.size
  have HG := Lib.hid oG
  have HB := Lib.hid b2
  have sb2 := b2.size
  clear oG b2 hr hG
  generalize looseL xs = l at *
  generalize hw2 : w2.heap.size = B at *
  go_wp2_with fail
  go_loopw [3, 9] (fun v i wr => ∃ (k : Nat) (A' : Option Addr) (c' : Nat), k ≤ l.length ∧ i = .int .i64 k ∧ v = .slice A' k c' ∧
    OwR 96 1 wr B wr.heap.size A' k c' ((l.take k).map (fun x => erV aM aG (looseD x))) ∧ Below B w2 wr) (fun _ i _ => l.length - (intOf i).toNat)
  case atStart => exact ⟨0, none, 0, Nat.zero_le _, rfl, rfl, OwR.nil _ _ _ _ _, Below.refl _ _⟩
  case round =>
    obtain ⟨k, A', c', hk, rfl, rfl, hok, hg⟩ := hrel
    have sr := hg.size
    by_cases hlt : k < l.length
    · obtain ⟨g, rfl, hg1, hg2, hg3, hce⟩ := cmr_cells HG.out hlt
      have hce := hce wr (hg.block g (by omega))
      have HS : Hid ((l.take (k + 1)).map (fun x => erV aM aG (looseD x)) = (l.take k).map (fun x => erV aM aG (looseD x)) ++ [erV aM aG (looseD (l.getD k cm0))]) := by
        rw [List.take_succ_eq_append_getElem hlt, show l.getD k cm0 = l[k] by simp [List.getD_eq_getElem?_getD, hlt], List.map_append]
        exact rfl
      generalize (l.take k).map (fun x => erV aM aG (looseD x)) = fs at *
      generalize l.getD k cm0 = x at *
      obtain ⟨xk, xf, xs', xp, xt, xg⟩ := x
      have e0 : wr.cell? ⟨g, k * 6, none⟩ = some (.int .i64 xk) := hce 0 (by omega)
      have e1 : wr.cell? ⟨g, k * 6 + 1, none⟩ = some (.int .i64 xf) := hce 1 (by omega)
      have e2 : wr.cell? ⟨g, k * 6 + 2, none⟩ = some (.int .i64 xs') := hce 2 (by omega)
      have e3 : wr.cell? ⟨g, k * 6 + 3, none⟩ = some (.int .i64 xp) := hce 3 (by omega)
      have e4 : wr.cell? ⟨g, k * 6 + 4, none⟩ = some (.int .i64 xt) := hce 4 (by omega)
      have e5 : wr.cell? ⟨g, k * 6 + 5, none⟩ = some (.bool xg) := hce 5 (by omega)
      clear hce
      have hok1 := hok.grown (World.grownBy_alloc wr (.cells #[.int .i64 xk, .int .i64 xf, .int .i64 xs', .int .i64 xp, .int .i64 xt, .bool xg] 115) none) (fun _ h => by cases h)
      have hg1' := hg.alloc (by omega) (.cells #[.int .i64 xk, .int .i64 xf, .int .i64 xs', .int .i64 xp, .int .i64 xt, .bool xg] 115)
      have hG3 := hG2.below hg1' hGB
      go_wp2_with fail
      refine (wrongBy_any _ _ _ _ hG3).mono ?_
      rintro e w' ⟨rfl, rfl⟩
      unfold erV
      go_wp2_with (at_builtin; refine wpList_append_r rfl (.tmp 13) (.tmp 19) 69 rfl 96 1 16 _ i0 Tryz.underlying69 hi0 hz0 hz1 hz2 rfl (by omega) (by omega) B wr.heap.size k c' A' _ rfl hok1 #[erV aM aG ⟨3, xk, xt⟩] 1 1 (wr.heap.size + 1) (by simp) rfl (by omega) rfl (by simp [Value.oneCell', erV]) (by omega) (by simp; omega) ?_; intro g2 cd w5 ho5 hb5)
      go_roundw
      case rel =>
        refine ⟨k + 1, some ⟨g2, 0, none⟩, cd, by omega, by go_num, rfl, ?_, hg1'.trans hb5⟩
        rw [HS.out]
        exact ho5
      case measure => simp [intOf]; omega
    · obtain rfl : k = l.length := by omega
      go_wp2_with fail
      go_ret
      rw [List.take_length] at hok
      unfold RetE
      rw [List.length_map, List.map_map]
      exact ⟨A', c', rfl, hok.more (by omega) (Nat.le_refl _), HB.out.trans (hg.mono (by omega))⟩

set_option maxRecDepth 100000 in
set_option maxHeartbeats 8000000 in
theorem wrongCounts_any (hS : StoredC) (hCo : CountsC) {aN aM aG : Addr} (A : Option Addr) (n c : Nat) (xs : List Int) (w : World) (hG : GlE w aN aM aG) (hr : Rd w w.heap.size A n xs) (hn : n ≤ 2097152) (hnc : n ≤ c) (hh : hasHead xs = true) :
    Calls Tryz.prog 102 #[.slice A n c] w (RetE aM aG w (cntDefs (storedL xs) (countsC (claimsC xs)))) := by
  obtain ⟨i0, hi0, hz0, hz1, hz2⟩ := info_parts infoEr
  have HH := Lib.hid hh
  clear hh
  go_enter Tryz.func102, Tryz.ntmps102
  go_wp2_with fail
  refine (hS A n c xs w hr hn hnc).mono ?_
  rintro e w2 ⟨S, ns, c2, rfl, os, b2⟩
  obtain rfl : 64 = ns := by
    have := os.len
    unfold storedL at this
    rw [HH.out, if_pos rfl, storedC_length] at this
    exact this
  rcases os.form with ⟨_, h0, _⟩ | ⟨gs, rfl, g1, g2, g3, g4⟩
  · omega
  have hs2 := b2.size
  go_wp2_with fail
  refine (hCo A n c xs w2 ((hr.below b2).more b2.size) hn hnc).mono ?_
  rintro e w3 ⟨C, nc, c3, rfl, oc, b3⟩
  have hce : countsL xs = countsC (claimsC xs) := by unfold countsL; rw [HH.out]; rfl
  rw [hce] at oc
  obtain rfl : 64 = nc := by have := oc.len; rw [counts_length] at this; exact this
  rcases oc.form with ⟨_, h0, _⟩ | ⟨gc, rfl, k1, k2, k3, k4⟩
  · omega
  have hs3 := b3.size
  have b03 := below_more b2 b3 b2.size
  have hG3 := hG.below b03 hG.size
  have hGB := hG3.size
  have HCC := Lib.hid (fun (j : Nat) (hj : j < 64) => oc.cell hj)
  have HCS := Lib.hid (fun (j : Nat) (hj : j < 64) => (os.below b3 (Nat.le_refl _)).cell hj)
  have HB := Lib.hid b03
  clear b3 os oc b2 b03 hce hr hG
  generalize storedL xs = st at *
  generalize countsC (claimsC xs) = ct at *
  generalize hw3 : w3.heap.size = B at *
  go_wp2_with fail
  go_loopw [3, 12] (fun v i wr => ∃ (k : Nat) (A' : Option Addr) (c' : Nat), k ≤ 64 ∧ i = .int .i64 k ∧ v = .slice A' ((List.range k).foldl (cdStep st ct) []).length c' ∧
    OwR 96 1 wr B wr.heap.size A' ((List.range k).foldl (cdStep st ct) []).length c' (((List.range k).foldl (cdStep st ct) []).map (erV aM aG)) ∧ Below B w3 wr) (fun _ i _ => 64 - (intOf i).toNat)
  case atStart => exact ⟨0, none, 0, Nat.zero_le _, rfl, rfl, OwR.nil _ _ _ _ _, Below.refl _ _⟩
  case round =>
    obtain ⟨k, A', c', hk, rfl, rfl, hok, hg⟩ := hrel
    have sr := hg.size
    by_cases hlt : k < 64
    · have HR := Lib.hid (range_fold (cdStep st ct) [] k)
      have HL : Hid (((List.range k).foldl (cdStep st ct) []).length ≤ 64) := by
        have h1 := foldl_length (cdStep st ct) 1 (cdStep_length st ct) (List.range k) []
        simp at h1
        show _ ≤ _
        omega
      have hokl := HL.out
      generalize (List.range k).foldl (cdStep st ct) [] = ok at *
      have hcs : wr.cell? ⟨gs, k, none⟩ = some (.int .i64 (st.getD k 0)) := (World.cell?_of_block (hg.block gs (by omega))).trans (HCS.out k hlt)
      have hcc : wr.cell? ⟨gc, k, none⟩ = some (.int .i64 (ct.getD k 0)) := (World.cell?_of_block (hg.block gc (by omega))).trans (HCC.out k hlt)
      have HS : Hid (cdStep st ct ok k = if st.getD k 0 < ct.getD k 0 then ok ++ [⟨5, k, st.getD k 0⟩] else (if ct.getD k 0 < st.getD k 0 then ok ++ [⟨6, k, st.getD k 0⟩] else ok)) := rfl
      generalize st.getD k 0 = x at *
      generalize ct.getD k 0 = y at *
      have hG4 := hG3.below hg hGB
      by_cases h1 : x < y
      · have HE : Hid (cdStep st ct ok k = ok ++ [⟨5, k, x⟩]) := by rw [HS.out, if_pos h1]; exact rfl
        have d1 : decide (x < y) = true := by simpa using h1
        clear HS h1
        go_wp2_with fail
        refine (wrongBy_any _ _ _ _ hG4).mono ?_
        rintro e w' ⟨rfl, rfl⟩
        unfold erV
        go_wp2_with (at_builtin; refine wpList_append_r rfl (.tmp 24) (.tmp 31) 69 rfl 96 1 16 _ i0 Tryz.underlying69 hi0 hz0 hz1 hz2 rfl (by omega) (by omega) B wr.heap.size ok.length c' A' _ rfl hok #[erV aM aG ⟨5, k, x⟩] 1 1 wr.heap.size rfl rfl (by omega) rfl (by simp [Value.oneCell', erV]) (by omega) (by omega) ?_; intro g2 cd w5 ho5 hb5)
        go_roundw
        case rel =>
          refine ⟨k + 1, some ⟨g2, 0, none⟩, cd, by omega, by go_num, by rw [HR.out, HE.out]; simp, ?_, hg.trans hb5⟩
          rw [HR.out, HE.out, List.map_append, List.length_append]
          exact ho5
        case measure => simp [intOf]; omega
      · have d1 : decide (x < y) = false := by simpa using h1
        by_cases h2 : y < x
        · have HE : Hid (cdStep st ct ok k = ok ++ [⟨6, k, x⟩]) := by rw [HS.out, if_neg h1, if_pos h2]; exact rfl
          have d2 : decide (y < x) = true := by simpa using h2
          clear HS h1 h2
          go_wp2_with fail
          refine (wrongBy_any _ _ _ _ hG4).mono ?_
          rintro e w' ⟨rfl, rfl⟩
          unfold erV
          go_wp2_with (at_builtin; refine wpList_append_r rfl (.tmp 40) (.tmp 47) 69 rfl 96 1 16 _ i0 Tryz.underlying69 hi0 hz0 hz1 hz2 rfl (by omega) (by omega) B wr.heap.size ok.length c' A' _ rfl hok #[erV aM aG ⟨6, k, x⟩] 1 1 wr.heap.size rfl rfl (by omega) rfl (by simp [Value.oneCell', erV]) (by omega) (by omega) ?_; intro g2 cd w5 ho5 hb5)
          go_roundw
          case rel =>
            refine ⟨k + 1, some ⟨g2, 0, none⟩, cd, by omega, by go_num, by rw [HR.out, HE.out]; simp, ?_, hg.trans hb5⟩
            rw [HR.out, HE.out, List.map_append, List.length_append]
            exact ho5
          case measure => simp [intOf]; omega
        · have HE : Hid (cdStep st ct ok k = ok) := by rw [HS.out, if_neg h1, if_neg h2]; exact rfl
          have d2 : decide (y < x) = false := by simpa using h2
          clear HS h1 h2
          go_wp2_with fail
          go_roundw
          case rel =>
            refine ⟨k + 1, A', c', by omega, by go_num, by rw [HR.out, HE.out], ?_, hg⟩
            rw [HR.out, HE.out]
            exact hok
          case measure => simp [intOf]; omega
    · obtain rfl : k = 64 := by omega
      go_wp2_with fail
      go_ret
      exact ⟨A', c', rfl, hok.more (by have := HB.out.size; omega) (Nat.le_refl _), HB.out.trans (hg.mono (by have := HB.out.size; omega))⟩

def tgStep (ins : Int) (o : List Cm) (c : Cm) : List Cm := if kindIn c.kind = ins ∧ (o.any fun t => t.target == c.target) = false then o ++ [c] else o
def tgRound (l : List Cm) (o : List Cm) (ins : Int) : List Cm := (l.filter fun c => c.good).foldl (tgStep ins) o
/-- The tables that are gone into, told by the claims that lead to them. -/
def tgL (l : List Cm) : List Cm := ([4, 7, 8] : List Int).foldl (tgRound l) []

theorem any_has (o : List Cm) (x : Int) : (o.any fun t => t.target == x) = hasB (o.map (·.target)) x := by
  unfold hasB
  induction o with
  | nil => rfl
  | cons c o ih => rw [List.any_cons, ih, List.map_cons, List.contains_cons, BEq.comm]
theorem ins_tab (k : Nat) (ins : Int) (h : (k = 0 ∧ ins = 4) ∨ (k = 1 ∧ ins = 7) ∨ (k = 2 ∧ ins = 8)) (c : Cm) : inTab k c = true ↔ kindIn c.kind = ins := by
  unfold inTab kindIn
  rcases h with ⟨rfl, rfl⟩ | ⟨rfl, rfl⟩ | ⟨rfl, rfl⟩ <;> simp <;> constructor <;> intro h
  all_goals first | omega | (split at h <;> try omega) | skip
  all_goals first | omega | (split at h <;> try omega) | skip
  all_goals first | omega | (split at h <;> omega) | skip
  all_goals (split <;> first | omega | (split <;> first | omega | (split <;> omega)))
theorem tg_step (k : Nat) (ins : Int) (h : (k = 0 ∧ ins = 4) ∨ (k = 1 ∧ ins = 7) ∨ (k = 2 ∧ ins = 8)) (o : List Cm) (c : Cm) (hg : c.good = true) : (tgStep ins o c).map (·.target) = tblStep k (o.map (·.target)) c := by
  unfold tgStep tblStep
  rw [any_has]
  have e := ins_tab k ins h c
  by_cases h1 : kindIn c.kind = ins ∧ hasB (o.map (·.target)) c.target = false
  · rw [if_pos h1, if_pos ⟨by rw [Bool.and_eq_true]; exact ⟨e.2 h1.1, hg⟩, h1.2⟩]; simp
  · rw [if_neg h1, if_neg (fun h2 => h1 ⟨e.1 (Bool.and_eq_true_iff.1 h2.1).1, h2.2⟩)]
theorem tg_fold (k : Nat) (ins : Int) (h : (k = 0 ∧ ins = 4) ∨ (k = 1 ∧ ins = 7) ∨ (k = 2 ∧ ins = 8)) (l : List Cm) : ∀ o : List Cm, (tgRound l o ins).map (·.target) = tblRound l (o.map (·.target)) k := by
  unfold tgRound tblRound
  induction l with
  | nil => intro o; rfl
  | cons c l ih =>
    intro o
    cases hg : c.good
    · rw [List.filter_cons_of_neg (by simp [hg]), List.foldl_cons, ih]
      congr 1
      unfold tblStep
      rw [if_neg (by simp [hg])]
    · rw [List.filter_cons_of_pos (by simp [hg]), List.foldl_cons, List.foldl_cons, ih, tg_step k ins h o c hg]
theorem tg_tables (l : List Cm) : (tgL l).map (·.target) = tablesC l := by
  have e : tgL l = tgRound l (tgRound l (tgRound l [] 4) 7) 8 := rfl
  have e2 : tablesC l = tblRound l (tblRound l (tblRound l [] 0) 1) 2 := rfl
  rw [e, e2, tg_fold 2 8 (by simp), tg_fold 1 7 (by simp), tg_fold 0 4 (by simp)]
  rfl
theorem tgStep_mem {ins : Int} {o : List Cm} {c x : Cm} (h : x ∈ tgStep ins o c) : x ∈ o ∨ (x = c ∧ kindIn c.kind = ins) := by
  unfold tgStep at h
  split at h
  · rename_i h1
    rw [List.mem_append, List.mem_singleton] at h
    rcases h with h | h
    · exact .inl h
    · exact .inr ⟨h, h1.1⟩
  · exact .inl h
theorem tgFold_mem (ins : Int) {x : Cm} : ∀ (l o : List Cm), x ∈ l.foldl (tgStep ins) o → x ∈ o ∨ (x ∈ l ∧ kindIn x.kind = ins)
  | [], _, h => .inl h
  | c :: l, o, h => by
    rw [List.foldl_cons] at h
    rcases tgFold_mem ins l _ h with h | h
    · rcases tgStep_mem h with h | ⟨rfl, h⟩
      · exact .inl h
      · exact .inr ⟨by simp, h⟩
    · exact .inr ⟨by simp [h.1], h.2⟩
theorem tg_mem {l : List Cm} {x : Cm} (h : x ∈ tgL l) : x ∈ l ∧ x.good = true ∧ (kindIn x.kind = 4 ∨ kindIn x.kind = 7 ∨ kindIn x.kind = 8) := by
  have e : tgL l = tgRound l (tgRound l (tgRound l [] 4) 7) 8 := rfl
  rw [e] at h
  unfold tgRound at h
  rcases tgFold_mem 8 _ _ h with h | ⟨h, hk⟩
  · rcases tgFold_mem 7 _ _ h with h | ⟨h, hk⟩
    · rcases tgFold_mem 4 _ _ h with h | ⟨h, hk⟩
      · cases h
      · rw [List.mem_filter] at h; exact ⟨h.1, h.2, .inl hk⟩
    · rw [List.mem_filter] at h; exact ⟨h.1, h.2, .inr (.inl hk)⟩
  · rw [List.mem_filter] at h; exact ⟨h.1, h.2, .inr (.inr hk)⟩
theorem tgStep_length (ins : Int) (o : List Cm) (c : Cm) : (tgStep ins o c).length ≤ o.length + 1 := by unfold tgStep; split <;> simp
theorem tg_length (xs : List Int) : (tgL (claimsC xs)).length ≤ 4000 := by
  have := tables_length xs
  rw [← tg_tables, List.length_map] at this
  exact this

theorem kindIn_four {k : Int} : kindIn k = 4 ↔ k = 3 := by unfold kindIn; split <;> (try split) <;> (try split) <;> omega
theorem kindIn_seven {k : Int} : kindIn k = 7 ↔ (k = 2 ∨ k = 6) := by unfold kindIn; split <;> (try split) <;> (try split) <;> omega
theorem kindIn_eight {k : Int} : kindIn k = 8 ↔ k = 7 := by unfold kindIn; split <;> (try split) <;> (try split) <;> omega

/-- The refs' claim. -/
theorem claim_refs {b : List Int} {c : Cm} (hc : c ∈ claimsC b) (hk : c.kind = 3) : c.target = (headOf b).refs ∧ c.good = goodB b (headOf b).size (c1C b (headOf b)) ⟨3, 0, 0, 0, (headOf b).refs, false⟩ := by
  obtain ⟨J3, J4, J5, J6, P⟩ := claims_parts b
  rcases P.mem.1 hc with h | h | h | h | h
  · unfold c2C at h
    have h1 : c ∈ c1C b (headOf b) ∨ c = ⟨3, 0, 0, 0, (headOf b).refs, goodB b (headOf b).size (c1C b (headOf b)) ⟨3, 0, 0, 0, (headOf b).refs, false⟩⟩ := by
      rw [addC, List.mem_append, List.mem_singleton] at h; exact h
    rcases h1 with h1 | rfl
    · exfalso
      unfold c1C addC at h1
      simp at h1
      rcases h1 with rfl | rfl <;> simp at hk
    · exact ⟨rfl, rfl⟩
  · obtain ⟨d, _, h, _⟩ := P.of3 h; omega
  · rcases P.of4 h with h | h <;> omega
  · obtain ⟨d, _, h, _⟩ := P.of5 h; omega
  · obtain ⟨d, _, h, _⟩ := P.of6 h; omega
theorem claim_c4 {b : List Int} {c : Cm} (hc : c ∈ claimsC b) (hk : c.kind = 2 ∨ c.kind = 6) : c ∈ c4C b (headOf b) := by
  obtain ⟨J3, J4, J5, J6, P⟩ := claims_parts b
  rcases P.mem.1 hc with h | h | h | h | h
  · rw [P.c4, P.c3]; simp [h]
  · obtain ⟨d, _, h, _⟩ := P.of3 h; omega
  · rw [P.c4]; simp [h]
  · obtain ⟨d, _, h, _⟩ := P.of5 h; omega
  · obtain ⟨d, _, h, _⟩ := P.of6 h; omega
theorem claim_c5 {b : List Int} {c : Cm} (hc : c ∈ claimsC b) (hk : c.kind = 7) : c ∈ c5C b (headOf b) := by
  obtain ⟨J3, J4, J5, J6, P⟩ := claims_parts b
  have h := P.kind7 hc hk
  rw [P.c5]; simp [h]

/-- Each word of a table that leads somewhere has its claim. -/
theorem inside_claim {b : List Int} {to : Cm} (hto : to ∈ claimsC b) (hg : to.good = true) (hk : kindIn to.kind = 4 ∨ kindIn to.kind = 7 ∨ kindIn to.kind = 8) (i : Nat) (hi : i < 8) (ht : targetOf ((cl b to.target.toNat).getD i 0) ≠ 0) :
    ∃ c ∈ claimsC b, c.kind = kindIn to.kind ∧ c.frm = to.target ∧ c.slot = i := by
  have hk1 : to.kind ≠ 1 := by
    rcases hk with h | h | h
    · rw [kindIn_four] at h; omega
    · rw [kindIn_seven] at h; omega
    · rw [kindIn_eight] at h; omega
  have hth : 1 ≤ to.target := (there_lt (good_there hto hg hk1)).1
  have hnat : ((to.target.toNat : Nat) : Int) = to.target := by omega
  rcases hk with h | h | h
  · rw [h]
    rw [kindIn_four] at h
    obtain ⟨h1, h2⟩ := claim_refs hto h
    rw [hg] at h2
    obtain ⟨g, hm⟩ := tab_mem b (headOf b).size 4 to.target.toNat 0 0 (c2C b (headOf b)) i hi ht
    refine ⟨⟨4, to.target.toNat, i, 0 + 0 * i, targetOf ((cl b to.target.toNat).getD i 0), g⟩, c3_sub b _ ?_, rfl, hnat, rfl⟩
    unfold c3C
    rw [if_pos h2.symm, ← h1]
    exact hm
  · rw [h]
    rw [kindIn_seven] at h
    have hf : to.target ∈ firstsC (c4C b (headOf b)) := by
      unfold firstsC
      rw [List.mem_map]
      refine ⟨to, List.mem_filter.2 ⟨claim_c4 hto h, ?_⟩, rfl⟩
      rcases h with h | h <;> simp [hg, h]
    obtain ⟨c, hc, k1, k2, k3, _, _⟩ := second_claim hf i hi ht
    exact ⟨c, c5_sub b c hc, k1, by rw [k2, hnat], k3⟩
  · rw [h]
    rw [kindIn_eight] at h
    obtain ⟨c, hc, k1, k2, k3, _⟩ := data_claim (claim_c5 hto h) h hg i hi ht
    exact ⟨c, hc, k1, by rw [k2, hnat], k3⟩

/-- What claims from within a table that is gone into is a claim of its words. -/
theorem frm_table {b : List Int} {to c : Cm} (hto : to ∈ claimsC b) (hg : to.good = true) (hk : kindIn to.kind = 4 ∨ kindIn to.kind = 7 ∨ kindIn to.kind = 8) (hc : c ∈ claimsC b) (hf : c.frm = to.target) :
    c.kind = kindIn to.kind ∧ 0 ≤ c.slot ∧ c.slot < 8 ∧ c.target = targetOf ((cl b to.target.toNat).getD c.slot.toNat 0) ∧ c.target ≠ 0 := by
  have hk' : to.kind = 3 ∨ (to.kind = 2 ∨ to.kind = 6) ∨ to.kind = 7 := by
    rcases hk with h | h | h
    · exact .inl (kindIn_four.1 h)
    · exact .inr (.inl (kindIn_seven.1 h))
    · exact .inr (.inr (kindIn_eight.1 h))
  have hth : 1 ≤ to.target := (there_lt (good_there hto hg (by omega))).1
  by_cases h4 : c.kind = 4 ∨ c.kind = 7 ∨ c.kind = 8
  · obtain ⟨d, hd, hdk⟩ := claim_tab hc h4
    have ht : d.target = to.target := by rw [← hd.frm, hf]
    have hone := (good_one hd.mem hto hd.good hg ht).1
    refine ⟨?_, hd.slot0, hd.slot1, by rw [hd.word, ht], hd.some⟩
    rcases hdk with ⟨e1, e2⟩ | ⟨e1, e2, _⟩ | ⟨e1, e2, _⟩
    · rw [e1, kindIn_four.2 (by omega)]
    · rw [e1, kindIn_seven.2 (by omega)]
    · rw [e1, kindIn_eight.2 (by omega)]
  · exfalso
    obtain ⟨J3, J4, J5, J6, P⟩ := claims_parts b
    rcases P.mem.1 hc with h | h | h | h | h
    · unfold c2C c1C addC at h
      simp at h
      rcases h with rfl | rfl | rfl <;> simp at hf <;> omega
    · obtain ⟨d, _, h, _⟩ := P.of3 h; omega
    · have hsub : ∀ x ∈ J4, x ∈ claimsC b := fun x hx => P.mem.2 (.inr (.inr (.inl hx)))
      rcases P.e4 with ⟨g, h1, _⟩ | h1 | ⟨J, h1, h2⟩
      · rw [h1, List.mem_singleton] at h; subst h; simp at hf; omega
      · rw [h1] at h; cases h
      · have h5 := hsub ⟨5, 0, 0, 0, (headOf b).shots, true⟩ (by rw [h1]; simp)
        rw [h1, List.mem_cons] at h
        rcases h with rfl | h
        · simp at hf; omega
        · obtain ⟨d, hd, he⟩ := er_mem h2 h
          obtain ⟨_, k2, _, _, _⟩ := er_eq he
          have := (shotT_kind hd).2.2.2
          have h6 := (good_one h5 hto rfl hg (by show (headOf b).shots = _; rw [← hf, k2, this])).1
          simp only at h6
          omega
    · obtain ⟨d, _, h, _⟩ := P.of5 h; omega
    · obtain ⟨d, _, h, _⟩ := P.of6 h; omega

def standB (l : List Cm) (t s : Int) : Bool := l.any fun c => c.frm == t && c.slot == s
def wordMust (word kind : Int) (counts : List Int) : Int := entryOf (targetOf word) (!(targetOf word == 0) && (!(kind == 3) && counts.getD (targetOf word).toNat 0 == 1))

theorem stand_false {l : List Cm} {t s : Int} (h : standB l t s = false) {c : Cm} (hc : c ∈ l) (h1 : c.frm = t) (h2 : c.slot = s) : False := by
  unfold standB at h
  rw [List.any_eq_false] at h
  exact h c hc (by simp [h1, h2])
theorem looseC_mem {xs : List Int} (hh : hasHead xs = true) {c : Cm} : c ∈ looseL xs ↔ c ∈ claimsC xs ∧ c.good = false := by
  unfold looseL claimsL
  rw [if_pos hh, List.mem_filter]
  simp

/-- A word of a table: it is told as the model tells it, and its count is asked for only where there is one. -/
theorem own_word {xs : List Int} (hh : hasHead xs = true) (counts : List Int) {to : Cm} (hto : to ∈ tgL (claimsC xs)) (i : Nat) (hi : i < 8) (word : Int) (hw : word = (cl xs to.target.toNat).getD i 0) :
    (standB (looseL xs) to.target i = true → mustC (claimsC xs) counts to.target i word = word) ∧
    (standB (looseL xs) to.target i = false → mustC (claimsC xs) counts to.target i word = wordMust word to.kind counts ∧ (targetOf word ≠ 0 → 0 ≤ targetOf word ∧ targetOf word < 64)) := by
  obtain ⟨hm, hg, hk⟩ := tg_mem hto
  by_cases h0 : targetOf word = 0
  · refine ⟨fun hs => ?_, fun _ => ⟨?_, fun h => absurd h0 h⟩⟩
    · exfalso
      unfold standB at hs
      rw [List.any_eq_true] at hs
      obtain ⟨c, hc, hcc⟩ := hs
      simp at hcc
      obtain ⟨_, _, _, h3, h4⟩ := frm_table hm hg hk ((looseC_mem hh).1 hc).1 hcc.1
      rw [hcc.2, Int.toNat_natCast, ← hw] at h3
      omega
    · unfold mustC wordMust
      rw [if_pos h0, h0]
      rfl
  · have hcl := inside_claim hm hg hk i hi (by rw [← hw]; exact h0)
    obtain ⟨c0, hc0, k1, k2, k3⟩ := hcl
    have hp0 : mustP to.target i c0 = true := by
      unfold mustP
      rw [k1]
      rcases hk with h | h | h <;> rw [h] <;> simp [k2, k3]
    obtain ⟨c, hf⟩ : ∃ c, (claimsC xs).find? (mustP to.target i) = some c := by
      cases h : (claimsC xs).find? (mustP to.target i) with
      | none => rw [List.find?_eq_none] at h; exact absurd hp0 (h c0 hc0)
      | some c => exact ⟨c, rfl⟩
    have hc : c ∈ claimsC xs := List.mem_of_find?_eq_some hf
    have hp : mustP to.target i c = true := List.find?_some hf
    have hpp : (c.frm = to.target ∧ c.slot = i) ∧ (c.kind = 4 ∨ c.kind = 7 ∨ c.kind = 8) := by
      unfold mustP at hp
      simp at hp
      exact hp
    obtain ⟨⟨hcf, hcs⟩, hck⟩ := hpp
    obtain ⟨e1, _, _, e4, _⟩ := frm_table hm hg hk hc hcf
    rw [hcs, Int.toNat_natCast, ← hw] at e4
    have hM : mustC (claimsC xs) counts to.target i word = mustOf counts word (some c) := by unfold mustC; rw [if_neg h0, hf]
    cases hcg : c.good
    · have hN : mustC (claimsC xs) counts to.target i word = word := by rw [hM]; unfold mustOf; simp [hcg]
      refine ⟨fun _ => hN, fun hs => ?_⟩
      exact (stand_false hs ((looseC_mem hh).2 ⟨hc, hcg⟩) hcf hcs).elim
    · refine ⟨fun hs => ?_, fun _ => ⟨?_, fun _ => ?_⟩⟩
      · exfalso
        unfold standB at hs
        rw [List.any_eq_true] at hs
        obtain ⟨d, hd, hdd⟩ := hs
        simp at hdd
        obtain ⟨hd1, hd2⟩ := (looseC_mem hh).1 hd
        have hdk := (frm_table hm hg hk hd1 hdd.1).1
        have := word_one hc hd1 hck (by rw [hdk]; exact hk) (by rw [hcf, hdd.1]) (by rw [hcs, hdd.2])
        rw [hcg, hd2] at this
        cases this
      · rw [hM]
        unfold mustOf wordMust
        simp only [hcg, if_true]
        rw [e4]
        congr 1
        have h1 : (targetOf word == 0) = false := by simpa using h0
        have h2 : (c.kind != 4) = !(to.kind == 3) := by
          rw [e1]
          by_cases h3 : to.kind = 3
          · rw [kindIn_four.2 h3]; simp [h3]
          · have : kindIn to.kind ≠ 4 := fun h => h3 (kindIn_four.1 h)
            have a1 : (to.kind == 3) = false := by simpa using h3
            rw [a1]
            simpa using this
        rw [h1, h2]
        rfl
      · have hl := there_lt (good_there hc hcg (by omega))
        have := manyN_le (hasHead_img hh)
        rw [e4] at hl
        omega

/-- The word of a slot of a table, as it must be. -/
def rtW (xs : List Int) (loose : List Cm) (counts : List Int) (to : Cm) (i : Nat) : Int :=
  if standB loose to.target i = true then (cl xs to.target.toNat).getD i 0 else wordMust ((cl xs to.target.toNat).getD i 0) to.kind counts
/-- All of them. -/
def rtL (xs : List Int) (loose : List Cm) (counts : List Int) (to : Cm) : List Int := f8 (rtW xs loose counts to)
/-- The first k are as they must be. -/
def rtTo (xs : List Int) (loose : List Cm) (counts : List Int) (to : Cm) (k : Nat) : List Int := f8 fun i => if i < k then rtW xs loose counts to i else (cl xs to.target.toNat).getD i 0

section
variable (xs : List Int) (loose : List Cm) (counts : List Int) (to : Cm)
theorem rtL_length : (rtL xs loose counts to).length = 8 := f8_length _
theorem rtL_get (i : Nat) (h : i < 8) : (rtL xs loose counts to).getD i 0 = rtW xs loose counts to i := f8_get _ i h
theorem rtTo_zero : rtTo xs loose counts to 0 = cl xs to.target.toNat := by
  unfold rtTo
  conv => rhs; unfold cl
  exact f8_congr fun j hj => by rw [if_neg (by omega), cl_word_get _ _ _ hj]
theorem rtTo_eight : rtTo xs loose counts to 8 = rtL xs loose counts to := f8_congr fun j hj => by rw [if_pos hj]
theorem rtTo_get (k i : Nat) (h : i < 8) (hk : k ≤ i) : (rtTo xs loose counts to k).getD i 0 = (cl xs to.target.toNat).getD i 0 := by
  unfold rtTo
  rw [f8_get _ i h, if_neg (by omega)]
theorem rtTo_step (k : Nat) : (rtTo xs loose counts to k).set k (rtW xs loose counts to k) = rtTo xs loose counts to (k + 1) := by
  apply List.ext_getElem
  · simp [rtTo, f8]
  · intro i h1 h2
    have h8 : i < 8 := by simpa [rtTo, f8] using h2
    simp only [List.getElem_set, rtTo, f8, List.getElem_map, List.getElem_range]
    by_cases e : k = i
    · subst e; simp
    · rw [if_neg e]
      by_cases h3 : i < k
      · rw [if_pos h3, if_pos (by omega)]
      · rw [if_neg h3, if_neg (by omega)]
theorem rtTo_skip (k : Nat) (hs : standB loose to.target k = true) : rtTo xs loose counts to (k + 1) = rtTo xs loose counts to k := f8_congr fun i _ => by
  by_cases e : i = k
  · subst e
    rw [if_pos (by omega), if_neg (by omega)]
    unfold rtW
    rw [if_pos hs]
  · by_cases h3 : i < k
    · rw [if_pos (by omega), if_pos h3]
    · rw [if_neg (by omega), if_neg h3]
end

/-- tablesGoneInto's function: is it the target of the claim in the box Bx? -/
theorem sameTarget_any (Bx : Nat) (t : Int) (x : Cm) (w : World) (h4 : w.cell? ⟨Bx, 4, none⟩ = some (.int .i64 t)) :
    Calls Tryz.prog 146 #[.agg #[.int .i64 x.kind, .int .i64 x.frm, .int .i64 x.slot, .int .i64 x.place, .int .i64 x.target, .bool x.good], .pointer (some ⟨Bx, 0, none⟩)] w
      fun e w' => e = .returned (.bool (x.target == t)) ∧ w' = w.alloc (.cells #[.int .i64 x.kind, .int .i64 x.frm, .int .i64 x.slot, .int .i64 x.place, .int .i64 x.target, .bool x.good] 115) := by
  obtain ⟨xk, xf, xs', xp, xt, xg⟩ := x
  have hB := World.block_lt_of_cell? w _ h4
  have h5 : (w.alloc (.cells #[.int .i64 xk, .int .i64 xf, .int .i64 xs', .int .i64 xp, .int .i64 xt, .bool xg] 115)).cell? ⟨Bx, 4, none⟩ = some (.int .i64 t) := by
    rw [World.cell?_alloc_lt _ _ ⟨Bx, 4, none⟩ hB]; exact h4
  go_enter Tryz.func146, Tryz.ntmps146
  go_wp2
  go_ret
  exact ⟨rfl, rfl⟩

/-- standsIn's function: does it stand in that slot of that table? -/
theorem standsAt_any (B1 B2 : Nat) (t s : Int) (x : Cm) (w : World) (h1 : w.cell? ⟨B1, 0, none⟩ = some (.int .i64 t)) (h2 : w.cell? ⟨B2, 0, none⟩ = some (.int .i64 s)) :
    Calls Tryz.prog 148 #[.agg #[.int .i64 x.kind, .int .i64 x.frm, .int .i64 x.slot, .int .i64 x.place, .int .i64 x.target, .bool x.good], .pointer (some ⟨B1, 0, none⟩), .pointer (some ⟨B2, 0, none⟩)] w
      fun e w' => e = .returned (.bool (x.frm == t && x.slot == s)) ∧ w' = w.alloc (.cells #[.int .i64 x.kind, .int .i64 x.frm, .int .i64 x.slot, .int .i64 x.place, .int .i64 x.target, .bool x.good] 115) := by
  obtain ⟨xk, xf, xs', xp, xt, xg⟩ := x
  have hB1 := World.block_lt_of_cell? w _ h1
  have hB2 := World.block_lt_of_cell? w _ h2
  have h3 : (w.alloc (.cells #[.int .i64 xk, .int .i64 xf, .int .i64 xs', .int .i64 xp, .int .i64 xt, .bool xg] 115)).cell? ⟨B1, 0, none⟩ = some (.int .i64 t) := by
    rw [World.cell?_alloc_lt _ _ ⟨B1, 0, none⟩ hB1]; exact h1
  have h4 : (w.alloc (.cells #[.int .i64 xk, .int .i64 xf, .int .i64 xs', .int .i64 xp, .int .i64 xt, .bool xg] 115)).cell? ⟨B2, 0, none⟩ = some (.int .i64 s) := by
    rw [World.cell?_alloc_lt _ _ ⟨B2, 0, none⟩ hB2]; exact h2
  cases hd : (xf == t)
  · go_enter Tryz.func148, Tryz.ntmps148
    go_wp2
    go_ret
    exact ⟨by simp, rfl⟩
  · go_enter Tryz.func148, Tryz.ntmps148
    go_wp2
    go_ret
    exact ⟨by simp, rfl⟩

theorem any_take_succ (l : List Cm) (p : Cm → Bool) (k : Nat) (hk : k < l.length) : (l.take (k + 1)).any p = ((l.take k).any p || p (l.getD k cm0)) := by
  rw [List.take_succ_eq_append_getElem hk, List.any_append, show l.getD k cm0 = l[k] by simp [List.getD_eq_getElem?_getD, hk]]
  simp
theorem any_at (l : List Cm) (p : Cm → Bool) (k : Nat) (hk : k < l.length) (h : p (l.getD k cm0) = true) : l.any p = true := by
  rw [List.any_eq_true]
  exact ⟨l[k], List.getElem_mem hk, by rw [show l.getD k cm0 = l[k] by simp [List.getD_eq_getElem?_getD, hk]] at h; exact h⟩

set_option maxRecDepth 100000 in
set_option maxHeartbeats 4000000 in
theorem hasTarget_any (Bx : Nat) (t : Int) (G : Option Addr) (cg lo hi : Nat) (l : List Cm) (w : World) (hl : l.length ≤ 10000) (h4 : w.cell? ⟨Bx, 4, none⟩ = some (.int .i64 t)) (oG : OwR 115 6 w lo hi G l.length cg (l.flatMap cmV)) :
    Calls Tryz.prog 145 #[.slice G l.length cg, .func (.func 146) #[] #[.pointer (some ⟨Bx, 0, none⟩)]] w (RetB w (l.any fun x => x.target == t)) := by
  have hB := World.block_lt_of_cell? w _ h4
  have hI : Calls Tryz.prog 162 #[.slice G l.length cg, .func (.func 146) #[] #[.pointer (some ⟨Bx, 0, none⟩)]] w fun e w' => ∃ v : Int, e = .returned (.int .i64 v) ∧ decide (0 ≤ v) = (l.any fun x => x.target == t) ∧ Below w.heap.size w w' := by
    have HG := Lib.hid oG
    have H4 := Lib.hid h4
    clear oG h4
    go_enter Tryz.func162, Tryz.ntmps162
    go_wp2_with fail
    go_loopw [8] (fun i wr => ∃ k : Nat, k ≤ l.length ∧ i = .int .i64 k ∧ ((l.take k).any fun x => x.target == t) = false ∧ Below w.heap.size w wr) (fun i _ => l.length - (intOf i).toNat)
    case atStart => exact ⟨0, Nat.zero_le _, rfl, rfl, Below.refl _ _⟩
    case round =>
      obtain ⟨k, hk, rfl, hf, hb⟩ := hrel
      have sr := hb.size
      by_cases hlt : k < l.length
      · obtain ⟨g, rfl, hg1, hg2, hg3, hce⟩ := cmr_cells HG.out hlt
        have hce := hce wr (hb.block g (by omega))
        have h4 : wr.cell? ⟨Bx, 4, none⟩ = some (.int .i64 t) := (World.cell?_of_block (hb.block Bx hB)).trans H4.out
        have HS := Lib.hid (any_take_succ l (fun x => x.target == t) k hlt)
        have HA := Lib.hid (any_at l (fun x => x.target == t) k hlt)
        have HF := Lib.hid hf
        clear hf
        generalize l.getD k cm0 = x at *
        obtain ⟨xk, xf, xs', xp, xt, xg⟩ := x
        have e0 : wr.cell? ⟨g, k * 6, none⟩ = some (.int .i64 xk) := hce 0 (by omega)
        have e1 : wr.cell? ⟨g, k * 6 + 1, none⟩ = some (.int .i64 xf) := hce 1 (by omega)
        have e2 : wr.cell? ⟨g, k * 6 + 2, none⟩ = some (.int .i64 xs') := hce 2 (by omega)
        have e3 : wr.cell? ⟨g, k * 6 + 3, none⟩ = some (.int .i64 xp) := hce 3 (by omega)
        have e4 : wr.cell? ⟨g, k * 6 + 4, none⟩ = some (.int .i64 xt) := hce 4 (by omega)
        have e5 : wr.cell? ⟨g, k * 6 + 5, none⟩ = some (.bool xg) := hce 5 (by omega)
        clear hce
        go_wp2_with fail
        refine (sameTarget_any Bx t ⟨xk, xf, xs', xp, xt, xg⟩ _ h4).mono ?_
        rintro e w' ⟨rfl, rfl⟩
        dsimp only
        cases hd : (xt == t)
        · go_wp2_with fail
          go_roundw
          case rel => exact ⟨k + 1, by omega, by go_num, by rw [HS.out, HF.out]; simp [hd], hb.alloc hb.size _⟩
          case measure => simp [intOf]; omega
        · go_wp2_with fail
          go_ret
          exact ⟨k, rfl, by rw [HA.out hd]; simp, hb.alloc hb.size _⟩
      · obtain rfl : k = l.length := by omega
        rw [List.take_length] at hf
        go_wp2_with fail
        go_ret
        exact ⟨-1, rfl, by rw [hf]; decide, hb⟩
  go_enter Tryz.func145, Tryz.ntmps145
  go_wp2_with fail
  refine hI.mono ?_
  rintro e w' ⟨v, rfl, hv, hb⟩
  have HV := Lib.hid hv
  clear hv
  go_wp2_with fail
  go_ret
  exact ⟨ret_bool (by rw [← HV.out]), hb⟩

set_option maxRecDepth 100000 in
set_option maxHeartbeats 4000000 in
theorem hasSlot_any (B1 B2 : Nat) (t s : Int) (G : Option Addr) (cg lo hi : Nat) (l : List Cm) (w : World) (hl : l.length ≤ 10000) (h1 : w.cell? ⟨B1, 0, none⟩ = some (.int .i64 t)) (h2 : w.cell? ⟨B2, 0, none⟩ = some (.int .i64 s)) (oG : OwR 115 6 w lo hi G l.length cg (l.flatMap cmV)) :
    Calls Tryz.prog 145 #[.slice G l.length cg, .func (.func 148) #[] #[.pointer (some ⟨B1, 0, none⟩), .pointer (some ⟨B2, 0, none⟩)]] w (RetB w (l.any fun x => x.frm == t && x.slot == s)) := by
  have hB1 := World.block_lt_of_cell? w _ h1
  have hB2 := World.block_lt_of_cell? w _ h2
  have hI : Calls Tryz.prog 162 #[.slice G l.length cg, .func (.func 148) #[] #[.pointer (some ⟨B1, 0, none⟩), .pointer (some ⟨B2, 0, none⟩)]] w fun e w' => ∃ v : Int, e = .returned (.int .i64 v) ∧ decide (0 ≤ v) = (l.any fun x => x.frm == t && x.slot == s) ∧ Below w.heap.size w w' := by
    have HG := Lib.hid oG
    have H1 := Lib.hid h1
    have H2 := Lib.hid h2
    clear oG h1 h2
    go_enter Tryz.func162, Tryz.ntmps162
    go_wp2_with fail
    go_loopw [8] (fun i wr => ∃ k : Nat, k ≤ l.length ∧ i = .int .i64 k ∧ ((l.take k).any fun x => x.frm == t && x.slot == s) = false ∧ Below w.heap.size w wr) (fun i _ => l.length - (intOf i).toNat)
    case atStart => exact ⟨0, Nat.zero_le _, rfl, rfl, Below.refl _ _⟩
    case round =>
      obtain ⟨k, hk, rfl, hf, hb⟩ := hrel
      have sr := hb.size
      by_cases hlt : k < l.length
      · obtain ⟨g, rfl, hg1, hg2, hg3, hce⟩ := cmr_cells HG.out hlt
        have hce := hce wr (hb.block g (by omega))
        have h1 : wr.cell? ⟨B1, 0, none⟩ = some (.int .i64 t) := (World.cell?_of_block (hb.block B1 hB1)).trans H1.out
        have h2 : wr.cell? ⟨B2, 0, none⟩ = some (.int .i64 s) := (World.cell?_of_block (hb.block B2 hB2)).trans H2.out
        have HS := Lib.hid (any_take_succ l (fun x => x.frm == t && x.slot == s) k hlt)
        have HA := Lib.hid (any_at l (fun x => x.frm == t && x.slot == s) k hlt)
        have HF := Lib.hid hf
        clear hf
        generalize l.getD k cm0 = x at *
        obtain ⟨xk, xf, xs', xp, xt, xg⟩ := x
        have e0 : wr.cell? ⟨g, k * 6, none⟩ = some (.int .i64 xk) := hce 0 (by omega)
        have e1 : wr.cell? ⟨g, k * 6 + 1, none⟩ = some (.int .i64 xf) := hce 1 (by omega)
        have e2 : wr.cell? ⟨g, k * 6 + 2, none⟩ = some (.int .i64 xs') := hce 2 (by omega)
        have e3 : wr.cell? ⟨g, k * 6 + 3, none⟩ = some (.int .i64 xp) := hce 3 (by omega)
        have e4 : wr.cell? ⟨g, k * 6 + 4, none⟩ = some (.int .i64 xt) := hce 4 (by omega)
        have e5 : wr.cell? ⟨g, k * 6 + 5, none⟩ = some (.bool xg) := hce 5 (by omega)
        clear hce
        go_wp2_with fail
        refine (standsAt_any B1 B2 t s ⟨xk, xf, xs', xp, xt, xg⟩ _ h1 h2).mono ?_
        rintro e w' ⟨rfl, rfl⟩
        dsimp only
        cases hd : (xf == t && xs' == s)
        · go_wp2_with fail
          go_roundw
          case rel => exact ⟨k + 1, by omega, by go_num, by rw [HS.out, HF.out]; simp [hd], hb.alloc hb.size _⟩
          case measure => simp [intOf]; omega
        · go_wp2_with fail
          go_ret
          exact ⟨k, rfl, by rw [HA.out hd]; simp, hb.alloc hb.size _⟩
      · obtain rfl : k = l.length := by omega
        rw [List.take_length] at hf
        go_wp2_with fail
        go_ret
        exact ⟨-1, rfl, by rw [hf]; decide, hb⟩
  go_enter Tryz.func145, Tryz.ntmps145
  go_wp2_with fail
  refine hI.mono ?_
  rintro e w' ⟨v, rfl, hv, hb⟩
  have HV := Lib.hid hv
  clear hv
  go_wp2_with fail
  go_ret
  exact ⟨ret_bool (by rw [← HV.out]), hb⟩

/-- Function 128. -/
theorem standsIn_any (G : Option Addr) (cg lo hi : Nat) (l : List Cm) (t s : Int) (w : World) (hl : l.length ≤ 10000) (oG : OwR 115 6 w lo hi G l.length cg (l.flatMap cmV)) (hhi : hi ≤ w.heap.size) :
    Calls Tryz.prog 128 #[.slice G l.length cg, .int .i64 t, .int .i64 s] w (RetB w (standB l t s)) := by
  have b1 := (Below.refl w.heap.size w).alloc (Nat.le_refl _) (.cells #[.int .i64 t] 2)
  have b2 := b1.alloc b1.size (.cells #[.int .i64 s] 2)
  have o2 := oG.below b2 hhi
  have c1 : ((w.alloc (.cells #[.int .i64 t] 2)).alloc (.cells #[.int .i64 s] 2)).cell? ⟨w.heap.size, 0, none⟩ = some (.int .i64 t) := by
    rw [World.cell?_alloc_lt _ _ ⟨w.heap.size, 0, none⟩ (by simp)]; simp
  have c2 : ((w.alloc (.cells #[.int .i64 t] 2)).alloc (.cells #[.int .i64 s] 2)).cell? ⟨w.heap.size + 1, 0, none⟩ = some (.int .i64 s) := by simp
  have hH := hasSlot_any w.heap.size (w.heap.size + 1) t s G cg lo hi l _ hl c1 c2 o2
  have HH := Lib.hid hH
  clear hH c1 c2 o2
  go_enter Tryz.func128, Tryz.ntmps128
  go_wp2_with fail
  refine HH.out.mono ?_
  rintro e w' ⟨rfl, hb⟩
  have hb3 := below_more b2 hb b2.size
  go_wp2_with fail
  go_ret
  exact ⟨rfl, hb3⟩

attribute [local go_sem] Oper.semAt_some

/-- Block b is neither the box gv nor the row that lies in it. -/
def SpT (gv : Nat) (v : Value) (b : Nat) : Prop := b ≠ gv ∧ v.ownBlock ≠ some b
/-- What a round keeps: each cell but those of the box gv and of the row in it. -/
def KpT (gv : Nat) (W W' : World) : Prop :=
  W.heap.size ≤ W'.heap.size ∧ ∀ v0, W.cell? ⟨gv, 0, none⟩ = some v0 → ∃ v1, W'.cell? ⟨gv, 0, none⟩ = some v1 ∧ ∀ b, b < W.heap.size → SpT gv v0 b → SpT gv v1 b ∧ ∀ o v, W.cell? ⟨b, o, none⟩ = some v → W'.cell? ⟨b, o, none⟩ = some v
theorem KpT.keep {gv : Nat} {W W' : World} (hs : W.heap.size ≤ W'.heap.size) (hc : ∀ p v, W.cell? p = some v → W'.cell? p = some v) : KpT gv W W' :=
  ⟨hs, fun v0 h => ⟨v0, hc _ _ h, fun _ _ hsp => ⟨hsp, fun _ _ h => hc _ _ h⟩⟩⟩
theorem KpT.refl (gv : Nat) (W : World) : KpT gv W W := KpT.keep (Nat.le_refl _) fun _ _ h => h
theorem KpT.trans {gv : Nat} {A B C : World} (h : KpT gv A B) (k : KpT gv B C) : KpT gv A C :=
  ⟨Nat.le_trans h.1 k.1, fun v0 hv => by
    obtain ⟨v1, h1, h2⟩ := h.2 v0 hv
    obtain ⟨v2, k1, k2⟩ := k.2 v1 h1
    refine ⟨v2, k1, fun b hb hs => ?_⟩
    obtain ⟨s1, c1⟩ := h2 b hb hs
    obtain ⟨s2, c2⟩ := k2 b (Nat.lt_of_lt_of_le hb h.1) s1
    exact ⟨s2, fun o v hc => c2 o v (c1 o v hc)⟩⟩
theorem KpT.alloc {gv : Nat} {A B : World} (h : KpT gv A B) (o : Obj) : KpT gv A (B.alloc o) :=
  h.trans (KpT.keep (by simp) fun _ _ hc => cell_kept hc (World.grownBy_alloc B o none) (fun _ e => by cases e))
theorem KpT.put {gv : Nat} {W : World} {l : Nat} {o : Obj} (o' : Obj) (h : W.heap[l]? = some o) (ho : o.isCells = false) : KpT gv W (W.putObj l o') :=
  KpT.keep (grownBy_putObj' W l o').size fun _ _ hc => cell_kept hc (grownBy_putObj' W l o') (fun _ e => by cases e; exact ⟨o, h, ho⟩)
theorem KpT.below {gv : Nat} {W W' : World} (h : Below W.heap.size W W') : KpT gv W W' := KpT.keep h.size fun _ _ hc => cell_kept hc (below_grownBy h) (fun _ e => by cases e)
/-- The row in the box grew, and the box holds the new one. -/
theorem KpT.append {gv : Nat} {W W1 : World} {v0 v1 : Value} (h0 : W.cell? ⟨gv, 0, none⟩ = some v0) (hg : W.grownBy W1 v0.ownBlock) (hat : v1.ownBlock = v0.ownBlock ∨ ∀ g, v1.ownBlock = some g → W.heap.size ≤ g) (hne : v0.ownBlock ≠ some gv) : KpT gv W (W1.setCell ⟨gv, 0, none⟩ v1) := by
  have hgv := World.block_lt_of_cell? W _ h0
  have hb : W1.heap[gv]? = W.heap[gv]? := hg.block gv hgv (fun e => hne e.symm)
  have c1 : W1.cell? ⟨gv, 0, none⟩ = some v0 := (World.cell?_of_block hb).trans h0
  have hgs := grownBy_setCell' W1 gv v1
  refine ⟨Nat.le_trans hg.size hgs.size, fun v hv => ?_⟩
  obtain rfl : v0 = v := Option.some.inj (h0.symm.trans hv)
  refine ⟨v1, World.cell?_setCell_same _ _ _ c1, fun b hlt hsp => ⟨⟨hsp.1, ?_⟩, fun o v hc => ?_⟩⟩
  · rcases hat with hat | hat
    · rw [hat]; exact hsp.2
    · intro e; have := hat b e; omega
  · have e1 : W1.heap[b]? = W.heap[b]? := hg.block b hlt (fun e => hsp.2 e.symm)
    have e2 : (W1.setCell ⟨gv, 0, none⟩ v1).heap[b]? = W1.heap[b]? := hgs.block b (by have := hg.size; omega) (fun e => hsp.1 (by injection e))
    exact (World.cell?_of_block (a := ⟨b, o, none⟩) (e2.trans e1)).trans hc

/-- append onto a row, nil or not: the run, and where what comes out lies. -/
theorem run_append_t {P : Program} (w : World) (t ty e : TypeId) (sz by_ : Nat) (z : Value) (i : TypeInfo) (ht : P.underlying t = some (.slice e)) (hi : P.info? e = some i) (hz : i.zero = some z) (hsize : i.size = sz) (hby : i.bytes = by_) (hzs : z.cells.size = sz) (hsz : 0 < sz) (hb8 : by_ ≤ 1000)
    (lo n c : Nat) (A : Option Addr) (cs : List Value) (hown : w.ownsRow lo e sz (.slice A n c) n cs)
    (ad : Addr) (m c' : Nat) (news : List Value) (hm : 0 < m) (hl : news.length = m * sz) (hnews : ∀ j u, news[j]? = some u → w.cell? (ad.add j) = some u) (h1 : ∀ u ∈ news, u.oneCell' = true)
    (hnm : n + m ≤ 16777216) (hlo : lo ≤ w.heap.size) :
    ∃ g' cd w', (Builtin.append_ #[t, t] ty #[.slice A n c, .slice (some ad) m c']).run P w = .ok (.slice (some ⟨g', 0, none⟩) (n + m) cd) w' ∧ w'.ownsRow lo e sz (.slice (some ⟨g', 0, none⟩) (n + m) cd) (n + m) (cs ++ news) ∧ w.grownBy w' (Value.ownBlock (.slice A n c)) ∧ (Value.ownBlock (.slice A n c) = some g' ∨ w.heap.size ≤ g') := by
  have hbytes : (n + m) * by_ ≤ 140737488355328 := by
    have : (n + m) * by_ ≤ 16777216 * 1000 := Nat.mul_le_mul hnm hb8
    omega
  have h63 : n + m ≤ maxLen := by simp only [maxLen]; omega
  rcases hown.2 with ⟨hv, hn⟩ | ⟨g, cap, cur, hv, hbg, hg, _⟩
  · injection hv with e1 e2 e3
    subst e1; subst hn; subst e3
    have hx : cs = [] := List.eq_nil_of_length_eq_zero (by simpa using hown.1)
    subst hx
    obtain ⟨v', w', hr, h2, h3, h4⟩ := run_append_own (P := P) w w.heap.size t ty e i z sz by_ ht hi hz hsize hby hzs hsz (.slice none 0 0) 0 [] (World.ownsRow_nil _ _ _ _) ad m c' news hl hnews h1 h63 hbytes (Nat.le_refl _)
    rcases h2.2 with ⟨hv', hn'⟩ | ⟨g', cd, cur, hv', hb', rest⟩
    · omega
    · subst hv'
      exact ⟨g', cd, w', hr, ⟨h2.1, .inr ⟨g', cd, cur, rfl, by omega, rest⟩⟩, h3, .inr hb'⟩
  · injection hv with e1 e2 e3
    subst e1; subst e3
    obtain ⟨v', w', hr, h2, h3, h4⟩ := run_append_own (P := P) w lo t ty e i z sz by_ ht hi hz hsize hby hzs hsz _ n cs hown ad m c' news hl hnews h1 h63 hbytes hlo
    obtain ⟨g', cd, rfl, hw⟩ := run_append_where (P := P) w t ty e i z sz by_ ht hi hz hsize hby lo g n c cs hown ad m c' news hl hnews h1 h63 hbytes v' w' hr
    refine ⟨g', cd, w', hr, h2, h3, ?_⟩
    rcases hw with rfl | ⟨h, _⟩
    · exact .inl rfl
    · exact .inr (by omega)

/-- The same as a step of a walk behind a fence. -/
theorem wpListIn_append_t {F : Fence} {nf : Nat} {P : Program} {w : World} {ops : Array Oper} {rest : List Oper} {o : Oper} {a : Act} {Q : Exit → Act → World → Prop} (hgd : o.guard = none) (s x : Operand) (t : TypeId)
    (ho : o.op = .call { callee := .builtin .append, args := #[s, x], argTypes := #[t, t] })
    (e : TypeId) (sz by_ : Nat) (z : Value) (i : TypeInfo) (ht : P.underlying t = some (.slice e)) (hi : P.info? e = some i) (hz : i.zero = some z) (hsize : i.size = sz) (hby : i.bytes = by_) (hzs : z.cells.size = sz) (hsz : 0 < sz) (hb8 : by_ ≤ 1000)
    (lo n c : Nat) (A : Option Addr) (cs : List Value) (hs : a.eval s = .slice A n c) (hown : w.ownsRow lo e sz (.slice A n c) n cs)
    (ad : Addr) (m c' : Nat) (news : List Value) (hx : a.eval x = .slice (some ad) m c') (hm : 0 < m) (hl : news.length = m * sz) (hnews : ∀ j u, news[j]? = some u → w.cell? (ad.add j) = some u) (h1 : ∀ u ∈ news, u.oneCell' = true)
    (hnm : n + m ≤ 16777216) (hlo : lo ≤ w.heap.size)
    (h : ∀ (g' cd : Nat) (w' : World), w'.ownsRow lo e sz (.slice (some ⟨g', 0, none⟩) (n + m) cd) (n + m) (cs ++ news) → w.grownBy w' (Value.ownBlock (.slice A n c)) → (Value.ownBlock (.slice A n c) = some g' ∨ w.heap.size ≤ g') → wpListIn F nf P ops Q rest (a.put o.dst (.slice (some ⟨g', 0, none⟩) (n + m) cd)) w') :
    wpListIn F nf P ops Q (o :: rest) a w := by
  obtain ⟨g', cd, w', hr, h2, h3, h4⟩ := run_append_t (P := P) w t o.type e sz by_ z i ht hi hz hsize hby hzs hsz hb8 lo n c A cs hown ad m c' news hm hl hnews h1 hnm hlo
  refine wpListIn_plain hgd fun K hK' => ?_
  unfold Oper.wpIn
  refine ⟨?_, ?_⟩
  · simp [Oper.about, ho, resolve, Target.leads, Sem.run_pure]
  · rw [Oper.semAt_plain F _ _ (by rw [ho]; intro c hc'; cases hc')]
    simp [execOp, ho, resolve, invoke, builtin, hs, hx, hr, Result.andThen]
    exact hK' _ _ (h g' cd w' h2 h3 h4)

set_option maxRecDepth 100000 in
set_option maxHeartbeats 4000000 in
theorem good1t_in {p : Cm → Prop} (hC : ClaimsC) (nn l Bs gv : Nat) (hnn : 1 ≤ nn) (A : Option Addr) (n c : Nat) (xs : List Int) (W : World) (hbox : W.cell? ⟨Bs, 0, none⟩ = some (.slice A n c)) (hr : Rd W W.heap.size A n xs) (hn : n ≤ 2097152) (hnc : n ≤ c) (v0 : Value) (hv0 : W.cell? ⟨gv, 0, none⟩ = some v0) (hsp : ∀ b, W.heap.size ≤ b → SpT gv v0 b)
    (hT : ∀ c ∈ claimsL xs, c.good = true → p c) (J Jx : List (Gq p) → World → Prop) (hJ : AbidesFrom W.heap.size J)
    (hY : ∀ pre (x : Gq p) W1, J pre W1 → pre.length < 1296 → YieldAt Fence.wide (nn - 1) Tryz.prog l #[.agg #[.int .i64 x.1.kind, .int .i64 x.1.frm, .int .i64 x.1.slot, .int .i64 x.1.place, .int .i64 x.1.target, .bool x.1.good]] W1 fun e W' =>
      (e = .returned (.bool true) ∧ J (pre ++ [x]) W' ∧ KpT gv W1 W') ∨ (e = .returned (.bool false) ∧ Jx (pre ++ [x]) W')) (h0 : J [] W) :
    CallsIn Fence.wide nn Tryz.prog 150 #[.func (.yield l) #[] #[], .pointer (some ⟨Bs, 0, none⟩)] W fun e W' => (∃ v, e = .returned v) ∧
      ((∃ ys : List (Gq p), ys.map Subtype.val = (claimsL xs).filter (fun c => c.good) ∧ J ys W') ∨ (∃ pre, True ∧ Jx pre W')) := by
  refine callsIn_of_wp Tryz.func150 rfl trivial ?_ rfl
  simp only [Tryz.ntmps150, List.size_toArray, List.length_cons, List.length_nil, Nat.reduceAdd, Nat.reduceSub, Array.replicate_succ, Array.replicate_zero, List.push_toArray, List.append_toArray, List.nil_append, List.cons_append]
  have hz : ∀ s W1 W2, J s W1 → Below W1.heap.size W1 W2 → J s W2 := fun s W1 W2 h b => hJ s W1 W2 none h (below_grownBy b) (fun _ e => by cases e)
  have HZ := Lib.hid hz
  have HT := Lib.hid hT
  have HY := Lib.hid hY
  have HJ := Lib.hid hJ
  clear hT hY hJ hz
  gi_wp2_with (refine ⟨trivial, ?_⟩; gi_at_call 143; refine (callsIn_wide.2 (hC A n c xs _ hr hn hnc)).mono ?_; rintro e w2 ⟨G, cg, rfl, oG, b2⟩)
  have hll := claimsL_length xs
  have sb2 := b2.size
  have hJ0 := HZ.out _ _ _ h0 b2
  have HV2 := Lib.hid ((World.cell?_of_block (a := ⟨gv, 0, none⟩) (b2.block gv (World.block_lt_of_cell? W _ hv0))).trans hv0)
  have HSP := Lib.hid hsp
  have HG := Lib.hid oG
  clear oG hr h0 b2 hbox hv0 hsp
  generalize hL : claimsL xs = L at *
  have HL := Lib.hid hL
  clear hL
  gi_wp2
  gi_loopw [8] (fun i wr => ∃ (k : Nat) (pre : List (Gq p)), k ≤ L.length ∧ i = .int .i64 k ∧ pre.map Subtype.val = (L.take k).filter (fun c => c.good) ∧ J pre wr ∧ KpT gv w2 wr) (fun i _ => L.length - (intOf i).toNat)
  case atStart => exact ⟨0, [], Nat.zero_le _, rfl, by simp, hJ0, KpT.refl _ _⟩
  case round =>
    obtain ⟨k, pre, hk, rfl, hpre, hJs, hkp⟩ := hrel
    have HP := Lib.hid hpre
    have HK := Lib.hid hkp
    clear hpre hkp hJ0
    by_cases hlt : k < L.length
    · obtain ⟨g, rfl, hg1, hg2, hg3, hce⟩ := cmr_cells8 HG.out hlt
      obtain ⟨_, _, hk2⟩ := HK.out.2 _ HV2.out
      have hk3 := (hk2 g hg3 (HSP.out g hg1)).2
      have hce : ∀ j v, j < 6 → (cmV (L.getD k cm0))[j]? = some v → wr.cell? ⟨g, k * 6 + j, none⟩ = some v := fun j v hj hv => hk3 _ _ ((hce j hj).trans hv)
      clear hk2 hk3
      have HS := Lib.hid (filt_step L k hlt)
      have HTk := Lib.hid (HT.out (L.getD k cm0) (by rw [show L.getD k cm0 = L[k] by simp [List.getD_eq_getElem?_getD, hlt]]; exact List.getElem_mem hlt))
      have hpl : pre.length < 1296 := by
        have h1 : pre.length = ((L.take k).filter (fun c => c.good)).length := by rw [← HP.out]; simp
        have h2 := List.length_filter_le (fun c : Cm => c.good) (L.take k)
        have h3 : (L.take k).length ≤ k := List.length_take_le _ _
        omega
      generalize L.getD k cm0 = x at *
      obtain ⟨xk, xf, xs', xp, xt, xg⟩ := x
      have e0 : wr.cell? ⟨g, k * 6, none⟩ = some (.int .i64 xk) := hce 0 _ (by omega) rfl
      have e1 : wr.cell? ⟨g, k * 6 + 1, none⟩ = some (.int .i64 xf) := hce 1 _ (by omega) rfl
      have e2 : wr.cell? ⟨g, k * 6 + 2, none⟩ = some (.int .i64 xs') := hce 2 _ (by omega) rfl
      have e3 : wr.cell? ⟨g, k * 6 + 3, none⟩ = some (.int .i64 xp) := hce 3 _ (by omega) rfl
      have e4 : wr.cell? ⟨g, k * 6 + 4, none⟩ = some (.int .i64 xt) := hce 4 _ (by omega) rfl
      have e5 : wr.cell? ⟨g, k * 6 + 5, none⟩ = some (.bool xg) := hce 5 _ (by omega) rfl
      clear hce
      have hJ1 := HZ.out _ _ _ hJs ((Below.refl _ wr).alloc (Nat.le_refl _) (.cells #[.int .i64 xk, .int .i64 xf, .int .i64 xs', .int .i64 xp, .int .i64 xt, .bool xg] 115))
      cases xg
      · gi_wp2
        refine ⟨fun _ h => (by cases h), ?_⟩
        gi_wp2
        go_roundw
        case rel => exact ⟨k + 1, pre, by omega, by go_num, by rw [HS.out, HP.out]; simp, hJ1, HK.out.alloc _⟩
        case measure => simp [intOf]; omega
      · have hpx := HTk.out rfl
        obtain ⟨fn, tmps, assign, body, hy, hR⟩ := HY.out pre ⟨⟨xk, xf, xs', xp, xt, true⟩, hpx⟩ _ hJ1 hpl
        dsimp only at hy
        gi_wp2
        refine hR.mono ?_
        rintro e W3 (⟨rfl, hJ3, hk3⟩ | ⟨rfl, hJx3⟩)
        · have hk3 := (HK.out.alloc _).trans hk3
          gi_wp2
          go_roundw
          case rel => exact ⟨k + 1, pre ++ [⟨⟨xk, xf, xs', xp, xt, true⟩, hpx⟩], by omega, by go_num, by rw [HS.out, List.map_append, HP.out]; simp, hJ3, hk3⟩
          case measure => simp [intOf]; omega
        · gi_wp2
          refine bodyPost_ret (results_none rfl _ _ _) rfl ?_
          exact ⟨⟨_, rfl⟩, .inr ⟨_, trivial, hJx3⟩⟩
    · obtain rfl : k = L.length := by omega
      gi_wp2
      go_end0
      refine ⟨⟨_, rfl⟩, .inl ⟨pre, ?_, hJs⟩⟩
      rw [HP.out, List.take_length, HL.out]

theorem goodt_stops {p : Cm → Prop} (hC : ClaimsC) (nn Bs gv : Nat) (hnn : 1 ≤ nn) (A : Option Addr) (n c : Nat) (xs : List Int) (w : World) (hbs : Bs < w.heap.size) (hbox : w.cell? ⟨Bs, 0, none⟩ = some (.slice A n c)) (hr : Rd w w.heap.size A n xs) (hn : n ≤ 2097152) (hnc : n ≤ c) (v0 : Value) (hv0 : w.cell? ⟨gv, 0, none⟩ = some v0) (hsp : ∀ b, w.heap.size ≤ b → SpT gv v0 b)
    (hT : ∀ c ∈ claimsL xs, c.good = true → p c) :
    SeqStopsK Fence.wide nn Tryz.prog 150 #[.pointer (some ⟨Bs, 0, none⟩)] (fun x : Gq p => #[Value.agg #[.int .i64 x.1.kind, .int .i64 x.1.frm, .int .i64 x.1.slot, .int .i64 x.1.place, .int .i64 x.1.target, .bool x.1.good]]) (KpT gv)
      (fun ys => ys.map Subtype.val = (claimsL xs).filter (fun c => c.good)) (fun _ => True) 1296 w := fun l J Jx W hW hJ _ hY h0 =>
  good1t_in hC nn l Bs gv hnn A n c xs W ((hW.cell (p := ⟨Bs, 0, none⟩) hbs).trans hbox) ((hr.below hW).more hW.size) hn hnc v0 ((hW.cell (p := ⟨gv, 0, none⟩) (World.block_lt_of_cell? w _ hv0)).trans hv0) (fun b hb => hsp b (Nat.le_trans hW.size hb)) hT J Jx hJ hY h0

attribute [local go_sem] Oper.semAt_some

/-- A region that draws its order and only reads, in a round of a loop over a function. -/
theorem wpIn_region_quiet_round {id l n : Nat} {P : Program} {Q : Exit → Act → World → Prop} {a : Act} {w : World} {ol : List Oper} (hm : P.follows .mixedOrders = true) (hB : Region.lexB .any ol.toArray = true) (hd : ol.toArray.all noDefer = true) (hl : ¬ LetsOut Q)
    (h : wpQuiet P ol.toArray (fun w' => ∃ n, w' = w.drewN n) (fun a' => ∀ w', (∃ n, w' = w.drewN n) → Q .normal a' w') ol a) : (Code.region id ol.toArray true).wpIn (Fence.wide.inRound l) n P Q a w := by
  simp only [Region.lexB, Bool.and_eq_true] at hB
  refine wpIn_region_any hm (wpAnyIn_round (noDefer_spec hd) hl _ _ _ _ (wpAny_of_quiet (C := fun w' => ∃ n, w' = w.drewN n) (Q := fun a' => ∀ w', (∃ n, w' = w.drewN n) → Q .normal a' w') (fun _ w' hw' h => h w' hw') _ _ _ _ ⟨1, rfl⟩ ?_))
  have := wpAnyQ_lex (C := fun w' => ∃ n, w' = w.drewN n) (md := .any) hB.1 ol.toArray.toList 0 (Array.replicate ol.toArray.size false) a (by simp) (by simpa using hB.2) (by simpa using h)
  simpa using this

/-- Between two rounds of a pass: the tables so far, in a row that lies in the box T. -/
structure TgP (w : World) (T S I : Nat) (iv : Int) (Ds : List Nat) (o : List Cm) (W : World) : Prop where
  row : ∃ v, Boxed W T 112 v ∧ W.ownsRow w.heap.size 115 6 v o.length (o.flatMap cmV)
  lit : W.heap[S]? = some (.cells #[.int .i64 4, .int .i64 7, .int .i64 8] 2 (0, 0))
  ins : Boxed W I 2 (.int .i64 iv)
  ds : ∀ D ∈ Ds, W.heap[D]? = some (.deferred (some []))
  bel : Below w.heap.size w W
theorem own_away {W : World} {S base e size k : Nat} {t : TypeId} {c : Array Value} {fz : Nat × Nat} {v : Value} {xs : List Value} (h : W.heap[S]? = some (.cells c t fz)) (hte : t ≠ e) (hr : W.ownsRow base e size v k xs) : v.ownBlock ≠ some S := by
  rcases hr.2 with ⟨rfl, _⟩ | ⟨g, cap, cur, rfl, _, hgb, _⟩
  · simp [Value.ownBlock]
  · intro e'
    obtain rfl : g = S := by simpa [Value.ownBlock] using e'
    rw [hgb] at h
    injection h with h
    injection h with _ h _
    exact hte h.symm
theorem TgP.own {α : Type} {w : World} {T S I B : Nat} {iv : Int} {Ds : List Nat} {f : List α → List Cm} (h1 : w.heap.size ≤ B) (h2 : T < B) (h3 : S < B) (h4 : I < B) (h5 : ∀ D ∈ Ds, D < B) : OwnFrom B (fun pre W => TgP w T S I iv Ds (f pre) W) := fun s X Y row hs hg hr => by
  obtain ⟨⟨v, hv, hrow⟩, hlit, hins, hds, hb⟩ := hs
  refine ⟨⟨v, hv.kept hg (fun e => by have := (hr _ e.symm).1; omega), hrow.kept hg ?_⟩, (hg.block S (Array.getElem?_eq_some_iff.1 hlit).1 (fun e => by have := (hr _ e.symm).1; omega)).trans hlit, hins.kept hg (fun e => by have := (hr _ e.symm).1; omega),
    fun D hD => (hg.block D (Array.getElem?_eq_some_iff.1 (hds D hD)).1 (fun e => by have := (hr _ e.symm).1; have := h5 D hD; omega)).trans (hds D hD), hb.grown hg hb.size (fun k e => by have := (hr _ e).1; omega)⟩
  rcases hrow.2 with ⟨rfl, _⟩ | ⟨g, cap, cur, rfl, _, hgb, _⟩
  · exact .inl rfl
  · refine .inr fun e' => ?_
    obtain ⟨_, o, ho, hc⟩ := hr g (by simpa [Value.ownBlock] using e'.symm)
    rw [hgb] at ho; cases ho; cases hc
theorem own_below {W W' : World} {base e size k : Nat} {v : Value} {xs : List Value} (h : W.ownsRow base e size v k xs) (hb : Below W.heap.size W W') : W'.ownsRow base e size v k xs := by
  refine h.kept (below_grownBy hb) ?_
  rcases h.2 with ⟨rfl, _⟩ | ⟨g, cap, cur, rfl, _, hgb, _⟩
  · exact .inl rfl
  · exact .inr (by simp [Value.ownBlock])
theorem TgP.below {w : World} {T S I : Nat} {iv : Int} {Ds : List Nat} {o : List Cm} {W W' : World} (h : TgP w T S I iv Ds o W) (hb : Below W.heap.size W W') : TgP w T S I iv Ds o W' := by
  obtain ⟨⟨v, hv, hrow⟩, hlit, hins, hds, hw⟩ := h
  refine ⟨⟨v, hv.kept (below_grownBy hb) (by simp), own_below hrow hb⟩, (hb.block S (Array.getElem?_eq_some_iff.1 hlit).1).trans hlit, hins.kept (below_grownBy hb) (by simp), fun D hD => (hb.block D (Array.getElem?_eq_some_iff.1 (hds D hD)).1).trans (hds D hD), below_more hw hb hw.size⟩
/-- The round's claim lies in a box of its own. -/
def TgX (T S I : Nat) (tm : Gq (fun c => c.good = true) → Nat → Array Value) (x : Gq (fun c => c.good = true)) (a : Act) (W : World) : Prop :=
  ∃ Bx, T < Bx ∧ S < Bx ∧ I < Bx ∧ W.heap[Bx]? = some (.cells #[.int .i64 x.1.kind, .int .i64 x.1.frm, .int .i64 x.1.slot, .int .i64 x.1.place, .int .i64 x.1.target, .bool x.1.good] 115 (0, 0)) ∧ a = { tmps := tm x Bx, defers := [] }
theorem TgX.own {T S I B : Nat} {tm : Gq (fun c => c.good = true) → Nat → Array Value} {x : Gq (fun c => c.good = true)} {a : Act} : OwnFrom B (fun (_ : Unit) W => TgX T S I tm x a W) := fun _ X Y row hs hg hr => by
  obtain ⟨Bx, h1, h2, h5, h3, h4⟩ := hs
  refine ⟨Bx, h1, h2, h5, ?_, h4⟩
  refine (hg.block Bx (Array.getElem?_eq_some_iff.1 h3).1 (fun e => ?_)).trans h3
  obtain ⟨_, o, ho, hc⟩ := hr _ e.symm
  rw [h3] at ho
  cases ho
  cases hc

theorem tg_snoc (iv : Int) (pre : List (Gq (fun c => c.good = true))) (x : Gq (fun c => c.good = true)) (o : List Cm) : ((pre ++ [x]).map Subtype.val).foldl (tgStep iv) o = tgStep iv ((pre.map Subtype.val).foldl (tgStep iv) o) x.1 := by
  rw [List.map_append, List.foldl_append]; rfl
theorem tg_len (iv : Int) (pre : List (Gq (fun c => c.good = true))) (o : List Cm) : ((pre.map Subtype.val).foldl (tgStep iv) o).length ≤ o.length + pre.length := by
  have := foldl_length (tgStep iv) 1 (tgStep_length iv) (pre.map Subtype.val) o
  rw [List.length_map] at this
  omega
theorem tgRound_len (xs : List Int) (o : List Cm) (iv : Int) : (tgRound (claimsL xs) o iv).length ≤ o.length + 1296 := by
  have h1 := foldl_length (tgStep iv) 1 (tgStep_length iv) ((claimsL xs).filter fun c => c.good) o
  have h2 := List.length_filter_le (fun c : Cm => c.good) (claimsL xs)
  have h3 := claimsL_length xs
  unfold tgRound
  omega
theorem tgRound_one (xs : List Int) : (tgRound (claimsL xs) [] 4).length ≤ 1296 := by
  have := tgRound_len xs [] 4
  simpa using this
theorem tgRound_two (xs : List Int) : (tgRound (claimsL xs) (tgRound (claimsL xs) [] 4) 7).length ≤ 2592 := by
  have h1 := tgRound_len xs (tgRound (claimsL xs) [] 4) 7
  have h2 := tgRound_one xs
  omega
theorem row_form {W : World} {base e size k : Nat} {v : Value} {xs : List Value} (h : W.ownsRow base e size v k xs) : ∃ A c, v = .slice A k c := by
  rcases h.2 with ⟨rfl, rfl⟩ | ⟨g, cap, cur, rfl, _⟩
  · exact ⟨none, 0, rfl⟩
  · exact ⟨_, cap, rfl⟩

set_option maxRecDepth 100000 in
set_option maxHeartbeats 16000000 in
theorem tablesGone_any (hC : ClaimsC) (A : Option Addr) (n c : Nat) (xs : List Int) (w : World) (hr : Rd w w.heap.size A n xs) (hn : n ≤ 2097152) (hnc : n ≤ c) :
    Calls Tryz.prog 127 #[.slice A n c] w (RetCms w (tgL (claimsL xs))) := by
  obtain ⟨i0, hi0, hz0, hz1, hz2⟩ := info_parts infoCm
  refine (callsIn_wide (n := 5)).1 ?_
  refine callsIn_of_wp_marks Tryz.func127 rfl trivial ?_ rfl
  simp only [Tryz.ntmps127, List.size_toArray, List.length_cons, List.length_nil, Nat.reduceAdd, Nat.reduceSub, Array.replicate_succ, Array.replicate_zero, List.push_toArray, List.append_toArray, List.nil_append, List.cons_append]
  have b1 := (Below.refl w.heap.size w).alloc (Nat.le_refl _) (.cells #[.slice none 0 0] 112)
  have b2 := b1.alloc b1.size (.cells #[.int .i64 4, .int .i64 7, .int .i64 8] 2)
  have x1 : Boxed (w.alloc (.cells #[.slice none 0 0] 112)) w.heap.size 112 (.slice none 0 0) := Boxed.new _ _ _
  have x2 := x1.alloc (.cells #[.int .i64 4, .int .i64 7, .int .i64 8] 2)
  have l2 : ((w.alloc (.cells #[.slice none 0 0] 112)).alloc (.cells #[.int .i64 4, .int .i64 7, .int .i64 8] 2)).heap[w.heap.size + 1]? = some (.cells #[.int .i64 4, .int .i64 7, .int .i64 8] 2 (0, 0)) := by
    have := World.alloc_heap_new (w.alloc (.cells #[.slice none 0 0] 112)) (.cells #[.int .i64 4, .int .i64 7, .int .i64 8] 2)
    rwa [World.size_alloc] at this
  obtain ⟨T, hTe⟩ : ∃ T, w.heap.size = T := ⟨_, rfl⟩
  have hTw : w.heap.size ≤ T := by omega
  gi_wp2_with fail
  refine wpIn_loop_rounds 4 ?_
  rw [roundsIn_succ]
  have hQ : ∃ v, Boxed ((w.alloc (.cells #[.slice none 0 0] 112)).alloc (.cells #[.int .i64 4, .int .i64 7, .int .i64 8] 2)) T 112 v ∧ ((w.alloc (.cells #[.slice none 0 0] 112)).alloc (.cells #[.int .i64 4, .int .i64 7, .int .i64 8] 2)).ownsRow w.heap.size 115 6 v ([] : List Cm).length (([] : List Cm).flatMap cmV) := ⟨_, hTe ▸ x2, World.ownsRow_nil _ _ _ _⟩
  rw [hTe] at l2
  have hP1 : (∃ v, Boxed ((w.alloc (.cells #[.slice none 0 0] 112)).alloc (.cells #[.int .i64 4, .int .i64 7, .int .i64 8] 2)) T 112 v ∧ ((w.alloc (.cells #[.slice none 0 0] 112)).alloc (.cells #[.int .i64 4, .int .i64 7, .int .i64 8] 2)).ownsRow w.heap.size 115 6 v ([] : List Cm).length (([] : List Cm).flatMap cmV)) ∧ ((w.alloc (.cells #[.slice none 0 0] 112)).alloc (.cells #[.int .i64 4, .int .i64 7, .int .i64 8] 2)).heap[T + 1]? = some (.cells #[.int .i64 4, .int .i64 7, .int .i64 8] 2 (0, 0)) ∧ True ∧ (∀ D ∈ ([] : List Nat), ((w.alloc (.cells #[.slice none 0 0] 112)).alloc (.cells #[.int .i64 4, .int .i64 7, .int .i64 8] 2)).heap[D]? = some (.deferred (some []))) ∧ Below w.heap.size w ((w.alloc (.cells #[.slice none 0 0] 112)).alloc (.cells #[.int .i64 4, .int .i64 7, .int .i64 8] 2)) := ⟨hQ, l2, trivial, fun _ h => (by cases h), b2⟩
  clear x1 x2 l2 b1 b2 hQ
  generalize (w.alloc (.cells #[.slice none 0 0] 112)).alloc (.cells #[.int .i64 4, .int .i64 7, .int .i64 8] 2) = V0 at *
  obtain ⟨⟨v1, hv1, hrow1⟩, hlit1, _, hds1, hw1⟩ := hP1
  have l01 : V0.cell? ⟨T + 1, 0, none⟩ = some (.int .i64 4) := by simp [World.cell?, hlit1]
  have ltT1 := hv1.lt
  have ltS1 := (Array.getElem?_eq_some_iff.1 hlit1).1
  have x41 := hv1.alloc (.cells #[.int .i64 4] 2)
  have x51 := x41.alloc (.cells #[.slice A n c] 24)
  have i41 : Boxed (V0.alloc (.cells #[.int .i64 4] 2)) V0.heap.size 2 (.int .i64 4) := Boxed.new _ _ _
  have i51 := i41.alloc (.cells #[.slice A n c] 24)
  have y51 := Boxed.new (V0.alloc (.cells #[.int .i64 4] 2)) 24 (.slice A n c)
  have r51 := (hrow1.alloc (.cells #[.int .i64 4] 2)).alloc (.cells #[.slice A n c] 24)
  have b51 := (hw1.alloc hw1.size (.cells #[.int .i64 4] 2)).alloc (hw1.alloc hw1.size (.cells #[.int .i64 4] 2)).size (.cells #[.slice A n c] 24)
  have q51 : Below V0.heap.size V0 ((V0.alloc (.cells #[.int .i64 4] 2)).alloc (.cells #[.slice A n c] 24)) := ((Below.refl _ V0).alloc (Nat.le_refl _) _).alloc (by simp) _
  have z51 : ((V0.alloc (.cells #[.int .i64 4] 2)).alloc (.cells #[.slice A n c] 24)).heap.size = V0.heap.size + 2 := by simp
  rw [World.size_alloc] at y51
  have P51 : TgP w T (T + 1) V0.heap.size 4 [] ([] : List Cm) ((V0.alloc (.cells #[.int .i64 4] 2)).alloc (.cells #[.slice A n c] 24)) :=
    ⟨⟨v1, x51, r51⟩, (q51.block _ ltS1).trans hlit1, i51, fun D hD => (q51.block D (Array.getElem?_eq_some_iff.1 (hds1 D hD)).1).trans (hds1 D hD), b51⟩
  have HDL1 : Hid (∀ D ∈ ([] : List Nat), D < V0.heap.size) := fun D hD => (Array.getElem?_eq_some_iff.1 (hds1 D hD)).1
  have HSP1 : Hid (∀ b, V0.heap.size + 2 ≤ b → SpT T v1 b) := fun b hb => ⟨by omega, fun e => by have := (hrow1.lt b e).2; omega⟩
  clear hv1 hrow1 hlit1 hds1 i41 i51 x41 r51 q51
  gi_wp2_with (refine ⟨trivial, ?_⟩; gi_at_call 131; refine (good_in A n c _ _).mono ?_; rintro e w' ⟨rfl, rfl⟩)
  generalize (V0.alloc (.cells #[.int .i64 4] 2)).alloc (.cells #[.slice A n c] 24) = w51 at *
  refine wpIn_rangeFunc_ownH rfl (by omega) (gf := 150) (lb := #[.pointer (some ⟨V0.heap.size + 1, 0, none⟩)]) rfl trivial (enters_of Tryz.func150 (by kernel_rfl) rfl)
    (goodt_stops hC 4 (V0.heap.size + 1) T (by omega) A n c xs w51 (by omega) y51.cell ((hr.below b51).more b51.size) hn hnc v1 x51.cell (fun b hb => HSP1.out b (by omega)) (fun _ _ h => h)) KpT.trans (fun W l o o' _ h ho _ => KpT.put o' h ho) (Below.refl _ _) (fun _ => rfl)
    (fun pre W => TgP w T (T + 1) V0.heap.size 4 [] ((pre.map Subtype.val).foldl (tgStep 4) ([] : List Cm)) W) (fun _ _ _ => False) (TgP.own (f := fun pre => (pre.map Subtype.val).foldl (tgStep 4) ([] : List Cm)) (by omega) (by omega) (by omega) (by omega) (fun D hD => by have := HDL1.out D hD; omega)) (fun _ _ _ _ _ hs _ _ => hs) P51
    (TgX T (T + 1) V0.heap.size (fun x Bx => #[.slice A n c, undef, .slice none 0 0, .pointer (some ⟨T, 0, none⟩), undef, .pointer (some ⟨V0.heap.size, 0, none⟩), .pointer (some ⟨Bx, 0, none⟩), undef, .slice (some ⟨T + 1, 0, none⟩) 3 3, .int .i64 3, .int .i64 0, .bool true, .pointer (some ⟨T + 1, 0, none⟩), .int .i64 4, .slice A n c, .func (.func 150) #[] #[.pointer (some ⟨V0.heap.size + 1, 0, none⟩)], .agg #[.int .i64 x.1.kind, .int .i64 x.1.frm, .int .i64 x.1.slot, .int .i64 x.1.place, .int .i64 x.1.target, .bool x.1.good], undef, undef, undef, undef, undef, undef, undef, undef, undef, undef, undef, undef, undef, undef, undef, undef, undef, undef])) (fun _ _ => TgX.own) ?assign1 ?body1 ?done1 ?stop1
  case assign1 =>
    rintro l pre x W K hPa hK
    have lT := (hPa.row.choose_spec.1).lt
    have lS := (Array.getElem?_eq_some_iff.1 hPa.lit).1
    have lI := hPa.ins.lt
    gi_wp2
    exact hK _ _ ((KeepsOthers.alloc _ _).from _) ((KpT.refl _ _).alloc _) (hPa.below ((Below.refl _ W).alloc (Nat.le_refl _) _)) ⟨W.heap.size, lT, lS, lI, World.alloc_heap_new W _, rfl⟩
  case body1 =>
    rintro l pre x a' W hl _ ⟨⟨v, hbx, hrow⟩, hlit, hins, hds, hw⟩ ⟨Bx, h1, h2, h5, h3, rfl⟩ hlt
    have HS := Lib.hid (tg_snoc 4 pre x ([] : List Cm))
    have hol := tg_len 4 pre ([] : List Cm)
    have hob := show ([] : List Cm).length = 0 from rfl
    generalize ((pre.map Subtype.val).foldl (tgStep 4) ([] : List Cm)) = o at *
    obtain ⟨⟨xk, xf, xs', xp, xt, xg⟩, tg⟩ := x
    simp only at tg h3 HS
    subst tg
    obtain ⟨A', c', rfl⟩ := row_form hrow
    have hH := hasTarget_any Bx xt A' c' w.heap.size W.heap.size o W (by omega) (by simp [World.cell?, h3]) ⟨hrow, fun g hg => (hrow.lt g hg).2⟩
    have HH := Lib.hid hH
    have c1 := hbx.cell
    have lB := (Array.getElem?_eq_some_iff.1 h3).1
    clear hH
    gi_wp2_with (refine ⟨trivial, ?_⟩; gi_at_call 145; refine (CallsIn.inRound l (callsIn_wide.2 HH.out)).mono ?_; rintro e W2 ⟨rfl, b2⟩)
    have e0 : W2.cell? ⟨Bx, 0, none⟩ = some (.int .i64 xk) := (b2.cell (p := ⟨Bx, 0, none⟩) lB).trans (by simp [World.cell?, h3])
    have i2 : W2.cell? ⟨V0.heap.size, 0, none⟩ = some (.int .i64 4) := (b2.cell (p := ⟨V0.heap.size, 0, none⟩) hins.lt).trans hins.cell
    have HT : Hid (tgStep 4 o ⟨xk, xf, xs', xp, xt, true⟩ = if kindIn xk = 4 ∧ (o.any fun t => t.target == xt) = false then o ++ [⟨xk, xf, xs', xp, xt, true⟩] else o) := rfl
    cases hk : (kindIn xk == 4)
    · have HE : Hid (tgStep 4 o ⟨xk, xf, xs', xp, xt, true⟩ = o) := by rw [HT.out, if_neg (fun h => by rw [h.1] at hk; simp at hk)]; exact rfl
      clear HT
      gi_wp2_with fail
      refine wpIn_region_quiet_round (by kernel_rfl) (by kernel_rfl) (by kernel_rfl) (by rintro ⟨_, _, h⟩; exact h) ?_
      repeat (quiet_step ((go_at_call 147; exact (kindInside_any _ _).mono (fun _ _ h => ⟨h.1, _, h.2.symm⟩))))
      refine wpQuiet_nil ?_
      intro W3 hW3
      obtain ⟨nq, rfl⟩ := hW3
      have b3 := below_drewN b2 nq
      gi_wp2
      exact ⟨KeepsFrom.of_grownBy (below_grownBy b3) (fun _ e => by cases e), KpT.below b3, by show TgP w T (T + 1) V0.heap.size 4 [] (((pre ++ [(⟨⟨xk, xf, xs', xp, xt, true⟩, rfl⟩ : Gq (fun c => c.good = true))]).map Subtype.val).foldl (tgStep 4) ([] : List Cm)) _; rw [HS.out, HE.out]; exact TgP.below ⟨⟨_, hbx, hrow⟩, hlit, hins, hds, hw⟩ b3⟩
    · cases hn2 : (o.any fun t => t.target == xt)
      · have HE : Hid (tgStep 4 o ⟨xk, xf, xs', xp, xt, true⟩ = o ++ [⟨xk, xf, xs', xp, xt, true⟩]) := by rw [HT.out, if_pos ⟨by simpa using hk, hn2⟩]; exact rfl
        clear HT
        gi_wp2_with fail
        refine wpIn_region_quiet_round (by kernel_rfl) (by kernel_rfl) (by kernel_rfl) (by rintro ⟨_, _, h⟩; exact h) ?_
        repeat (quiet_step ((go_at_call 147; exact (kindInside_any _ _).mono (fun _ _ h => ⟨h.1, _, h.2.symm⟩))))
        refine wpQuiet_nil ?_
        intro W3 hW3
        obtain ⟨nq, rfl⟩ := hW3
        have b3 := below_drewN b2 nq
        generalize W2.drewN nq = W3 at *
        have P3 : TgP w T (T + 1) V0.heap.size 4 [] o W3 := TgP.below ⟨⟨_, hbx, hrow⟩, hlit, hins, hds, hw⟩ b3
        have f0 : W3.cell? ⟨Bx, 0, none⟩ = some (.int .i64 xk) := (b3.cell (p := ⟨Bx, 0, none⟩) lB).trans (by simp [World.cell?, h3])
        have f1 : W3.cell? ⟨Bx, 1, none⟩ = some (.int .i64 xf) := (b3.cell (p := ⟨Bx, 1, none⟩) lB).trans (by simp [World.cell?, h3])
        have f2 : W3.cell? ⟨Bx, 2, none⟩ = some (.int .i64 xs') := (b3.cell (p := ⟨Bx, 2, none⟩) lB).trans (by simp [World.cell?, h3])
        have f3 : W3.cell? ⟨Bx, 3, none⟩ = some (.int .i64 xp) := (b3.cell (p := ⟨Bx, 3, none⟩) lB).trans (by simp [World.cell?, h3])
        have f4 : W3.cell? ⟨Bx, 4, none⟩ = some (.int .i64 xt) := (b3.cell (p := ⟨Bx, 4, none⟩) lB).trans (by simp [World.cell?, h3])
        have f5 : W3.cell? ⟨Bx, 5, none⟩ = some (.bool true) := (b3.cell (p := ⟨Bx, 5, none⟩) lB).trans (by simp [World.cell?, h3])
        have hbx3 := hbx.kept (below_grownBy b3) (by simp)
        have hrow3 := own_below hrow b3
        have c3 := hbx3.cell
        have lw3 := P3.bel.size
        have ltT3 := hbx3.lt
        gi_wp2_with (gi_at_builtin; refine wpListIn_append_t rfl (.tmp 29) (.tmp 31) 112 rfl 115 6 48 _ i0 Tryz.underlying112 hi0 hz0 hz1 hz2 rfl (by omega) (by omega) w.heap.size o.length c' A' _ rfl (hrow3.alloc (.cells #[.int .i64 xk, .int .i64 xf, .int .i64 xs', .int .i64 xp, .int .i64 xt, .bool true] 115)) ⟨W3.heap.size, 0, none⟩ 1 1 #[.int .i64 xk, .int .i64 xf, .int .i64 xs', .int .i64 xp, .int .i64 xt, .bool true].toList rfl (by omega) rfl (by intro j u hj; rw [Addr.add_lit, Nat.zero_add, World.cell?_alloc_new]; simpa using hj) (by simp [Value.oneCell']) (by omega) (by simp; omega) ?_; intro g' cd w6 hown6 hg6 hat6; obtain ⟨bx6, bx7, ow7, ko7, be7⟩ := Boxed.appended (tmp := .cells #[.int .i64 xk, .int .i64 xf, .int .i64 xs', .int .i64 xp, .int .i64 xt, .bool true] 115) hbx3 (by decide) hrow3 lw3 hTw hown6 hg6; have c6 := bx6.cell; have z6 := bx6.frozen)
        refine ⟨(KeepsFrom.of_grownBy (below_grownBy b3) (fun _ e => by cases e)).trans (ko7.from _), ((KpT.below b3).alloc (.cells #[.int .i64 xk, .int .i64 xf, .int .i64 xs', .int .i64 xp, .int .i64 xt, .bool true] 115)).trans (KpT.append (hbx3.alloc _).cell hg6 ?_ (own_away hbx3 (by decide) hrow3)), ?_⟩
        · rcases hat6 with h | h
          · exact .inl h.symm
          · exact .inr (fun g hg => by simp [Value.ownBlock] at hg; omega)
        · have hl6 : w6.heap[T + 1]? = some (.cells #[.int .i64 4, .int .i64 7, .int .i64 8] 2 (0, 0)) := (hg6.block (T + 1) (by have := (Array.getElem?_eq_some_iff.1 P3.lit).1; simp; omega) (fun e => own_away P3.lit (by decide) hrow3 e.symm)).trans ((Below.heap_alloc _ _ _ (Array.getElem?_eq_some_iff.1 P3.lit).1).trans P3.lit)
          have hi6 := (P3.ins.alloc (.cells #[.int .i64 xk, .int .i64 xf, .int .i64 xs', .int .i64 xp, .int .i64 xt, .bool true] 115)).kept hg6 (fun e => own_away P3.ins (by decide) hrow3 e.symm)
          have gs := grownBy_setCell' w6 T (.slice (some ⟨g', 0, none⟩) (o.length + 1) cd)
          show TgP w T (T + 1) V0.heap.size 4 [] (((pre ++ [(⟨⟨xk, xf, xs', xp, xt, true⟩, rfl⟩ : Gq (fun c => c.good = true))]).map Subtype.val).foldl (tgStep 4) ([] : List Cm)) _
          rw [HS.out, HE.out]
          refine ⟨⟨_, bx7, ?_⟩, (gs.block (T + 1) (Array.getElem?_eq_some_iff.1 hl6).1 (fun e => by injection e; omega)).trans hl6, hi6.kept gs (fun e => by injection e; omega), fun D hD => ko7.same D _ (P3.ds D hD) rfl, Below.trans P3.bel be7⟩
          rw [List.length_append, List.flatMap_append]
          exact ow7
      · have HE : Hid (tgStep 4 o ⟨xk, xf, xs', xp, xt, true⟩ = o) := by rw [HT.out, if_neg (fun h => by rw [hn2] at h; cases h.2)]; exact rfl
        clear HT
        gi_wp2_with fail
        refine wpIn_region_quiet_round (by kernel_rfl) (by kernel_rfl) (by kernel_rfl) (by rintro ⟨_, _, h⟩; exact h) ?_
        repeat (quiet_step ((go_at_call 147; exact (kindInside_any _ _).mono (fun _ _ h => ⟨h.1, _, h.2.symm⟩))))
        refine wpQuiet_nil ?_
        intro W3 hW3
        obtain ⟨nq, rfl⟩ := hW3
        have b3 := below_drewN b2 nq
        gi_wp2
        exact ⟨KeepsFrom.of_grownBy (below_grownBy b3) (fun _ e => by cases e), KpT.below b3, by show TgP w T (T + 1) V0.heap.size 4 [] (((pre ++ [(⟨⟨xk, xf, xs', xp, xt, true⟩, rfl⟩ : Gq (fun c => c.good = true))]).map Subtype.val).foldl (tgStep 4) ([] : List Cm)) _; rw [HS.out, HE.out]; exact TgP.below ⟨⟨_, hbx, hrow⟩, hlit, hins, hds, hw⟩ b3⟩
  case stop1 =>
    rintro D c pre W _ _ h _
    exact h.elim
  case done1 =>
    rintro D1 ys V1 hDa1 hS hP2 hK1
    rw [hS] at hP2
    have HHK1 := Lib.hid hK1
    gi_wp2_with fail
    rw [roundsIn_succ]
    obtain ⟨rowN, litN, insN, dsN, belN⟩ := hP2
    have hP2 : (∃ v, Boxed V1 T 112 v ∧ V1.ownsRow w.heap.size 115 6 v (tgRound (claimsL xs) [] 4).length ((tgRound (claimsL xs) [] 4).flatMap cmV)) ∧ V1.heap[T + 1]? = some (.cells #[.int .i64 4, .int .i64 7, .int .i64 8] 2 (0, 0)) ∧ True ∧ (∀ D ∈ ([D1] : List Nat), V1.heap[D]? = some (.deferred (some []))) ∧ Below w.heap.size w V1 := ⟨rowN, litN, trivial, ?dsx1, belN⟩
    case dsx1 =>
      intro D hD
      simp only [List.mem_cons, List.not_mem_nil, or_false] at hD
      subst hD; exact HHK1.out
    clear rowN litN insN dsN belN
    obtain ⟨⟨v2, hv2, hrow2⟩, hlit2, _, hds2, hw2⟩ := hP2
    have l02 : V1.cell? ⟨T + 1, 1, none⟩ = some (.int .i64 7) := by simp [World.cell?, hlit2]
    have ltT2 := hv2.lt
    have ltS2 := (Array.getElem?_eq_some_iff.1 hlit2).1
    have x42 := hv2.alloc (.cells #[.int .i64 7] 2)
    have x52 := x42.alloc (.cells #[.slice A n c] 24)
    have i42 : Boxed (V1.alloc (.cells #[.int .i64 7] 2)) V1.heap.size 2 (.int .i64 7) := Boxed.new _ _ _
    have i52 := i42.alloc (.cells #[.slice A n c] 24)
    have y52 := Boxed.new (V1.alloc (.cells #[.int .i64 7] 2)) 24 (.slice A n c)
    have r52 := (hrow2.alloc (.cells #[.int .i64 7] 2)).alloc (.cells #[.slice A n c] 24)
    have b52 := (hw2.alloc hw2.size (.cells #[.int .i64 7] 2)).alloc (hw2.alloc hw2.size (.cells #[.int .i64 7] 2)).size (.cells #[.slice A n c] 24)
    have q52 : Below V1.heap.size V1 ((V1.alloc (.cells #[.int .i64 7] 2)).alloc (.cells #[.slice A n c] 24)) := ((Below.refl _ V1).alloc (Nat.le_refl _) _).alloc (by simp) _
    have z52 : ((V1.alloc (.cells #[.int .i64 7] 2)).alloc (.cells #[.slice A n c] 24)).heap.size = V1.heap.size + 2 := by simp
    rw [World.size_alloc] at y52
    have P52 : TgP w T (T + 1) V1.heap.size 7 [D1] (tgRound (claimsL xs) [] 4) ((V1.alloc (.cells #[.int .i64 7] 2)).alloc (.cells #[.slice A n c] 24)) :=
      ⟨⟨v2, x52, r52⟩, (q52.block _ ltS2).trans hlit2, i52, fun D hD => (q52.block D (Array.getElem?_eq_some_iff.1 (hds2 D hD)).1).trans (hds2 D hD), b52⟩
    have HDL2 : Hid (∀ D ∈ ([D1] : List Nat), D < V1.heap.size) := fun D hD => (Array.getElem?_eq_some_iff.1 (hds2 D hD)).1
    have HSP2 : Hid (∀ b, V1.heap.size + 2 ≤ b → SpT T v2 b) := fun b hb => ⟨by omega, fun e => by have := (hrow2.lt b e).2; omega⟩
    clear hv2 hrow2 hlit2 hds2 i42 i52 x42 r52 q52
    gi_wp2_with (refine ⟨trivial, ?_⟩; gi_at_call 131; refine (good_in A n c _ _).mono ?_; rintro e w' ⟨rfl, rfl⟩)
    generalize (V1.alloc (.cells #[.int .i64 7] 2)).alloc (.cells #[.slice A n c] 24) = w52 at *
    refine wpIn_rangeFunc_ownH rfl (by omega) (gf := 150) (lb := #[.pointer (some ⟨V1.heap.size + 1, 0, none⟩)]) rfl trivial (enters_of Tryz.func150 (by kernel_rfl) rfl)
      (goodt_stops hC 4 (V1.heap.size + 1) T (by omega) A n c xs w52 (by omega) y52.cell ((hr.below b52).more b52.size) hn hnc v2 x52.cell (fun b hb => HSP2.out b (by omega)) (fun _ _ h => h)) KpT.trans (fun W l o o' _ h ho _ => KpT.put o' h ho) (Below.refl _ _) (fun _ => rfl)
      (fun pre W => TgP w T (T + 1) V1.heap.size 7 [D1] ((pre.map Subtype.val).foldl (tgStep 7) (tgRound (claimsL xs) [] 4)) W) (fun _ _ _ => False) (TgP.own (f := fun pre => (pre.map Subtype.val).foldl (tgStep 7) (tgRound (claimsL xs) [] 4)) (by omega) (by omega) (by omega) (by omega) (fun D hD => by have := HDL2.out D hD; omega)) (fun _ _ _ _ _ hs _ _ => hs) P52
      (TgX T (T + 1) V1.heap.size (fun x Bx => #[.slice A n c, undef, .slice none 0 0, .pointer (some ⟨T, 0, none⟩), undef, .pointer (some ⟨V1.heap.size, 0, none⟩), .pointer (some ⟨Bx, 0, none⟩), undef, .slice (some ⟨T + 1, 0, none⟩) 3 3, .int .i64 3, .int .i64 1, .bool true, .pointer (some ⟨T + 1, 1, none⟩), .int .i64 7, .slice A n c, .func (.func 150) #[] #[.pointer (some ⟨V1.heap.size + 1, 0, none⟩)], .agg #[.int .i64 x.1.kind, .int .i64 x.1.frm, .int .i64 x.1.slot, .int .i64 x.1.place, .int .i64 x.1.target, .bool x.1.good], undef, undef, undef, undef, undef, undef, undef, undef, undef, undef, undef, undef, undef, undef, undef, undef, .int .i64 1, undef])) (fun _ _ => TgX.own) ?assign2 ?body2 ?done2 ?stop2
    case assign2 =>
      rintro l pre x W K hPa hK
      have lT := (hPa.row.choose_spec.1).lt
      have lS := (Array.getElem?_eq_some_iff.1 hPa.lit).1
      have lI := hPa.ins.lt
      gi_wp2
      exact hK _ _ ((KeepsOthers.alloc _ _).from _) ((KpT.refl _ _).alloc _) (hPa.below ((Below.refl _ W).alloc (Nat.le_refl _) _)) ⟨W.heap.size, lT, lS, lI, World.alloc_heap_new W _, rfl⟩
    case body2 =>
      rintro l pre x a' W hl _ ⟨⟨v, hbx, hrow⟩, hlit, hins, hds, hw⟩ ⟨Bx, h1, h2, h5, h3, rfl⟩ hlt
      have HS := Lib.hid (tg_snoc 7 pre x (tgRound (claimsL xs) [] 4))
      have hol := tg_len 7 pre (tgRound (claimsL xs) [] 4)
      have hob := tgRound_one xs
      generalize ((pre.map Subtype.val).foldl (tgStep 7) (tgRound (claimsL xs) [] 4)) = o at *
      obtain ⟨⟨xk, xf, xs', xp, xt, xg⟩, tg⟩ := x
      simp only at tg h3 HS
      subst tg
      obtain ⟨A', c', rfl⟩ := row_form hrow
      have hH := hasTarget_any Bx xt A' c' w.heap.size W.heap.size o W (by omega) (by simp [World.cell?, h3]) ⟨hrow, fun g hg => (hrow.lt g hg).2⟩
      have HH := Lib.hid hH
      have c1 := hbx.cell
      have lB := (Array.getElem?_eq_some_iff.1 h3).1
      clear hH
      gi_wp2_with (refine ⟨trivial, ?_⟩; gi_at_call 145; refine (CallsIn.inRound l (callsIn_wide.2 HH.out)).mono ?_; rintro e W2 ⟨rfl, b2⟩)
      have e0 : W2.cell? ⟨Bx, 0, none⟩ = some (.int .i64 xk) := (b2.cell (p := ⟨Bx, 0, none⟩) lB).trans (by simp [World.cell?, h3])
      have i2 : W2.cell? ⟨V1.heap.size, 0, none⟩ = some (.int .i64 7) := (b2.cell (p := ⟨V1.heap.size, 0, none⟩) hins.lt).trans hins.cell
      have HT : Hid (tgStep 7 o ⟨xk, xf, xs', xp, xt, true⟩ = if kindIn xk = 7 ∧ (o.any fun t => t.target == xt) = false then o ++ [⟨xk, xf, xs', xp, xt, true⟩] else o) := rfl
      cases hk : (kindIn xk == 7)
      · have HE : Hid (tgStep 7 o ⟨xk, xf, xs', xp, xt, true⟩ = o) := by rw [HT.out, if_neg (fun h => by rw [h.1] at hk; simp at hk)]; exact rfl
        clear HT
        gi_wp2_with fail
        refine wpIn_region_quiet_round (by kernel_rfl) (by kernel_rfl) (by kernel_rfl) (by rintro ⟨_, _, h⟩; exact h) ?_
        repeat (quiet_step ((go_at_call 147; exact (kindInside_any _ _).mono (fun _ _ h => ⟨h.1, _, h.2.symm⟩))))
        refine wpQuiet_nil ?_
        intro W3 hW3
        obtain ⟨nq, rfl⟩ := hW3
        have b3 := below_drewN b2 nq
        gi_wp2
        exact ⟨KeepsFrom.of_grownBy (below_grownBy b3) (fun _ e => by cases e), KpT.below b3, by show TgP w T (T + 1) V1.heap.size 7 [D1] (((pre ++ [(⟨⟨xk, xf, xs', xp, xt, true⟩, rfl⟩ : Gq (fun c => c.good = true))]).map Subtype.val).foldl (tgStep 7) (tgRound (claimsL xs) [] 4)) _; rw [HS.out, HE.out]; exact TgP.below ⟨⟨_, hbx, hrow⟩, hlit, hins, hds, hw⟩ b3⟩
      · cases hn2 : (o.any fun t => t.target == xt)
        · have HE : Hid (tgStep 7 o ⟨xk, xf, xs', xp, xt, true⟩ = o ++ [⟨xk, xf, xs', xp, xt, true⟩]) := by rw [HT.out, if_pos ⟨by simpa using hk, hn2⟩]; exact rfl
          clear HT
          gi_wp2_with fail
          refine wpIn_region_quiet_round (by kernel_rfl) (by kernel_rfl) (by kernel_rfl) (by rintro ⟨_, _, h⟩; exact h) ?_
          repeat (quiet_step ((go_at_call 147; exact (kindInside_any _ _).mono (fun _ _ h => ⟨h.1, _, h.2.symm⟩))))
          refine wpQuiet_nil ?_
          intro W3 hW3
          obtain ⟨nq, rfl⟩ := hW3
          have b3 := below_drewN b2 nq
          generalize W2.drewN nq = W3 at *
          have P3 : TgP w T (T + 1) V1.heap.size 7 [D1] o W3 := TgP.below ⟨⟨_, hbx, hrow⟩, hlit, hins, hds, hw⟩ b3
          have f0 : W3.cell? ⟨Bx, 0, none⟩ = some (.int .i64 xk) := (b3.cell (p := ⟨Bx, 0, none⟩) lB).trans (by simp [World.cell?, h3])
          have f1 : W3.cell? ⟨Bx, 1, none⟩ = some (.int .i64 xf) := (b3.cell (p := ⟨Bx, 1, none⟩) lB).trans (by simp [World.cell?, h3])
          have f2 : W3.cell? ⟨Bx, 2, none⟩ = some (.int .i64 xs') := (b3.cell (p := ⟨Bx, 2, none⟩) lB).trans (by simp [World.cell?, h3])
          have f3 : W3.cell? ⟨Bx, 3, none⟩ = some (.int .i64 xp) := (b3.cell (p := ⟨Bx, 3, none⟩) lB).trans (by simp [World.cell?, h3])
          have f4 : W3.cell? ⟨Bx, 4, none⟩ = some (.int .i64 xt) := (b3.cell (p := ⟨Bx, 4, none⟩) lB).trans (by simp [World.cell?, h3])
          have f5 : W3.cell? ⟨Bx, 5, none⟩ = some (.bool true) := (b3.cell (p := ⟨Bx, 5, none⟩) lB).trans (by simp [World.cell?, h3])
          have hbx3 := hbx.kept (below_grownBy b3) (by simp)
          have hrow3 := own_below hrow b3
          have c3 := hbx3.cell
          have lw3 := P3.bel.size
          have ltT3 := hbx3.lt
          gi_wp2_with (gi_at_builtin; refine wpListIn_append_t rfl (.tmp 29) (.tmp 31) 112 rfl 115 6 48 _ i0 Tryz.underlying112 hi0 hz0 hz1 hz2 rfl (by omega) (by omega) w.heap.size o.length c' A' _ rfl (hrow3.alloc (.cells #[.int .i64 xk, .int .i64 xf, .int .i64 xs', .int .i64 xp, .int .i64 xt, .bool true] 115)) ⟨W3.heap.size, 0, none⟩ 1 1 #[.int .i64 xk, .int .i64 xf, .int .i64 xs', .int .i64 xp, .int .i64 xt, .bool true].toList rfl (by omega) rfl (by intro j u hj; rw [Addr.add_lit, Nat.zero_add, World.cell?_alloc_new]; simpa using hj) (by simp [Value.oneCell']) (by omega) (by simp; omega) ?_; intro g' cd w6 hown6 hg6 hat6; obtain ⟨bx6, bx7, ow7, ko7, be7⟩ := Boxed.appended (tmp := .cells #[.int .i64 xk, .int .i64 xf, .int .i64 xs', .int .i64 xp, .int .i64 xt, .bool true] 115) hbx3 (by decide) hrow3 lw3 hTw hown6 hg6; have c6 := bx6.cell; have z6 := bx6.frozen)
          refine ⟨(KeepsFrom.of_grownBy (below_grownBy b3) (fun _ e => by cases e)).trans (ko7.from _), ((KpT.below b3).alloc (.cells #[.int .i64 xk, .int .i64 xf, .int .i64 xs', .int .i64 xp, .int .i64 xt, .bool true] 115)).trans (KpT.append (hbx3.alloc _).cell hg6 ?_ (own_away hbx3 (by decide) hrow3)), ?_⟩
          · rcases hat6 with h | h
            · exact .inl h.symm
            · exact .inr (fun g hg => by simp [Value.ownBlock] at hg; omega)
          · have hl6 : w6.heap[T + 1]? = some (.cells #[.int .i64 4, .int .i64 7, .int .i64 8] 2 (0, 0)) := (hg6.block (T + 1) (by have := (Array.getElem?_eq_some_iff.1 P3.lit).1; simp; omega) (fun e => own_away P3.lit (by decide) hrow3 e.symm)).trans ((Below.heap_alloc _ _ _ (Array.getElem?_eq_some_iff.1 P3.lit).1).trans P3.lit)
            have hi6 := (P3.ins.alloc (.cells #[.int .i64 xk, .int .i64 xf, .int .i64 xs', .int .i64 xp, .int .i64 xt, .bool true] 115)).kept hg6 (fun e => own_away P3.ins (by decide) hrow3 e.symm)
            have gs := grownBy_setCell' w6 T (.slice (some ⟨g', 0, none⟩) (o.length + 1) cd)
            show TgP w T (T + 1) V1.heap.size 7 [D1] (((pre ++ [(⟨⟨xk, xf, xs', xp, xt, true⟩, rfl⟩ : Gq (fun c => c.good = true))]).map Subtype.val).foldl (tgStep 7) (tgRound (claimsL xs) [] 4)) _
            rw [HS.out, HE.out]
            refine ⟨⟨_, bx7, ?_⟩, (gs.block (T + 1) (Array.getElem?_eq_some_iff.1 hl6).1 (fun e => by injection e; omega)).trans hl6, hi6.kept gs (fun e => by injection e; omega), fun D hD => ko7.same D _ (P3.ds D hD) rfl, Below.trans P3.bel be7⟩
            rw [List.length_append, List.flatMap_append]
            exact ow7
        · have HE : Hid (tgStep 7 o ⟨xk, xf, xs', xp, xt, true⟩ = o) := by rw [HT.out, if_neg (fun h => by rw [hn2] at h; cases h.2)]; exact rfl
          clear HT
          gi_wp2_with fail
          refine wpIn_region_quiet_round (by kernel_rfl) (by kernel_rfl) (by kernel_rfl) (by rintro ⟨_, _, h⟩; exact h) ?_
          repeat (quiet_step ((go_at_call 147; exact (kindInside_any _ _).mono (fun _ _ h => ⟨h.1, _, h.2.symm⟩))))
          refine wpQuiet_nil ?_
          intro W3 hW3
          obtain ⟨nq, rfl⟩ := hW3
          have b3 := below_drewN b2 nq
          gi_wp2
          exact ⟨KeepsFrom.of_grownBy (below_grownBy b3) (fun _ e => by cases e), KpT.below b3, by show TgP w T (T + 1) V1.heap.size 7 [D1] (((pre ++ [(⟨⟨xk, xf, xs', xp, xt, true⟩, rfl⟩ : Gq (fun c => c.good = true))]).map Subtype.val).foldl (tgStep 7) (tgRound (claimsL xs) [] 4)) _; rw [HS.out, HE.out]; exact TgP.below ⟨⟨_, hbx, hrow⟩, hlit, hins, hds, hw⟩ b3⟩
    case stop2 =>
      rintro D c pre W _ _ h _
      exact h.elim
    case done2 =>
      rintro D2 ys V2 hDa2 hS hP3 hK2
      rw [hS] at hP3
      have HHK2 := Lib.hid hK2
      gi_wp2_with fail
      rw [roundsIn_succ]
      obtain ⟨rowN, litN, insN, dsN, belN⟩ := hP3
      have hP3 : (∃ v, Boxed V2 T 112 v ∧ V2.ownsRow w.heap.size 115 6 v (tgRound (claimsL xs) (tgRound (claimsL xs) [] 4) 7).length ((tgRound (claimsL xs) (tgRound (claimsL xs) [] 4) 7).flatMap cmV)) ∧ V2.heap[T + 1]? = some (.cells #[.int .i64 4, .int .i64 7, .int .i64 8] 2 (0, 0)) ∧ True ∧ (∀ D ∈ ([D1, D2] : List Nat), V2.heap[D]? = some (.deferred (some []))) ∧ Below w.heap.size w V2 := ⟨rowN, litN, trivial, ?dsx2, belN⟩
      case dsx2 =>
        intro D hD
        simp only [List.mem_cons, List.not_mem_nil, or_false] at hD
        rcases hD with rfl | rfl; exact dsN _ (by simp); exact HHK2.out
      clear rowN litN insN dsN belN
      obtain ⟨⟨v3, hv3, hrow3⟩, hlit3, _, hds3, hw3⟩ := hP3
      have l03 : V2.cell? ⟨T + 1, 2, none⟩ = some (.int .i64 8) := by simp [World.cell?, hlit3]
      have ltT3 := hv3.lt
      have ltS3 := (Array.getElem?_eq_some_iff.1 hlit3).1
      have x43 := hv3.alloc (.cells #[.int .i64 8] 2)
      have x53 := x43.alloc (.cells #[.slice A n c] 24)
      have i43 : Boxed (V2.alloc (.cells #[.int .i64 8] 2)) V2.heap.size 2 (.int .i64 8) := Boxed.new _ _ _
      have i53 := i43.alloc (.cells #[.slice A n c] 24)
      have y53 := Boxed.new (V2.alloc (.cells #[.int .i64 8] 2)) 24 (.slice A n c)
      have r53 := (hrow3.alloc (.cells #[.int .i64 8] 2)).alloc (.cells #[.slice A n c] 24)
      have b53 := (hw3.alloc hw3.size (.cells #[.int .i64 8] 2)).alloc (hw3.alloc hw3.size (.cells #[.int .i64 8] 2)).size (.cells #[.slice A n c] 24)
      have q53 : Below V2.heap.size V2 ((V2.alloc (.cells #[.int .i64 8] 2)).alloc (.cells #[.slice A n c] 24)) := ((Below.refl _ V2).alloc (Nat.le_refl _) _).alloc (by simp) _
      have z53 : ((V2.alloc (.cells #[.int .i64 8] 2)).alloc (.cells #[.slice A n c] 24)).heap.size = V2.heap.size + 2 := by simp
      rw [World.size_alloc] at y53
      have P53 : TgP w T (T + 1) V2.heap.size 8 [D1, D2] (tgRound (claimsL xs) (tgRound (claimsL xs) [] 4) 7) ((V2.alloc (.cells #[.int .i64 8] 2)).alloc (.cells #[.slice A n c] 24)) :=
        ⟨⟨v3, x53, r53⟩, (q53.block _ ltS3).trans hlit3, i53, fun D hD => (q53.block D (Array.getElem?_eq_some_iff.1 (hds3 D hD)).1).trans (hds3 D hD), b53⟩
      have HDL3 : Hid (∀ D ∈ ([D1, D2] : List Nat), D < V2.heap.size) := fun D hD => (Array.getElem?_eq_some_iff.1 (hds3 D hD)).1
      have HSP3 : Hid (∀ b, V2.heap.size + 2 ≤ b → SpT T v3 b) := fun b hb => ⟨by omega, fun e => by have := (hrow3.lt b e).2; omega⟩
      clear hv3 hrow3 hlit3 hds3 i43 i53 x43 r53 q53
      gi_wp2_with (refine ⟨trivial, ?_⟩; gi_at_call 131; refine (good_in A n c _ _).mono ?_; rintro e w' ⟨rfl, rfl⟩)
      generalize (V2.alloc (.cells #[.int .i64 8] 2)).alloc (.cells #[.slice A n c] 24) = w53 at *
      refine wpIn_rangeFunc_ownH rfl (by omega) (gf := 150) (lb := #[.pointer (some ⟨V2.heap.size + 1, 0, none⟩)]) rfl trivial (enters_of Tryz.func150 (by kernel_rfl) rfl)
        (goodt_stops hC 4 (V2.heap.size + 1) T (by omega) A n c xs w53 (by omega) y53.cell ((hr.below b53).more b53.size) hn hnc v3 x53.cell (fun b hb => HSP3.out b (by omega)) (fun _ _ h => h)) KpT.trans (fun W l o o' _ h ho _ => KpT.put o' h ho) (Below.refl _ _) (fun _ => rfl)
        (fun pre W => TgP w T (T + 1) V2.heap.size 8 [D1, D2] ((pre.map Subtype.val).foldl (tgStep 8) (tgRound (claimsL xs) (tgRound (claimsL xs) [] 4) 7)) W) (fun _ _ _ => False) (TgP.own (f := fun pre => (pre.map Subtype.val).foldl (tgStep 8) (tgRound (claimsL xs) (tgRound (claimsL xs) [] 4) 7)) (by omega) (by omega) (by omega) (by omega) (fun D hD => by have := HDL3.out D hD; omega)) (fun _ _ _ _ _ hs _ _ => hs) P53
        (TgX T (T + 1) V2.heap.size (fun x Bx => #[.slice A n c, undef, .slice none 0 0, .pointer (some ⟨T, 0, none⟩), undef, .pointer (some ⟨V2.heap.size, 0, none⟩), .pointer (some ⟨Bx, 0, none⟩), undef, .slice (some ⟨T + 1, 0, none⟩) 3 3, .int .i64 3, .int .i64 2, .bool true, .pointer (some ⟨T + 1, 2, none⟩), .int .i64 8, .slice A n c, .func (.func 150) #[] #[.pointer (some ⟨V2.heap.size + 1, 0, none⟩)], .agg #[.int .i64 x.1.kind, .int .i64 x.1.frm, .int .i64 x.1.slot, .int .i64 x.1.place, .int .i64 x.1.target, .bool x.1.good], undef, undef, undef, undef, undef, undef, undef, undef, undef, undef, undef, undef, undef, undef, undef, undef, .int .i64 2, undef])) (fun _ _ => TgX.own) ?assign3 ?body3 ?done3 ?stop3
      case assign3 =>
        rintro l pre x W K hPa hK
        have lT := (hPa.row.choose_spec.1).lt
        have lS := (Array.getElem?_eq_some_iff.1 hPa.lit).1
        have lI := hPa.ins.lt
        gi_wp2
        exact hK _ _ ((KeepsOthers.alloc _ _).from _) ((KpT.refl _ _).alloc _) (hPa.below ((Below.refl _ W).alloc (Nat.le_refl _) _)) ⟨W.heap.size, lT, lS, lI, World.alloc_heap_new W _, rfl⟩
      case body3 =>
        rintro l pre x a' W hl _ ⟨⟨v, hbx, hrow⟩, hlit, hins, hds, hw⟩ ⟨Bx, h1, h2, h5, h3, rfl⟩ hlt
        have HS := Lib.hid (tg_snoc 8 pre x (tgRound (claimsL xs) (tgRound (claimsL xs) [] 4) 7))
        have hol := tg_len 8 pre (tgRound (claimsL xs) (tgRound (claimsL xs) [] 4) 7)
        have hob := tgRound_two xs
        generalize ((pre.map Subtype.val).foldl (tgStep 8) (tgRound (claimsL xs) (tgRound (claimsL xs) [] 4) 7)) = o at *
        obtain ⟨⟨xk, xf, xs', xp, xt, xg⟩, tg⟩ := x
        simp only at tg h3 HS
        subst tg
        obtain ⟨A', c', rfl⟩ := row_form hrow
        have hH := hasTarget_any Bx xt A' c' w.heap.size W.heap.size o W (by omega) (by simp [World.cell?, h3]) ⟨hrow, fun g hg => (hrow.lt g hg).2⟩
        have HH := Lib.hid hH
        have c1 := hbx.cell
        have lB := (Array.getElem?_eq_some_iff.1 h3).1
        clear hH
        gi_wp2_with (refine ⟨trivial, ?_⟩; gi_at_call 145; refine (CallsIn.inRound l (callsIn_wide.2 HH.out)).mono ?_; rintro e W2 ⟨rfl, b2⟩)
        have e0 : W2.cell? ⟨Bx, 0, none⟩ = some (.int .i64 xk) := (b2.cell (p := ⟨Bx, 0, none⟩) lB).trans (by simp [World.cell?, h3])
        have i2 : W2.cell? ⟨V2.heap.size, 0, none⟩ = some (.int .i64 8) := (b2.cell (p := ⟨V2.heap.size, 0, none⟩) hins.lt).trans hins.cell
        have HT : Hid (tgStep 8 o ⟨xk, xf, xs', xp, xt, true⟩ = if kindIn xk = 8 ∧ (o.any fun t => t.target == xt) = false then o ++ [⟨xk, xf, xs', xp, xt, true⟩] else o) := rfl
        cases hk : (kindIn xk == 8)
        · have HE : Hid (tgStep 8 o ⟨xk, xf, xs', xp, xt, true⟩ = o) := by rw [HT.out, if_neg (fun h => by rw [h.1] at hk; simp at hk)]; exact rfl
          clear HT
          gi_wp2_with fail
          refine wpIn_region_quiet_round (by kernel_rfl) (by kernel_rfl) (by kernel_rfl) (by rintro ⟨_, _, h⟩; exact h) ?_
          repeat (quiet_step ((go_at_call 147; exact (kindInside_any _ _).mono (fun _ _ h => ⟨h.1, _, h.2.symm⟩))))
          refine wpQuiet_nil ?_
          intro W3 hW3
          obtain ⟨nq, rfl⟩ := hW3
          have b3 := below_drewN b2 nq
          gi_wp2
          exact ⟨KeepsFrom.of_grownBy (below_grownBy b3) (fun _ e => by cases e), KpT.below b3, by show TgP w T (T + 1) V2.heap.size 8 [D1, D2] (((pre ++ [(⟨⟨xk, xf, xs', xp, xt, true⟩, rfl⟩ : Gq (fun c => c.good = true))]).map Subtype.val).foldl (tgStep 8) (tgRound (claimsL xs) (tgRound (claimsL xs) [] 4) 7)) _; rw [HS.out, HE.out]; exact TgP.below ⟨⟨_, hbx, hrow⟩, hlit, hins, hds, hw⟩ b3⟩
        · cases hn2 : (o.any fun t => t.target == xt)
          · have HE : Hid (tgStep 8 o ⟨xk, xf, xs', xp, xt, true⟩ = o ++ [⟨xk, xf, xs', xp, xt, true⟩]) := by rw [HT.out, if_pos ⟨by simpa using hk, hn2⟩]; exact rfl
            clear HT
            gi_wp2_with fail
            refine wpIn_region_quiet_round (by kernel_rfl) (by kernel_rfl) (by kernel_rfl) (by rintro ⟨_, _, h⟩; exact h) ?_
            repeat (quiet_step ((go_at_call 147; exact (kindInside_any _ _).mono (fun _ _ h => ⟨h.1, _, h.2.symm⟩))))
            refine wpQuiet_nil ?_
            intro W3 hW3
            obtain ⟨nq, rfl⟩ := hW3
            have b3 := below_drewN b2 nq
            generalize W2.drewN nq = W3 at *
            have P3 : TgP w T (T + 1) V2.heap.size 8 [D1, D2] o W3 := TgP.below ⟨⟨_, hbx, hrow⟩, hlit, hins, hds, hw⟩ b3
            have f0 : W3.cell? ⟨Bx, 0, none⟩ = some (.int .i64 xk) := (b3.cell (p := ⟨Bx, 0, none⟩) lB).trans (by simp [World.cell?, h3])
            have f1 : W3.cell? ⟨Bx, 1, none⟩ = some (.int .i64 xf) := (b3.cell (p := ⟨Bx, 1, none⟩) lB).trans (by simp [World.cell?, h3])
            have f2 : W3.cell? ⟨Bx, 2, none⟩ = some (.int .i64 xs') := (b3.cell (p := ⟨Bx, 2, none⟩) lB).trans (by simp [World.cell?, h3])
            have f3 : W3.cell? ⟨Bx, 3, none⟩ = some (.int .i64 xp) := (b3.cell (p := ⟨Bx, 3, none⟩) lB).trans (by simp [World.cell?, h3])
            have f4 : W3.cell? ⟨Bx, 4, none⟩ = some (.int .i64 xt) := (b3.cell (p := ⟨Bx, 4, none⟩) lB).trans (by simp [World.cell?, h3])
            have f5 : W3.cell? ⟨Bx, 5, none⟩ = some (.bool true) := (b3.cell (p := ⟨Bx, 5, none⟩) lB).trans (by simp [World.cell?, h3])
            have hbx3 := hbx.kept (below_grownBy b3) (by simp)
            have hrow3 := own_below hrow b3
            have c3 := hbx3.cell
            have lw3 := P3.bel.size
            have ltT3 := hbx3.lt
            gi_wp2_with (gi_at_builtin; refine wpListIn_append_t rfl (.tmp 29) (.tmp 31) 112 rfl 115 6 48 _ i0 Tryz.underlying112 hi0 hz0 hz1 hz2 rfl (by omega) (by omega) w.heap.size o.length c' A' _ rfl (hrow3.alloc (.cells #[.int .i64 xk, .int .i64 xf, .int .i64 xs', .int .i64 xp, .int .i64 xt, .bool true] 115)) ⟨W3.heap.size, 0, none⟩ 1 1 #[.int .i64 xk, .int .i64 xf, .int .i64 xs', .int .i64 xp, .int .i64 xt, .bool true].toList rfl (by omega) rfl (by intro j u hj; rw [Addr.add_lit, Nat.zero_add, World.cell?_alloc_new]; simpa using hj) (by simp [Value.oneCell']) (by omega) (by simp; omega) ?_; intro g' cd w6 hown6 hg6 hat6; obtain ⟨bx6, bx7, ow7, ko7, be7⟩ := Boxed.appended (tmp := .cells #[.int .i64 xk, .int .i64 xf, .int .i64 xs', .int .i64 xp, .int .i64 xt, .bool true] 115) hbx3 (by decide) hrow3 lw3 hTw hown6 hg6; have c6 := bx6.cell; have z6 := bx6.frozen)
            refine ⟨(KeepsFrom.of_grownBy (below_grownBy b3) (fun _ e => by cases e)).trans (ko7.from _), ((KpT.below b3).alloc (.cells #[.int .i64 xk, .int .i64 xf, .int .i64 xs', .int .i64 xp, .int .i64 xt, .bool true] 115)).trans (KpT.append (hbx3.alloc _).cell hg6 ?_ (own_away hbx3 (by decide) hrow3)), ?_⟩
            · rcases hat6 with h | h
              · exact .inl h.symm
              · exact .inr (fun g hg => by simp [Value.ownBlock] at hg; omega)
            · have hl6 : w6.heap[T + 1]? = some (.cells #[.int .i64 4, .int .i64 7, .int .i64 8] 2 (0, 0)) := (hg6.block (T + 1) (by have := (Array.getElem?_eq_some_iff.1 P3.lit).1; simp; omega) (fun e => own_away P3.lit (by decide) hrow3 e.symm)).trans ((Below.heap_alloc _ _ _ (Array.getElem?_eq_some_iff.1 P3.lit).1).trans P3.lit)
              have hi6 := (P3.ins.alloc (.cells #[.int .i64 xk, .int .i64 xf, .int .i64 xs', .int .i64 xp, .int .i64 xt, .bool true] 115)).kept hg6 (fun e => own_away P3.ins (by decide) hrow3 e.symm)
              have gs := grownBy_setCell' w6 T (.slice (some ⟨g', 0, none⟩) (o.length + 1) cd)
              show TgP w T (T + 1) V2.heap.size 8 [D1, D2] (((pre ++ [(⟨⟨xk, xf, xs', xp, xt, true⟩, rfl⟩ : Gq (fun c => c.good = true))]).map Subtype.val).foldl (tgStep 8) (tgRound (claimsL xs) (tgRound (claimsL xs) [] 4) 7)) _
              rw [HS.out, HE.out]
              refine ⟨⟨_, bx7, ?_⟩, (gs.block (T + 1) (Array.getElem?_eq_some_iff.1 hl6).1 (fun e => by injection e; omega)).trans hl6, hi6.kept gs (fun e => by injection e; omega), fun D hD => ko7.same D _ (P3.ds D hD) rfl, Below.trans P3.bel be7⟩
              rw [List.length_append, List.flatMap_append]
              exact ow7
          · have HE : Hid (tgStep 8 o ⟨xk, xf, xs', xp, xt, true⟩ = o) := by rw [HT.out, if_neg (fun h => by rw [hn2] at h; cases h.2)]; exact rfl
            clear HT
            gi_wp2_with fail
            refine wpIn_region_quiet_round (by kernel_rfl) (by kernel_rfl) (by kernel_rfl) (by rintro ⟨_, _, h⟩; exact h) ?_
            repeat (quiet_step ((go_at_call 147; exact (kindInside_any _ _).mono (fun _ _ h => ⟨h.1, _, h.2.symm⟩))))
            refine wpQuiet_nil ?_
            intro W3 hW3
            obtain ⟨nq, rfl⟩ := hW3
            have b3 := below_drewN b2 nq
            gi_wp2
            exact ⟨KeepsFrom.of_grownBy (below_grownBy b3) (fun _ e => by cases e), KpT.below b3, by show TgP w T (T + 1) V2.heap.size 8 [D1, D2] (((pre ++ [(⟨⟨xk, xf, xs', xp, xt, true⟩, rfl⟩ : Gq (fun c => c.good = true))]).map Subtype.val).foldl (tgStep 8) (tgRound (claimsL xs) (tgRound (claimsL xs) [] 4) 7)) _; rw [HS.out, HE.out]; exact TgP.below ⟨⟨_, hbx, hrow⟩, hlit, hins, hds, hw⟩ b3⟩
      case stop3 =>
        rintro D c pre W _ _ h _
        exact h.elim
      case done3 =>
        rintro D3 ys V3 hDa3 hS hP4 hK3
        rw [hS] at hP4
        have HHK3 := Lib.hid hK3
        obtain ⟨⟨v, hv, hrow⟩, hlit, _, hds, hw⟩ := hP4
        obtain ⟨A', c', rfl⟩ := row_form hrow
        have c1 := hv.cell
        have hD1 := hds D1 (by simp)
        have hD2 := hds D2 (by simp)
        have l1 := (Array.getElem?_eq_some_iff.1 hD1).1
        have n12 : D1 ≠ D2 := by have := HDL2.out D1 (by simp); omega
        have n23 : D2 ≠ D3 := by have := HDL3.out D2 (by simp); omega
        have n13 : D1 ≠ D3 := by have := HDL3.out D1 (by simp); omega
        have hwD1 : w.heap.size ≤ D1 := by have := hw1.size; omega
        have hwD2 : w.heap.size ≤ D2 := by have := hw2.size; omega
        have hwD3 : w.heap.size ≤ D3 := by have := hw3.size; omega
        have g7 := grownBy_putObj' V3 D3 (.deferred none)
        have hD2' := (g7.block D2 (Array.getElem?_eq_some_iff.1 hD2).1 (fun e => n23 (by injection e))).trans hD2
        have hD1' := (g7.block D1 l1 (fun e => n13 (by injection e))).trans hD1
        have g8 := grownBy_putObj' (V3.putObj D3 (.deferred none)) D2 (.deferred none)
        have hD1'' := (g8.block D1 (Array.getElem?_eq_some_iff.1 hD1').1 (fun e => n12 (by injection e))).trans hD1'
        have g9 := grownBy_putObj' ((V3.putObj D3 (.deferred none)).putObj D2 (.deferred none)) D1 (.deferred none)
        have o9 := ownsRow_putObj (ownsRow_putObj (ownsRow_putObj hrow (.deferred none) HHK3.out rfl) (.deferred none) hD2' rfl) (.deferred none) hD1'' rfl
        have b9 := ((hw.grown g7 hw.size (fun k e => by cases e; omega)).grown g8 (Nat.le_trans hw.size g7.size) (fun k e => by cases e; omega)).grown g9 (Nat.le_trans (Nat.le_trans hw.size g7.size) g8.size) (fun k e => by cases e; omega)
        gi_wp2_with fail
        rw [roundsIn_succ]
        gi_wp2_with fail
        refine ⟨by simp, .inl ⟨_, _, rfl, run_takeDeferred HHK3.out, ?_⟩⟩
        refine ⟨by simp, .inl ⟨_, _, rfl, run_takeDeferred hD2', ?_⟩⟩
        refine ⟨by simp, .inl ⟨_, _, rfl, run_takeDeferred hD1'', ?_⟩⟩
        refine ⟨_, results_tmp rfl _ _ _, ?_⟩
        exact ⟨A', c', rfl, ⟨o9, fun g hg => (o9.lt g hg).2⟩, b9⟩

end Go.Proofs.YtiokfhdkbpoadabGreatDoor
