/- All claims, the model's side (l6Claims, ClaimsIn). -/
import Derived.Test.YtibokhkohanoaaaGreatG2
namespace Go.Proofs.YtibokhkohanoaaaGreat
open Go.RowKit

/-- It answers a new list of claims. -/
def RetCm (w : World) (l : List Cm) (e : Ending) (w' : World) : Prop :=
  ∃ g c, e = .returned (.slice (some ⟨g, 0, none⟩) l.length c) ∧ OwV 62 6 w' w.heap.size w'.heap.size g l.length c (l.flatMap cmV) ∧ Below w.heap.size w w'

theorem below_of_grown {w w3 w4 : World} {g0 : Nat} (hb : Below w.heap.size w w3) (hg : w3.grownBy w4 (some g0)) (h0 : w.heap.size ≤ g0) : Below w.heap.size w w4 := hb.grown hg hb.size (fun k e => by cases e; exact h0)

theorem take_fold {α β : Type} (f : β → α → β) (l : List α) (z : β) (k : Nat) (hk : k < l.length) : (l.take (k + 1)).foldl f z = f ((l.take k).foldl f z) l[k] := by
  rw [List.take_succ_eq_append_getElem hk, List.foldl_append]; rfl

theorem datStep_prefix {xs : List Int} {h : Hd} (l : List Cm) (c : Cm) : l <+: datStep xs h l c := by
  unfold datStep; split
  · exact tabFold_prefix _ _ _ _ _ _ _ _
  · exact List.prefix_refl _

set_option maxRecDepth 100000 in
set_option maxHeartbeats 8000000 in
theorem specClaims_any (A : Option Addr) (n cb : Nat) (xs : List Int) (w : World) (hr : Rd w w.heap.size A n xs) (hn : n ≤ 2097152) (hh : hasHead xs = true) :
    Calls Tryz.prog 49 #[.slice A n cb] w (RetCm w (claimsC xs)) := by
  have hx := Lib.hid hr.len
  have HH := Lib.hid hh
  have HI := Lib.hid (headIn_yes hh)
  have hmany := manyN_le (hasHead_img hh)
  clear hh
  go_enter Tryz.func49, Tryz.ntmps49
  go_wp2_with fail
  refine (specHeadIn_any _ _ _ xs _ hr hn).mono ?_
  rintro e w1 ⟨rfl, b1⟩
  rw [HI.out]
  have HC : Hid (claimsC xs = c6C xs (headOf xs)) := rfl
  generalize headOf xs = h at *
  obtain ⟨s, f, r, u, m⟩ := h
  unfold hdV
  have b2 := b1.alloc b1.size (.cells #[.int .i64 s, .int .i64 f, .int .i64 r, .int .i64 u, .int .i64 m] 30)
  have b3 := b2.alloc b2.size (.cells #[.int .i64 1, .int .i64 0, .int .i64 0, .int .i64 0, .int .i64 0, .bool true] 62)
  have o3 := madeV 62 6 (w1.alloc (.cells #[.int .i64 s, .int .i64 f, .int .i64 r, .int .i64 u, .int .i64 m] 30)) #[.int .i64 1, .int .i64 0, .int .i64 0, .int .i64 0, .int .i64 0, .bool true] 1 (w1.heap.size + 1) (w1.heap.size + 2) (w1.heap.size + 1) (by simp) (by simp) (by omega) (by omega) (by rfl)
  have o3' : OwV 62 6 ((w1.alloc (.cells #[.int .i64 s, .int .i64 f, .int .i64 r, .int .i64 u, .int .i64 m] 30)).alloc (.cells #[.int .i64 1, .int .i64 0, .int .i64 0, .int .i64 0, .int .i64 0, .bool true] 62)) (w1.heap.size + 1) (w1.heap.size + 2) (w1.heap.size + 1) ([⟨1, 0, 0, 0, 0, true⟩] : List Cm).length 1 (([⟨1, 0, 0, 0, 0, true⟩] : List Cm).flatMap cmV) := by
    simpa [cmV] using o3
  have hbx : ∀ j : Nat, ((w1.alloc (.cells #[.int .i64 s, .int .i64 f, .int .i64 r, .int .i64 u, .int .i64 m] 30)).alloc (.cells #[.int .i64 1, .int .i64 0, .int .i64 0, .int .i64 0, .int .i64 0, .bool true] 62)).cell? ⟨w1.heap.size, j, none⟩ = (#[.int .i64 s, .int .i64 f, .int .i64 r, .int .i64 u, .int .i64 m] : Array Value)[j]? := fun j => by
    rw [World.cell?_alloc_lt _ _ _ (by simp), World.cell?_alloc_new]
  have hz3 : ((w1.alloc (.cells #[.int .i64 s, .int .i64 f, .int .i64 r, .int .i64 u, .int .i64 m] 30)).alloc (.cells #[.int .i64 1, .int .i64 0, .int .i64 0, .int .i64 0, .int .i64 0, .bool true] 62)).heap.size = w1.heap.size + 2 := by simp
  have hr3 := hr.below b3
  clear o3 b2
  have hb1 := b1.size
  go_wp2_with fail
  generalize ((w1.alloc (.cells #[.int .i64 s, .int .i64 f, .int .i64 r, .int .i64 u, .int .i64 m] 30)).alloc (.cells #[.int .i64 1, .int .i64 0, .int .i64 0, .int .i64 0, .int .i64 0, .bool true] 62)) = w3 at *
  have BX := Lib.hid hbx
  have HZ := Lib.hid hz3
  have hz3' : w1.heap.size + 2 ≤ w3.heap.size := by omega
  clear hbx hz3
  -- what stands in the frame stays
  have keepB : Hid (∀ wk : World, w3.grownBy wk (some (w1.heap.size + 1)) → ∀ j : Nat, wk.cell? ⟨w1.heap.size, j, none⟩ = (#[.int .i64 s, .int .i64 f, .int .i64 r, .int .i64 u, .int .i64 m] : Array Value)[j]?) := fun wk hk j =>
    (World.cell?_of_block (w := w3) (hk.block w1.heap.size (by omega) (fun e => by injection e with e; omega))).trans (BX.out j)
  have keepR : Hid (∀ wk : World, w3.grownBy wk (some (w1.heap.size + 1)) → Rd wk w.heap.size A n xs) := fun wk hk => hr3.grown hk (by omega) (by omega)
  refine (specAdd_any A n cb xs s (w1.heap.size + 1) 1 (w1.heap.size + 1) (w1.heap.size + 2) [⟨1, 0, 0, 0, 0, true⟩] ⟨2, 0, 0, 0, f, false⟩ w3 hx.out hn (by simp) o3' (by omega)).mono ?_
  rintro e w4 ⟨g1, c1, rfl, o4, F4, at4, _⟩
  have HL1 : Hid (addC xs s [⟨1, 0, 0, 0, 0, true⟩] ⟨2, 0, 0, 0, f, false⟩ = c1C xs ⟨s, f, r, u, m⟩) := rfl
  have hl1 : (addC xs s [⟨1, 0, 0, 0, 0, true⟩] ⟨2, 0, 0, 0, f, false⟩).length ≤ 2 := by rw [addC_length]; simp
  generalize addC xs s [⟨1, 0, 0, 0, 0, true⟩] ⟨2, 0, 0, 0, f, false⟩ = l1 at *
  have AT4 := Lib.hid at4
  clear at4 o3'
  have s4 := F4.size
  have q0 : w4.cell? ⟨w1.heap.size, 0, none⟩ = some (.int .i64 s) := keepB.out w4 F4 0
  have q2 : w4.cell? ⟨w1.heap.size, 2, none⟩ = some (.int .i64 r) := keepB.out w4 F4 2
  go_wp2_with fail
  refine (specAdd_any A n cb xs s g1 c1 (w1.heap.size + 1) w4.heap.size l1 ⟨3, 0, 0, 0, r, false⟩ w4 hx.out hn (by omega) o4 (by omega)).mono ?_
  rintro e w5 ⟨g2, c2, rfl, o5, G5, at5, _⟩
  have F5 := grown_next F4 AT4.out G5
  have AT5 : Hid (g2 = w1.heap.size + 1 ∨ w3.heap.size ≤ g2) := by show _ ∨ _; have := AT4.out; omega
  have hl2 : (addC xs s l1 ⟨3, 0, 0, 0, r, false⟩).length ≤ 3 := by rw [addC_length]; omega
  have HL2 : Hid (c3C xs ⟨s, f, r, u, m⟩ = if goodB xs s l1 ⟨3, 0, 0, 0, r, false⟩ = true then tabC xs s (addC xs s l1 ⟨3, 0, 0, 0, r, false⟩) 4 r.toNat 0 0 else addC xs s l1 ⟨3, 0, 0, 0, r, false⟩) := by
    rw [HL1.out]; exact rfl
  have HG2 := Lib.hid (goodB_there (xs := xs) (size := s) (l := l1) (c := ⟨3, 0, 0, 0, r, false⟩))
  generalize addC xs s l1 ⟨3, 0, 0, 0, r, false⟩ = l2 at *
  clear at5 q0 q2 G5 F4 o4 s4
  have s5 := F5.size
  cases hq : goodB xs s l1 ⟨3, 0, 0, 0, r, false⟩
  case' false =>
    have HL3 : Hid (l2 = c3C xs ⟨s, f, r, u, m⟩) := by rw [HL2.out, hq]; exact rfl
    obtain ⟨w6, rfl⟩ : ∃ x, x = w5 := ⟨_, rfl⟩
    obtain ⟨g3, rfl⟩ : ∃ x, x = g2 := ⟨_, rfl⟩
    obtain ⟨c3, rfl⟩ : ∃ x, x = c2 := ⟨_, rfl⟩
    obtain ⟨l3, rfl⟩ : ∃ x, x = l2 := ⟨_, rfl⟩
    have F6 := F5
    have AT6 := AT5
    have o6 := o5
    have hl3 : l3.length ≤ 11 := by omega
  case' true =>
    have ht := HG2.out hq
    simp only at ht
    obtain ⟨t1, t2⟩ := there_lt ht
    obtain ⟨ρ, rfl⟩ := Int.eq_ofNat_of_zero_le (show 0 ≤ r by omega)
    have q0 : w5.cell? ⟨w1.heap.size, 0, none⟩ = some (.int .i64 s) := keepB.out w5 F5 0
    have q2 : w5.cell? ⟨w1.heap.size, 2, none⟩ = some (.int .i64 ρ) := keepB.out w5 F5 2
    go_wp2_with fail
    refine (specTab_any A n cb xs s g2 c2 (w1.heap.size + 1) w5.heap.size l2 4 ρ 0 0 w5 ((keepR.out w5 F5).more (by omega)) hn (by omega) o5 (by omega) (by omega) (by omega) (by omega) (by omega) (by omega)).mono ?_
    rintro e w6 ⟨g3, c3, rfl, o6, G6, at6, _⟩
    have F6 := grown_next F5 AT5.out G6
    have AT6 : Hid (g3 = w1.heap.size + 1 ∨ w3.heap.size ≤ g3) := by show _ ∨ _; have := AT5.out; omega
    have hl3 : (tabC xs s l2 4 ρ 0 0).length ≤ 11 := by have := tabC_length xs s l2 4 ρ 0 0; omega
    have HL3 : Hid (tabC xs s l2 4 ρ 0 0 = c3C xs ⟨s, f, ρ, u, m⟩) := by rw [HL2.out, hq]; exact rfl
    generalize tabC xs s l2 4 ρ 0 0 = l3 at *
    generalize hρ : (ρ : Int) = r at *
    clear at6 G6 q0 q2 ht t1 t2 hρ
  all_goals
    clear HL2 HG2 hq o5 F5 AT5 s5 hl2 HL1 hl1 AT4
    have s6 := F6.size
    have q0 : w6.cell? ⟨w1.heap.size, 0, none⟩ = some (.int .i64 s) := keepB.out w6 F6 0
    have q1 : w6.cell? ⟨w1.heap.size, 1, none⟩ = some (.int .i64 f) := keepB.out w6 F6 1
    have q2 : w6.cell? ⟨w1.heap.size, 2, none⟩ = some (.int .i64 r) := keepB.out w6 F6 2
    have q3 : w6.cell? ⟨w1.heap.size, 3, none⟩ = some (.int .i64 u) := keepB.out w6 F6 3
    have q4 : w6.cell? ⟨w1.heap.size, 4, none⟩ = some (.int .i64 m) := keepB.out w6 F6 4
    go_wp2_with fail
    refine (specShotsC_any A n cb w.heap.size xs ⟨s, f, r, u, m⟩ g3 c3 (w1.heap.size + 1) w6.heap.size l3 w6 (keepR.out w6 F6) hn (by omega) o6 (by omega) (by omega)).mono ?_
    rintro e w7 ⟨g4, c4, rfl, o7, G7, at7, _⟩
    have F7 := grown_next F6 AT6.out G7
    have AT7 : Hid (g4 = w1.heap.size + 1 ∨ w3.heap.size ≤ g4) := by show _ ∨ _; have := AT6.out; omega
    have HL4 : Hid (shotsC xs ⟨s, f, r, u, m⟩ l3 = c4C xs ⟨s, f, r, u, m⟩) := by rw [HL3.out]; exact rfl
    have hl4 : (shotsC xs ⟨s, f, r, u, m⟩ l3).length ≤ 16 := by rw [HL4.out]; exact c4_length
    generalize shotsC xs ⟨s, f, r, u, m⟩ l3 = l4 at *
    clear at7 G7 q0 q1 q2 q3 q4 F6 AT6 o6 s6 HL3 hl3
    have s7 := F7.size
    have hg4l := o7.lt
    go_wp2_with fail
    refine (specFirsts_any g4 c4 l4 w7 o7.rd (by omega)).mono ?_
    rintro e w8 ⟨gf, nf, cf, rfl, hcf, o8, b8⟩
    have HNF := Lib.hid o8.len
    have s8 := b8.size
    have hgf : w7.heap.size ≤ gf ∧ gf < w8.heap.size := by
      rcases o8.form with ⟨h, _⟩ | ⟨x, hx, h1, h2, _⟩
      · cases h
      · injection hx with hx; injection hx with hx; omega
    have F8 : w3.grownBy w8 (some (w1.heap.size + 1)) := ⟨b8.os.trans F7.os, b8.tape.trans F7.tape, b8.output.trans F7.output, Nat.le_trans F7.size b8.size, fun k hk hne => (b8.block k (by omega)).trans (F7.block k hk hne)⟩
    have o8' : OwV 62 6 w8 (w1.heap.size + 1) w8.heap.size g4 l4.length c4 (l4.flatMap cmV) := ⟨(o7.keep (b8.block g4 hg4l)).own, by omega⟩
    have HCF := Lib.hid (fun (j : Nat) (hj : j < nf) => o8.cell hj)
    have HTF := Lib.hid (firsts_there (xs := xs) (l := l4) (by rw [HL4.out]; exact ok_c4))
    have hnf : nf ≤ 16 := by have := HNF.out; have := firsts_length l4; omega
    clear b8 o8 o7 F7 hcf s7
    go_wp2_with fail
    go_loopw [5, 8] (fun v i wr => ∃ (k g' c' : Nat), k ≤ nf ∧ i = .int .i64 k ∧ v = .slice (some ⟨g', 0, none⟩) (((firstsC l4).take k).foldl (secStep xs ⟨s, f, r, u, m⟩) l4).length c' ∧
      OwV 62 6 wr (w1.heap.size + 1) wr.heap.size g' (((firstsC l4).take k).foldl (secStep xs ⟨s, f, r, u, m⟩) l4).length c' ((((firstsC l4).take k).foldl (secStep xs ⟨s, f, r, u, m⟩) l4).flatMap cmV) ∧ w8.grownBy wr (some g4) ∧ (g' = g4 ∨ w8.heap.size ≤ g')) (fun _ i _ => nf - (intOf i).toNat)
    case atStart => exact ⟨0, g4, c4, Nat.zero_le _, rfl, rfl, o8', grown_refl _ _, .inl rfl⟩
    case round =>
      obtain ⟨k, g', c', hk, rfl, rfl, ho, hg, hat⟩ := hrel
      have AT := Lib.hid hat
      clear hat
      have FR := grown_next F8 AT7.out hg
      have ATR : Hid (g' = w1.heap.size + 1 ∨ w3.heap.size ≤ g') := by show _ ∨ _; have := AT7.out; have := AT.out; have := F8.size; omega
      have sr := hg.size
      have HLk := Lib.hid (foldl_length (secStep xs ⟨s, f, r, u, m⟩) 8 (fun l a => tabC_length _ _ _ _ _ _ _) ((firstsC l4).take k) l4)
      have hlk : (((firstsC l4).take k).foldl (secStep xs ⟨s, f, r, u, m⟩) l4).length ≤ 10000 := by have := HLk.out; have h1 : ((firstsC l4).take k).length ≤ k := List.length_take_le _ _; omega
      by_cases hlt : k < nf
      · have hkf : k < (firstsC l4).length := by have := HNF.out; omega
        have HT := Lib.hid (take_fold (secStep xs ⟨s, f, r, u, m⟩) (firstsC l4) l4 k hkf)
        have hgd : (firstsC l4).getD k 0 = (firstsC l4)[k] := by simp [List.getD_eq_getElem?_getD, hkf]
        have hth := HTF.out _ (List.getElem_mem hkf)
        have hcf : wr.cell? ⟨gf, k, none⟩ = some (.int .i64 ((firstsC l4).getD k 0)) := hg.cell (HCF.out k hlt) (fun e => by injection e with e; have : gf = g4 := e; omega)
        rw [hgd] at hcf
        clear hgd
        generalize (firstsC l4)[k] = fv at *
        generalize ((firstsC l4).take k).foldl (secStep xs ⟨s, f, r, u, m⟩) l4 = lk at *
        obtain ⟨t1, t2⟩ := there_lt hth
        obtain ⟨φ, rfl⟩ := Int.eq_ofNat_of_zero_le (show 0 ≤ fv by omega)
        clear hth
        have q0 : wr.cell? ⟨w1.heap.size, 0, none⟩ = some (.int .i64 s) := keepB.out wr FR 0
        go_wp2_with fail
        go_still_tail 8, (by kernel_rfl)
        change wpList _ _ _ _ _ wr.drew
        go_wp2_with fail
        refine (specTab_any A n cb xs s g' c' (w1.heap.size + 1) wr.heap.size lk 7 φ 0 8 wr.drew ((keepR.out wr FR).more (by have := F8.size; show w.heap.size ≤ wr.heap.size; omega)) hn (by omega) ho.drew (by have := F8.size; show w1.heap.size + 1 ≤ wr.heap.size; omega) (by omega) (by omega) (by omega) (by omega) (by omega)).mono ?_
        rintro e w9 ⟨g5, c5, rfl, o9, G9, at9, _⟩
        have G9' : wr.grownBy w9 (some g') := ⟨G9.os, G9.tape, G9.output, G9.size, G9.block⟩
        have at9' : g5 = g' ∨ wr.heap.size ≤ g5 := at9
        clear at9 G9
        go_wp2_with fail
        go_roundw
        case rel =>
          have e : ((firstsC l4).take (k + 1)).foldl (secStep xs ⟨s, f, r, u, m⟩) l4 = tabC xs s lk 7 φ 0 8 := by rw [HT.out]; simp [secStep]
          exact ⟨k + 1, g5, c5, by omega, by go_num, by rw [e], by rw [e]; exact o9, grown_next hg AT.out G9', by have := AT.out; omega⟩
        case measure => simp [intOf]; omega
      · obtain rfl : k = nf := by omega
        have HL5 : Hid (((firstsC l4).take k).foldl (secStep xs ⟨s, f, r, u, m⟩) l4 = c5C xs ⟨s, f, r, u, m⟩) := by
          rw [List.take_of_length_le (by have := HNF.out; omega), HL4.out]; exact rfl
        have hl5 : (((firstsC l4).take k).foldl (secStep xs ⟨s, f, r, u, m⟩) l4).length ≤ 144 := by rw [HL5.out]; exact c5_length
        generalize ((firstsC l4).take k).foldl (secStep xs ⟨s, f, r, u, m⟩) l4 = l5 at *
        obtain ⟨g5, rfl⟩ : ∃ x, x = g' := ⟨_, rfl⟩
        obtain ⟨c5, rfl⟩ : ∃ x, x = c' := ⟨_, rfl⟩
        obtain ⟨w9, rfl⟩ : ∃ x, x = wr := ⟨_, rfl⟩
        have HO5 := Lib.hid (show ∀ x ∈ l5, Ok6 xs x by rw [HL5.out]; exact ok_c5)
        have s9 := FR.size
        have hg5 := ho.lt
        clear hg AT HLk hlk HCF HTF
        go_wp2_with fail
        go_loopw [5, 10] (fun v i wr => ∃ (k g' c' : Nat), k ≤ l5.length ∧ i = .int .i64 k ∧ v = .slice (some ⟨g', 0, none⟩) ((l5.take k).foldl (datStep xs ⟨s, f, r, u, m⟩) l5).length c' ∧
          OwV 62 6 wr (w1.heap.size + 1) wr.heap.size g' ((l5.take k).foldl (datStep xs ⟨s, f, r, u, m⟩) l5).length c' (((l5.take k).foldl (datStep xs ⟨s, f, r, u, m⟩) l5).flatMap cmV) ∧ w9.grownBy wr (some g5) ∧ (g' = g5 ∨ w9.heap.size ≤ g') ∧
          RdV 6 wr wr.heap.size (some ⟨g5, 0, none⟩) l5.length (l5.flatMap cmV)) (fun _ i _ => l5.length - (intOf i).toNat)
        case atStart => exact ⟨0, g5, c5, Nat.zero_le _, rfl, rfl, ho, grown_refl _ _, .inl rfl, ho.rd⟩
        case round =>
          obtain ⟨k, g', c', hk, rfl, rfl, hok, hg, hat, hold⟩ := hrel
          have AT := Lib.hid hat
          clear hat
          have F2 := grown_next FR ATR.out hg
          have sr := hg.size
          have HLk := Lib.hid (foldl_length (datStep xs ⟨s, f, r, u, m⟩) 8 datStep_length (l5.take k) l5)
          have hlk : ((l5.take k).foldl (datStep xs ⟨s, f, r, u, m⟩) l5).length ≤ 10000 := by have := HLk.out; have h1 : (l5.take k).length ≤ k := List.length_take_le _ _; omega
          have HPk := Lib.hid (foldl_prefix (datStep xs ⟨s, f, r, u, m⟩) (fun l a => datStep_prefix l a) (l5.take k) l5)
          by_cases hlt : k < l5.length
          · have HT := Lib.hid (take_fold (datStep xs ⟨s, f, r, u, m⟩) l5 l5 k hlt)
            have hgd : l5.getD k cm0 = l5[k] := by simp [List.getD_eq_getElem?_getD, hlt]
            have hokk := HO5.out _ (List.getElem_mem hlt)
            have hce := cm_cells hold hlt
            rw [hgd] at hce
            clear hgd
            generalize l5[k] = x at *
            generalize (l5.take k).foldl (datStep xs ⟨s, f, r, u, m⟩) l5 = lk at *
            obtain ⟨xk, xf, xs', xp, xt, xg⟩ := x
            have e0 : wr.cell? ⟨g5, k * 6, none⟩ = some (.int .i64 xk) := hce 0 (by omega)
            have e3 : wr.cell? ⟨g5, k * 6 + 3, none⟩ = some (.int .i64 xp) := hce 3 (by omega)
            have e4 : wr.cell? ⟨g5, k * 6 + 4, none⟩ = some (.int .i64 xt) := hce 4 (by omega)
            have e5 : wr.cell? ⟨g5, k * 6 + 5, none⟩ = some (.bool xg) := hce 5 (by omega)
            clear hce
            have q0 : wr.cell? ⟨w1.heap.size, 0, none⟩ = some (.int .i64 s) := keepB.out wr F2 0
            by_cases hk7 : xk = 7
            · subst hk7
              cases xg
              · have HE : Hid ((l5.take (k + 1)).foldl (datStep xs ⟨s, f, r, u, m⟩) l5 = lk) := by rw [HT.out]; simp [datStep, Hid]
                clear HT hokk
                go_wp2_with fail
                go_roundw
                case rel => exact ⟨k + 1, g', c', by omega, by go_num, by rw [HE.out], by rw [HE.out]; exact hok, hg, AT.out, hold⟩
                case measure => simp [intOf]; omega
              · have HE : Hid ((l5.take (k + 1)).foldl (datStep xs ⟨s, f, r, u, m⟩) l5 = tabC xs s lk 8 xt.toNat xp 1) := by rw [HT.out]; simp [datStep, Hid]
                have hth : thereB xs xt = true := by
                  rcases hokk.lead rfl with h1 | h1
                  · have := h1.1; simp at this
                  · exact h1
                have hp0 : 0 ≤ xp := hokk.place0
                have hp1 : xp ≤ 63 := hokk.place1
                obtain ⟨t1, t2⟩ := there_lt hth
                obtain ⟨τ, rfl⟩ := Int.eq_ofNat_of_zero_le (show 0 ≤ xt by omega)
                clear HT hokk hth
                go_wp2_with fail
                go_still_tail 14, (by kernel_rfl)
                change wpList _ _ _ _ _ wr.drew
                go_wp2_with fail
                refine (specTab_any A n cb xs s g' c' (w1.heap.size + 1) wr.heap.size lk 8 τ xp 1 wr.drew ((keepR.out wr F2).more (by show w.heap.size ≤ wr.heap.size; omega)) hn (by omega) hok.drew (by show w1.heap.size + 1 ≤ wr.heap.size; omega) (by omega) hp0 (by omega) (by omega) (by omega)).mono ?_
                rintro e w10 ⟨g6, c6, rfl, o10, G10, at10, hold10⟩
                have G10' : wr.grownBy w10 (some g') := ⟨G10.os, G10.tape, G10.output, G10.size, G10.block⟩
                have at10' : g6 = g' ∨ wr.heap.size ≤ g6 := at10
                clear at10 G10
                go_wp2_with fail
                go_roundw
                case rel =>
                  have e := HE.out
                  rw [Int.toNat_natCast] at e
                  exact ⟨k + 1, g6, c6, by omega, by go_num, by rw [e], by rw [e]; exact o10, grown_next hg AT.out G10', by have := AT.out; omega, old_next hold HPk.out (by omega) G10' hold10⟩
                case measure => simp [intOf]; omega
            · have hd7 : (xk == 7) = false := by simpa using hk7
              have HE : Hid ((l5.take (k + 1)).foldl (datStep xs ⟨s, f, r, u, m⟩) l5 = lk) := by rw [HT.out]; simp [datStep, hk7, Hid]
              clear HT hokk
              go_wp2_with fail
              go_roundw
              case rel => exact ⟨k + 1, g', c', by omega, by go_num, by rw [HE.out], by rw [HE.out]; exact hok, hg, AT.out, hold⟩
              case measure => simp [intOf]; omega
          · obtain rfl : k = l5.length := by omega
            have HE : Hid ((l5.take l5.length).foldl (datStep xs ⟨s, f, r, u, m⟩) l5 = claimsC xs) := by
              rw [List.take_length, HC.out, HL5.out]; exact rfl
            go_wp2_with fail
            go_ret
            rw [← HE.out]
            exact ⟨g', c', rfl, hok.more (by omega) (Nat.le_refl _), below_of_grown b3 F2 (by omega)⟩

end Go.Proofs.YtibokhkohanoaaaGreat
