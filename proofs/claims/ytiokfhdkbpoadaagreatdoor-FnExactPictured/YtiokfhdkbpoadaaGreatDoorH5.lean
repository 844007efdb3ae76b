/- Disks: what is written is read, and all else as it was: plain mathematics. Disks: Written, plain mathematics. Disks: Pictured, plain mathematics. -/
import Derived.Test.YtiokfhdkbpoadaaGreatDoorH7
import Derived.Test.YtiokfhdkbpoadaaGreatDoorG5
namespace Go.Proofs.YtiokfhdkbpoadaaGreatDoor
open Go.RowKit

/-- What is counted and flagged anew reads as it did. -/
theorem done_content {y : List Int} (hh : hasHead y = true) (h8 : y.length % 8 = 0) (hg : ∀ c ∈ claimsC y, c.good = true) (hs : (headOf y).many = 0 → (headOf y).shots = 0) (hc : countedL y ≠ []) :
    namesL (ownedC (countedL y)) = namesL y ∧ ∀ (which : Nat), which ≤ (namesL y).length → ∀ g : Nat, (g : Int) < (headOf y).size → contentL (ownedC (countedL y)) which g = contentL y which g := by
  have ec := clr_same hh h8 hg hs
  have R := chain_is hh (by rw [ec]; exact hc)
  rw [ec] at R
  obtain ⟨hk, hsl⟩ := keep_full hh hg
  have hlen : (shotsL y).length = (keepC y).length := by
    by_cases h0 : (headOf y).many = 0
    · rw [shots_none hh h0, hk, if_pos h0]; rfl
    · rw [hk, if_neg h0]
      have hne : keepC y ≠ [] := fun e => by
        rw [e, if_neg h0] at hk
        have := headB_all (hasHead_ok hh)
        simp at hk
        omega
      obtain ⟨c, hc⟩ := List.exists_mem_of_ne_nil _ hne
      rw [shots_len hh (keepC_shot hc).2]
      simp
  refine ⟨?_, fun which hw g hgs => ?_⟩
  · rw [R.names]
    unfold namesL
    apply List.ext_getElem?
    intro i
    rw [List.getElem?_map, List.getElem?_map]
    by_cases hi : i < (keepC y).length
    · rw [List.getElem?_eq_getElem hi, List.getElem?_eq_getElem (by omega)]
      simp only [Option.map_some]
      rw [hsl i hi, Int.toNat_natCast, List.getD_eq_getElem?_getD, List.getElem?_eq_getElem (by omega)]
      rfl
    · rw [List.getElem?_eq_none (by omega), List.getElem?_eq_none (by omega)]
      rfl
  · have hfst : goodB y (headOf y).size [⟨1, 0, 0, 0, 0, true⟩] ⟨2, 0, 0, 0, (headOf y).first, false⟩ = true := hg _ (c4_sub y _ (first_claim y))
    unfold namesL at hw
    rw [List.length_map] at hw
    have hll : (leftL y).length = (keepC y).length + 1 := by unfold leftL; simp
    have hget : (leftL y).getD which 0 = (which : Int) := by
      unfold leftL
      cases which with
      | zero => rfl
      | succ i =>
        have hi : i < (keepC y).length := by omega
        rw [List.getD_cons_succ, List.getD_eq_getElem?_getD, List.getElem?_map, List.getElem?_eq_getElem hi]
        simp only [Option.map_some, Option.getD_some]
        rw [hsl i hi]
        omega
    obtain ⟨_, h⟩ := chain_content hh R hfst (i := which) (by omega) hgs
    rw [hget] at h
    rcases h with h | ⟨_, c, hc, hgc⟩
    · exact h
    · rw [hg c hc] at hgc; cases hgc
/-- A cluster with count one has one claim. -/
theorem count_one {b : List Int} {x y : Cm} (hx : x ∈ claimsC b) (hy : y ∈ claimsC b) (gx : x.good = true) (gy : y.good = true) (ht : x.target = y.target) (h64 : x.target.toNat < 64) (h1 : (countsC (claimsC b)).getD x.target.toNat 0 = 1) : x = y := by
  have hs := cnt_sum x.target.toNat (claimsC b) (List.replicate 64 0) (by simpa using h64)
  have e : (countsC (claimsC b)).getD x.target.toNat 0 = ((claimsC b).foldl cntStep (List.replicate 64 0)).getD x.target.toNat 0 := rfl
  rw [← e, h1, zeros_get] at hs
  have hl : ((claimsC b).filter (fun c => c.good && decide (c.target.toNat = x.target.toNat))).length = 1 := by omega
  obtain ⟨z, hz⟩ := List.length_eq_one_iff.1 hl
  have mx : x ∈ (claimsC b).filter (fun c => c.good && decide (c.target.toNat = x.target.toNat)) := List.mem_filter.2 ⟨hx, by simp [gx]⟩
  have my : y ∈ (claimsC b).filter (fun c => c.good && decide (c.target.toNat = x.target.toNat)) := List.mem_filter.2 ⟨hy, by simp [gy, ht]⟩
  rw [hz, List.mem_singleton] at mx my
  rw [mx, my]
theorem own_entry {t : Int} {o : Bool} (h0 : 0 ≤ t) (h1 : t ≤ 32767) (h : ownIn (entryOf t o) = true) : o = true := by
  unfold entryOf at h
  rw [inB_true.2 ⟨h0, h1⟩, if_pos rfl] at h
  cases o
  · rw [if_neg (by simp)] at h
    unfold ownIn at h
    rw [Bool.and_eq_true, decide_eq_true_eq] at h
    omega
  · rfl
theorem tbl_step_keep {k : Nat} {o : List Int} {c : Cm} {t : Int} (h : t ∈ o) : t ∈ tblStep k o c := by unfold tblStep; split <;> simp [h]
theorem tbl_keep (l : List Cm) (k : Nat) : ∀ (o : List Int) (t : Int), t ∈ o → t ∈ l.foldl (tblStep k) o := by
  induction l with
  | nil => intro o t h; exact h
  | cons c l ih => intro o t h; rw [List.foldl_cons]; exact ih _ _ (tbl_step_keep h)
theorem tbl_in (l : List Cm) (k : Nat) : ∀ (o : List Int) (c : Cm), c ∈ l → c.good = true → inTab k c = true → c.target ∈ l.foldl (tblStep k) o := by
  induction l with
  | nil => intro o c h; cases h
  | cons d l ih =>
    intro o c h hg hk
    rw [List.foldl_cons]
    rcases List.mem_cons.1 h with rfl | h
    · refine tbl_keep _ _ _ _ ?_
      unfold tblStep
      rw [hk, hg]
      cases hb : hasB o c.target
      · simp
      · have := hasB_mem.1 hb
        simp [this]
    · exact ih _ c h hg hk
theorem tables_in {l : List Cm} {c : Cm} (hc : c ∈ l) (hg : c.good = true) (hk : c.kind = 2 ∨ c.kind = 3 ∨ c.kind = 6 ∨ c.kind = 7) : c.target ∈ tablesC l := by
  have e : tablesC l = tblRound l (tblRound l (tblRound l [] 0) 1) 2 := rfl
  rw [e]
  unfold tblRound
  rcases hk with hk | hk | hk | hk
  · exact tbl_keep _ _ _ _ (tbl_in l 1 _ c hc hg (by unfold inTab; simp [hk]))
  · exact tbl_keep _ _ _ _ (tbl_keep _ _ _ _ (tbl_in l 0 _ c hc hg (by unfold inTab; simp [hk])))
  · exact tbl_keep _ _ _ _ (tbl_in l 1 _ c hc hg (by unfold inTab; simp [hk]))
  · exact tbl_in l 2 _ c hc hg (by unfold inTab; simp [hk])
/-- In a sound image a flag of its own says that nobody else leads there. -/
theorem own_count {b : List Int} (S : SoundP b) {c : Cm} (hc : c ∈ claimsC b) (hk : c.kind = 7 ∨ c.kind = 8) (ho : ownIn ((cl b c.frm.toNat).getD c.slot.toNat 0) = true) : (countsC (claimsC b)).getD c.target.toNat 0 = 1 := by
  obtain ⟨d, hd, h⟩ := claim_tab hc (by omega)
  have hdk : d.kind = 2 ∨ d.kind = 3 ∨ d.kind = 6 ∨ d.kind = 7 := by rcases h with h | h | h <;> omega
  have ht : c.frm ∈ tablesC (claimsC b) := by rw [hd.frm]; exact tables_in hd.mem hd.good hdk
  have s0 := hd.slot0
  have s1 := hd.slot1
  have hm : mustW b c.frm c.slot.toNat = (cl b c.frm.toNat).getD c.slot.toNat 0 := by
    by_cases hw : mustW b c.frm c.slot.toNat = (cl b c.frm.toNat).getD c.slot.toNat 0
    · exact hw
    · have : (⟨c.frm, (c.slot.toNat : Nat), mustW b c.frm c.slot.toNat⟩ : Wr) ∈ wrongsC b := (wrongs_iff b _).2 ⟨c.frm, ht, c.slot.toNat, by omega, hw, rfl⟩
      rw [S.wrongs] at this
      cases this
  have hne : targetOf ((cl b c.frm.toNat).getD c.slot.toNat 0) ≠ 0 := by
    have h1 := hd.word
    have h2 := hd.some
    rw [hd.frm, ← h1]
    exact h2
  rw [← hm] at ho
  unfold mustW mustC at ho
  rw [if_neg hne] at ho
  cases hf : (claimsC b).find? (mustP c.frm c.slot.toNat) with
  | none =>
    rw [List.find?_eq_none] at hf
    have := hf c hc
    unfold mustP at this
    exact absurd (by rw [Int.toNat_of_nonneg s0]; rcases hk with hk | hk <;> simp [hk]) this
  | some e =>
    rw [hf] at ho
    obtain ⟨he, hke, hef, hes, het⟩ := must_find hf
    have hge := S.good e he
    have hte := there_lt (good_there he hge (by omega))
    have hmn := manyN_le (hasHead_img S.head)
    unfold mustOf at ho
    simp only [if_pos hge] at ho
    have := own_entry (by omega) (by omega) ho
    simp at this
    have e2 : e.target = c.target := by
      rw [het, hd.word, hd.frm]
    rw [e2] at this
    exact this.2

/-- An image into which something was written reads as it did, but there. -/
structure WroteP (b y : List Int) (f t s i tt n : Nat) (ws : List Int) : Prop where
  head : hasHead y = true
  same : headOf y = headOf b
  shots : shotsL y = shotsL b
  more : manyN b ≤ manyN y
  newN : thereB y n = true
  newT : thereB y tt = true
  words : cl y n = ws
  fst : ∀ c ∈ claimsC b, c.good = true → c.kind = 2 ∨ c.kind = 6 → ∀ j, j < 8 → ¬ (c.target = f ∧ j = s) → targetOf ((cl y c.target.toNat).getD j 0) = targetOf ((cl b c.target.toNat).getD j 0)
  fs : targetOf ((cl y f).getD s 0) = tt
  ti : targetOf ((cl y tt).getD i 0) = n
  tj : ∀ j, j < 8 → j ≠ i → targetOf ((cl y tt).getD j 0) = if t ≠ 0 then targetOf ((cl b t).getD j 0) else 0
  sec : ∀ c ∈ claimsC b, c.good = true → c.kind = 7 → ¬ (c.frm = f ∧ c.slot = s) → ∀ j, j < 8 → targetOf ((cl y c.target.toNat).getD j 0) = targetOf ((cl b c.target.toNat).getD j 0)
  far : ∀ c ∈ claimsC b, c.good = true → c.kind = 7 → ¬ (c.frm = f ∧ c.slot = s) → c.target ≠ tt
  dat : ∀ c ∈ claimsC b, c.good = true → c.kind = 8 → ¬ (c.frm = tt ∧ c.slot = i) → cl y c.target.toNat = cl b c.target.toNat
/-- The first table of a number. -/
theorem first_of {b : List Int} (S : SoundP b) {which : Nat} (hw : which ≤ (shotsL b).length) : ∃ d ∈ c4C b (headOf b), d.good = true ∧ (d.kind = 2 ∨ d.kind = 6) ∧ firstOf b which = d.target ∧ (d.kind = 2 ↔ which = 0) := by
  cases which with
  | zero =>
    refine ⟨_, first_claim b, S.good _ (c4_sub b _ (first_claim b)), .inl rfl, ?_, by simp⟩
    rw [show ((0 : Nat) : Int) = 0 from rfl, firstOf_zero S.head]
  | succ k =>
    obtain ⟨hk, hsl⟩ := keep_full S.head S.good
    have hlen : (shotsL b).length = (keepC b).length := by
      by_cases h0 : (headOf b).many = 0
      · rw [shots_none S.head h0] at hw; simp at hw
      · rw [hk, if_neg h0]
        have hne : keepC b ≠ [] := fun e => by
          rw [e, if_neg h0] at hk
          have := headB_all (hasHead_ok S.head)
          simp at hk
          omega
        obtain ⟨c, hc⟩ := List.exists_mem_of_ne_nil _ hne
        rw [shots_len S.head (keepC_shot hc).2]
        simp
    have hk2 : k < (keepC b).length := by omega
    have hc := List.getElem_mem hk2
    obtain ⟨_, hk6, hgd⟩ := keepC_mem hc
    have ht := (keepC_shot hc).1
    rw [hsl k hk2, Int.toNat_natCast] at ht
    refine ⟨_, keep_c4 hc, hgd, .inr hk6, ?_, by omega⟩
    rw [firstOf_in S.head (by omega) (inB_true.2 (by omega)), ht, show (((k + 1 : Nat) : Int) - 1).toNat = k by omega]
theorem wrote_content {b y : List Int} (S : SoundP b) {t i tt n g : Nat} {ws : List Int} (W : WroteP b y (headOf b).first.toNat t (g / 8) i tt n ws) (hgi : g % 8 = i) (ht : targetOf ((cl b (headOf b).first.toNat).getD (g / 8) 0) = t) (hg : (g : Int) < (headOf b).size) (hws : ws.length = 8)
    {which : Nat} (hw : which ≤ (shotsL b).length) {k : Nat} (hk : (k : Int) < (headOf b).size) : contentL y which k = if which = 0 ∧ k = g then ws else contentL b which k := by
  have hsz := headB_all (hasHead_ok S.head)
  obtain ⟨d, hd, hgd, hkd, hfd, hd0⟩ := first_of S hw
  have hdc := c4_sub b d hd
  have htd := good_there hdc hgd (by omega)
  have htl := there_lt htd
  have hfy : firstOf y which = d.target := by
    rw [← hfd]
    unfold firstOf
    rw [W.head, S.head, W.same, W.shots]
  have hwi : inB (which : Int) 0 ((shotsL b).length : Int) = true := inB_true.2 (by omega)
  rw [content_at S.head hwi hfd htd hk, content_at W.head (by rw [W.shots]; exact hwi) hfy (there_more W.more htd) (by rw [W.same]; exact hk)]
  have hff : d.target ∈ firstsC (c4C b (headOf b)) := by
    unfold firstsC
    rw [List.mem_map]
    exact ⟨d, List.mem_filter.2 ⟨hd, by rcases hkd with h | h <;> simp [hgd, h]⟩, rfl⟩
  by_cases hfs : d.target = ((headOf b).first.toNat : Nat) ∧ k / 8 = g / 8
  · -- the table that was written into
    have hft : d.target.toNat = (headOf b).first.toNat := by omega
    have hw0 : which = 0 := by
      apply hd0.1
      rcases hkd with h | h
      · exact h
      · exfalso
        have hm := first_claim b
        have hgm := S.good _ (c4_sub b _ hm)
        have := (good_one hdc (c4_sub b _ hm) hgd hgm (by simp only; omega)).1
        simp only at this
        omega
    rw [hft, hfs.2, W.fs, tableL_in W.head W.newT, Int.toNat_natCast]
    by_cases hkg : k = g
    · rw [if_pos ⟨hw0, hkg⟩, hkg, hgi, W.ti, tableL_in W.head W.newN, Int.toNat_natCast, W.words]
      unfold orZero
      rw [if_neg (fun e => by rw [e] at hws; simp at hws)]
    · rw [if_neg (fun h => hkg h.2), W.tj _ (by omega) (by omega), ht]
      by_cases h0 : t = 0
      · rw [if_neg (by simp [h0]), zero_data rfl, zero_second (by omega)]
      · rw [if_pos h0]
        obtain ⟨c, hc, hk7, hcf, hcs, _, hct⟩ := second_claim hff (k / 8) (by omega) (by rw [hft, hfs.2, ht]; omega)
        have hcc := c5_sub b c hc
        have hcg := S.good c hcc
        have htc := good_there hcc hcg (by omega)
        rw [hft, hfs.2, ht] at hct
        rw [← hct, tableL_in S.head htc, hct, Int.toNat_natCast]
        by_cases h3 : targetOf ((cl b t).getD (k % 8) 0) = 0
        · rw [zero_data h3, zero_data h3]
        · obtain ⟨e, he, hk8, hef, hes, het⟩ := data_claim hc hk7 hcg (k % 8) (by omega) (by rw [hct, Int.toNat_natCast]; exact h3)
          rw [hct, Int.toNat_natCast] at het
          have heg := S.good e he
          have hte := good_there he heg (by omega)
          rw [← het, tableL_in S.head hte, tableL_in W.head (there_more W.more hte), W.dat e he heg hk8 (fun h => by have := h.2; omega)]
  · have hne : ¬ (which = 0 ∧ k = g) := by
      rintro ⟨h1, h2⟩
      apply hfs
      have : firstOf b (which : Int) = (headOf b).first := by rw [h1, show ((0 : Nat) : Int) = 0 from rfl, firstOf_zero S.head]
      rw [hfd] at this
      refine ⟨?_, by rw [h2]⟩
      omega
    rw [if_neg hne, W.fst d hdc hgd hkd (k / 8) (by omega) (fun h => hfs ⟨by omega, h.2⟩)]
    by_cases h1 : targetOf ((cl b d.target.toNat).getD (k / 8) 0) = 0
    · rw [zero_second h1, zero_second h1]
    · obtain ⟨c, hc, hk7, hcf, hcs, _, hct⟩ := second_claim hff (k / 8) (by omega) h1
      have hcc := c5_sub b c hc
      have hcg := S.good c hcc
      have htc := good_there hcc hcg (by omega)
      rw [← hct, tableL_in S.head htc, tableL_in W.head (there_more W.more htc), W.sec c hcc hcg hk7 (fun h => hfs ⟨by omega, by omega⟩) (k % 8) (by omega)]
      by_cases h3 : targetOf ((cl b c.target.toNat).getD (k % 8) 0) = 0
      · rw [zero_data h3, zero_data h3]
      · obtain ⟨e, he, hk8, hef, hes, het⟩ := data_claim hc hk7 hcg (k % 8) (by omega) h3
        have heg := S.good e he
        have hte := good_there he heg (by omega)
        have hfar := W.far c hcc hcg hk7 (fun h => hfs ⟨by omega, by omega⟩)
        have htlc := there_lt htc
        rw [← het, tableL_in S.head hte, tableL_in W.head (there_more W.more hte), W.dat e he heg hk8 (fun h => hfar (by have := h.1; omega))]

theorem cl_ext {b y : List Int} {c : Nat} (h : ∀ j, j < 8 → (cl y c).getD j 0 = (cl b c).getD j 0) : cl y c = cl b c :=
  getD_ext (by rw [cl_length, cl_length]) (fun j => by
    by_cases hj : j < 8
    · exact h j hj
    · rw [getD_past _ _ (by rw [cl_length]; omega), getD_past _ _ (by rw [cl_length]; omega)])
theorem cl_words {y ws : List Int} {c : Nat} (hl : ws.length = 8) (h : ∀ j, j < 8 → (cl y c).getD j 0 = ws.getD j 0) : cl y c = ws :=
  getD_ext (by rw [cl_length, hl]) (fun j => by
    by_cases hj : j < 8
    · exact h j hj
    · rw [getD_past _ _ (by rw [cl_length]; omega), getD_past _ _ (by omega)])
theorem target_small {m : Nat} (h : m ≤ 64) : targetOf (m : Int) = m := by
  rw [targetOf_yes (inB_true.2 (by omega))]
  omega
/-- The same tables: the same claims. -/
theorem frame_raw {b x : List Int} (T : Tidy b) (hx : hasHead x = true) (he : headOf x = headOf b) (hm : manyN b ≤ manyN x) (hcl : ∀ c ∈ rawC b (headOf b), c.good = true → c.kind = 2 ∨ c.kind = 3 ∨ c.kind = 5 ∨ c.kind = 6 ∨ c.kind = 7 → cl x c.target.toNat = cl b c.target.toNat) :
    Tidy x ∧ rawC x (headOf x) = rawC b (headOf b) ∧ shotsL x = shotsL b := by
  have hS : shotsL x = shotsL b := by
    by_cases h0 : (headOf b).many = 0
    · rw [shots_none T.head h0, shots_none hx (by rw [he]; exact h0)]
    · have hm5 : (⟨5, 0, 0, 0, (headOf b).shots, true⟩ : Cm) ∈ rawC b (headOf b) := raw_sh (by unfold rSh; rw [if_neg h0]; simp)
      have ht := T.neat.ok _ hm5 rfl (by simp)
      simp only at ht
      rw [shotsL_some (headIn_yes T.head) ht.1, shotsL_some (headIn_yes hx) (by rw [he]; exact there_more hm ht.1), he, hcl _ hm5 rfl (by simp)]
  obtain ⟨e1, e2, e3, e4⟩ := body_congr (b := b) (x := x) (h := headOf b) (h' := headOf x) (by rw [he]) (by rw [he]) (by rw [he]) (fun _ => hS) (fun f hf i _ => by
    obtain ⟨c, hc, hg, hk, rfl⟩ := rFst_mem hf
    rw [hcl c hc hg (by omega)]) (fun c hc i _ => by
    have hk := rSec_kind hc
    rw [hcl c (raw_sec hc) hk.2 (by omega)])
  have eb : rBlk x (headOf x) = rBlk b (headOf b) := by
    unfold rBlk
    rw [he]
    by_cases h0 : (headOf b).refs = 0
    · rw [if_neg (by simp [h0]), if_neg (by simp [h0])]
    · have hr : (⟨3, 0, 0, 0, (headOf b).refs, true⟩ : Cm) ∈ rawC b (headOf b) := raw_r1 (by unfold r1C; simp [h0])
      have hce := hcl ⟨3, 0, 0, 0, (headOf b).refs, true⟩ hr rfl (.inr (.inl rfl))
      simp only at hce
      rw [if_pos h0, if_pos h0]
      exact tabT_congr (fun i _ => by rw [hce])
  have er : rawC x (headOf x) = rawC b (headOf b) := by
    unfold rawC r4C
    rw [e1, e3, e4, eb, he]
  refine ⟨⟨hx, ⟨fun c hc hg hk => ?_, by rw [er]; exact T.neat.free⟩⟩, er, hS⟩
  rw [er] at hc
  have := T.neat.ok c hc hg hk
  exact ⟨there_more hm this.1, by rw [he]; exact this.2⟩
theorem SoundP.tidy {b : List Int} (S : SoundP b) : Tidy b := ⟨S.head, neat_of (fun c hc => .inl (S.good c hc))⟩
theorem SoundP.refs {b : List Int} (S : SoundP b) : (headOf b).refs ≠ 0 := by
  intro h0
  have hm := refs_claim b
  have := good_there hm (S.good _ hm) (by simp)
  simp only at this
  rw [h0, there_zero] at this
  cases this
theorem SoundP.firstT {b : List Int} (S : SoundP b) : (⟨2, 0, 0, 0, (headOf b).first, true⟩ : Cm) ∈ claimsC b ∧ (⟨2, 0, 0, 0, (headOf b).first, true⟩ : Cm) ∈ c4C b (headOf b) ∧ thereB b (headOf b).first = true := by
  have hm := first_claim b
  have hg := S.good _ (c4_sub b _ hm)
  simp only at hg
  rw [hg] at hm
  exact ⟨c4_sub b _ hm, hm, good_there (c4_sub b _ hm) rfl (by simp)⟩
/-- A word of a table of a sound image that is not 0 leads somewhere. -/
theorem sound_word {b : List Int} (S : SoundP b) {d : Cm} (hd : d ∈ claimsC b) (hk : d.kind = 2 ∨ d.kind = 6 ∨ d.kind = 7) {s : Nat} (hs : s < 8) (h : (cl b d.target.toNat).getD s 0 ≠ 0) : targetOf ((cl b d.target.toNat).getD s 0) ≠ 0 := by
  intro h0
  have ht : d.target ∈ tablesC (claimsC b) := tables_in hd (S.good d hd) (by omega)
  have hm : mustW b d.target s = 0 := by unfold mustW mustC; rw [if_pos h0]
  have : (⟨d.target, s, mustW b d.target s⟩ : Wr) ∈ wrongsC b := (wrongs_iff b _).2 ⟨d.target, ht, s, hs, by rw [hm]; exact Ne.symm h, rfl⟩
  rw [S.wrongs] at this
  cases this
theorem own_ne {e : Int} (h : ownIn e = true) : e ≠ 0 := by
  intro e0
  subst e0
  cases h
/-- The frame of a sound image: only data clusters and what lies behind may be others. -/
theorem sound_frame {b x : List Int} (S : SoundP b) (hx : hasHead x = true) (he : headOf x = headOf b) (hm : manyN x = manyN b) (h8 : x.length % 8 = 0) (hcl : ∀ c ∈ claimsC b, c.good = true → c.kind ≠ 1 → c.kind ≠ 8 → cl x c.target.toNat = cl b c.target.toNat) : SoundP x := by
  obtain ⟨T, er, _⟩ := frame_raw S.tidy hx he (by omega) (fun c hc hg hk => hcl c (by rw [S.tidy.claims]; exact hc) hg (by omega) (by omega))
  have ec : claimsC x = claimsC b := by rw [T.claims, S.tidy.claims, er]
  refine ⟨hx, h8, fun c hc => S.good c (by rw [← ec]; exact hc), fun h => by rw [he] at h ⊢; exact S.shots h, ?_, ?_⟩
  · have e1 : storedL x = storedL b := by
      unfold storedL
      rw [if_pos hx, if_pos S.head, ec]
      unfold storedC
      refine List.map_congr_left (fun c hc => ?_)
      rw [List.mem_range] at hc
      by_cases hb : (blocksC (claimsC b)).getD (c / 8) 0 ≠ 0
      · rw [if_pos hb, if_pos hb]
        rcases block_is (b := b) (c / 8) (by omega) with ⟨d, hd, hg, hk, _, ht⟩ | ⟨h0, _⟩
        · rw [ht, hcl d hd hg (by omega) (by omega)]
        · exact absurd h0 hb
      · rw [if_neg hb, if_neg hb]
    rw [e1, S.stored]
    unfold countsL
    rw [if_pos hx, if_pos S.head, ec]
  · rw [List.eq_nil_iff_forall_not_mem]
    intro w hw
    obtain ⟨t, ht, s, hs, h, _⟩ := (wrongs_iff x w).1 hw
    rw [ec] at ht
    obtain ⟨c, hc, hct, hg, hk⟩ := tables_mem ht
    have hcc := hcl c hc hg (by omega) (by omega)
    rw [← hct] at hcc
    have : (⟨t, s, mustW b t s⟩ : Wr) ∈ wrongsC b := by
      refine (wrongs_iff b _).2 ⟨t, ht, s, hs, ?_, rfl⟩
      unfold mustW at h ⊢
      rw [ec, hcc] at h
      exact h
    rw [S.wrongs] at this
    cases this
theorem setCl_other {b ws : List Int} {u c : Nat} (hu : u * 8 ≤ b.length) (hw : ws.length = 8) (hne : c ≠ u) : cl (setCl b u ws) c = cl b c :=
  cl_ext (fun j hj => by
    rw [cl_word_get _ _ _ hj, cl_word_get _ _ _ hj, setCl_get hu hw, if_neg (by omega)])
theorem setCl_there {b ws : List Int} {u : Nat} (hu : u * 8 ≤ b.length) (hw : ws.length = 8) : cl (setCl b u ws) u = ws :=
  cl_words hw (fun j hj => by
    rw [cl_word_get _ _ _ hj, setCl_get hu hw, if_pos (by omega)]
    congr 1
    omega)
/-- Written where nobody else leads. -/
theorem write_in {b ws : List Int} {g : Nat} (S : SoundP b) (hg : (g : Int) < (headOf b).size) (hws : eightB ws = true) (ho1 : ownIn (firstEntry b 0 ((g / 8 : Nat) : Int)) = true) (ho2 : ownIn (entryAt b 0 g) = true) :
    SoundP (setCl b (targetOf (entryAt b 0 g)).toNat ws) ∧ shotsL (setCl b (targetOf (entryAt b 0 g)).toNat ws) = shotsL b ∧ ∀ which : Nat, which ≤ (shotsL b).length → ∀ k : Nat, (k : Int) < (headOf b).size → contentL (setCl b (targetOf (entryAt b 0 g)).toNat ws) which k = if which = 0 ∧ k = g then ws else contentL b which k := by
  have hsz := headB_all (hasHead_ok S.head)
  have hw8 := eightB_len hws
  obtain ⟨hf, hf4, hft⟩ := S.firstT
  have hfl := there_lt hft
  have h64 := manyN_le (hasHead_img S.head)
  have e1 := firstEntry_sound S.sound (g / 8) (by omega)
  rw [entryAt_sound S.sound g hg] at ho2 ⊢
  rw [e1] at ho1 ho2 ⊢
  have ht0 := sound_word S hf (.inl rfl) (by omega : g / 8 < 8) (own_ne ho1)
  simp only at ht0
  have hff : (headOf b).first ∈ firstsC (c4C b (headOf b)) := (sound_first S.sound).2
  obtain ⟨c, hc, hk7, hcf, hcs, _, hct⟩ := second_claim hff (g / 8) (by omega) ht0
  have hcc := c5_sub b c hc
  have hcg := S.good c hcc
  have htc := good_there hcc hcg (by omega)
  have htl := there_lt htc
  rw [← hct, tableL_in S.head htc] at ho2 ⊢
  have hu0 := sound_word S hcc (.inr (.inr hk7)) (by omega : g % 8 < 8) (own_ne ho2)
  obtain ⟨d, hd, hk8, hdf, hds, hdt⟩ := data_claim hc hk7 hcg (g % 8) (by omega) hu0
  have hdg := S.good d hd
  have htd := good_there hd hdg (by omega)
  have hdl := there_lt htd
  rw [← hdt]
  have cnt7 : (countsC (claimsC b)).getD c.target.toNat 0 = 1 := own_count S hcc (.inl hk7) (by rw [hcf, hcs, Int.toNat_natCast, Int.toNat_natCast]; exact ho1)
  have cnt8 : (countsC (claimsC b)).getD d.target.toNat 0 = 1 := own_count S hd (.inr hk8) (by rw [hdf, hds, Int.toNat_natCast, Int.toNat_natCast]; exact ho2)
  have hlen : manyN b * 8 = b.length := by have := S.eight; unfold manyN; omega
  have hu : d.target.toNat * 8 ≤ b.length := by omega
  have hoth : ∀ v : Nat, v ≠ d.target.toNat → cl (setCl b d.target.toNat ws) v = cl b v := fun v hv => setCl_other hu hw8 hv
  have hll : (setCl b d.target.toNat ws).length = b.length := by rw [setCl_length S.eight hu hw8, if_neg (by omega)]
  have hwd : ∀ x ∈ ws, wordB x = true := by
    unfold eightB wordsB at hws
    rw [Bool.and_eq_true, List.all_eq_true] at hws
    exact hws.2
  have hz : ∀ j, j < 8 → (setCl b d.target.toNat ws).getD j 0 = b.getD j 0 := fun j hj => by rw [setCl_get hu hw8, if_neg (by omega)]
  have hx : hasHead (setCl b d.target.toNat ws) = true := head_congr hz (setCl_img (hasHead_img S.head) hwd (by rw [hll]; exact (hasHead_len S.head).2)) (by rw [hll]; have := (hasHead_len S.head).1; omega) S.head
  have he : headOf (setCl b d.target.toNat ws) = headOf b := headOf_congr hz
  have hmx : manyN (setCl b d.target.toNat ws) = manyN b := by unfold manyN; rw [hll]
  have hkind : ∀ e ∈ claimsC b, e.good = true → e.kind ≠ 1 → e.kind ≠ 8 → cl (setCl b d.target.toNat ws) e.target.toNat = cl b e.target.toNat := by
    intro e hE hg' h1 h8
    refine hoth _ (fun heq => ?_)
    have := there_lt (good_there hE hg' h1)
    have := (good_one hE hd hg' hdg (by omega)).1
    omega
  have SX : SoundP (setCl b d.target.toNat ws) := sound_frame S hx he hmx (by rw [hll]; exact S.eight) hkind
  obtain ⟨_, _, hsh⟩ := frame_raw S.tidy hx he (by omega) (fun e hE hg' hk => hkind e (by rw [S.tidy.claims]; exact hE) hg' (by omega) (by omega))
  refine ⟨SX, hsh, fun which hw k hk => ?_⟩
  have hfn : (headOf b).first.toNat ≠ d.target.toNat := fun heq => by
    have := (good_one hf hd rfl hdg (by simp only; omega)).1
    simp only at this
    omega
  have hcn : c.target.toNat ≠ d.target.toNat := fun heq => by
    have := (good_one hcc hd hcg hdg (by omega)).1
    omega
  refine wrote_content S (t := c.target.toNat) (i := g % 8) (tt := c.target.toNat) (n := d.target.toNat) ⟨hx, he, hsh, by omega, ?_, ?_, setCl_there hu hw8, ?_, ?_, ?_, ?_, ?_, ?_, ?_⟩ rfl (by rw [← hct]; omega) hg hw8 hw hk
  · rw [there_many hmx, Int.toNat_of_nonneg (by omega)]; exact htd
  · rw [there_many hmx, Int.toNat_of_nonneg (by omega)]; exact htc
  · intro e hE hg' hk' j _ _
    rw [hkind e hE hg' (by omega) (by omega)]
  · rw [hoth _ hfn, ← hct]; omega
  · rw [hoth _ hcn, ← hdt]; omega
  · intro j _ _
    rw [hoth _ hcn, if_pos (by omega)]
  · intro e hE hg' hk' _ j _
    rw [hkind e hE hg' (by omega) (by omega)]
  · intro e hE hg' hk' hne heq
    have hec := count_one hcc hE hcg hg' (by omega) (by omega) cnt7
    subst hec
    exact hne ⟨hcf, hcs⟩
  · intro e hE hg' hk' hne
    refine hoth _ (fun heq => hne ?_)
    have htE := there_lt (good_there hE hg' (by omega))
    have hec := count_one hd hE hdg hg' (by omega) (by omega) cnt8
    subst hec
    exact ⟨hdf, hds⟩
theorem ready_good {y : List Int} (h : readyB y = true) (hr : (headOf y).refs ≠ 0) : ∀ c ∈ claimsC y, c.good = true := by
  intro c hc
  have hh := ready_head h
  unfold readyB at h
  rw [Bool.and_eq_true, List.all_eq_true] at h
  cases hg : c.good
  · have := h.2 c (by unfold looseL claimsL; rw [if_pos hh, List.mem_filter]; exact ⟨hc, by simp [hg]⟩)
    rw [headIn_yes hh] at this
    simp at this
    exact absurd this.2 hr
  · rfl
theorem done_ne {y : List Int} (h : doneL y ≠ []) : countedL y ≠ [] ∧ doneL y = ownedC (countedL y) := by
  unfold doneL at h ⊢
  by_cases h0 : (countedL y).length = 0
  · rw [if_pos h0] at h; exact absurd rfl h
  · rw [if_neg h0]
    exact ⟨fun e => h0 (by rw [e]; rfl), rfl⟩
/-- What is done with an image of a sound one's head. -/
theorem done_reads {y : List Int} (hh : hasHead y = true) (h8 : y.length % 8 = 0) (hr : (headOf y).refs ≠ 0) (hs : (headOf y).many = 0 → (headOf y).shots = 0) (h : doneL y ≠ []) :
    soundB (doneL y) = true ∧ namesL (doneL y) = namesL y ∧ ∀ (which : Nat), which ≤ (namesL y).length → ∀ g : Nat, (g : Int) < (headOf y).size → contentL (doneL y) which g = contentL y which g := by
  obtain ⟨hc, e⟩ := done_ne h
  obtain ⟨hrd, _⟩ := counted_ok hc
  rw [e]
  obtain ⟨h1, h2⟩ := done_content hh h8 (ready_good hrd hr) hs hc
  exact ⟨done_sound hc hs, h1, h2⟩
theorem names_len (b : List Int) : (namesL b).length = (shotsL b).length := by unfold namesL; simp
/-- Written into a new cluster: the table is one's own. -/
theorem write_own {b ws : List Int} {g : Nat} (S : SoundP b) (hg : (g : Int) < (headOf b).size) (hws : eightB ws = true) (hm : manyN b < 64) {t : Nat} (ht : targetOf ((cl b (headOf b).first.toNat).getD (g / 8) 0) = t) (ht0 : t ≠ 0) (ho : ownIn ((cl b (headOf b).first.toNat).getD (g / 8) 0) = true)
    {y : List Int} (hy : y = (moreL b ws).set (t * 8 + g % 8) (manyN b)) : hasHead y = true ∧ headOf y = headOf b ∧ y.length % 8 = 0 ∧ shotsL y = shotsL b ∧ ∀ which : Nat, which ≤ (shotsL b).length → ∀ k : Nat, (k : Int) < (headOf b).size → contentL y which k = if which = 0 ∧ k = g then ws else contentL b which k := by
  have hsz := headB_all (hasHead_ok S.head)
  have hw8 := eightB_len hws
  have hp := whole_pos S.head
  obtain ⟨hf, hf4, hft⟩ := S.firstT
  have hfl := there_lt hft
  have hff : (headOf b).first ∈ firstsC (c4C b (headOf b)) := (sound_first S.sound).2
  obtain ⟨c, hc, hk7, hcf, hcs, _, hct⟩ := second_claim hff (g / 8) (by omega) (by rw [ht]; omega)
  rw [ht] at hct
  have hcc := c5_sub b c hc
  have hcg := S.good c hcc
  have htc := good_there hcc hcg (by omega)
  have htl := there_lt htc
  have cnt7 : (countsC (claimsC b)).getD c.target.toNat 0 = 1 := own_count S hcc (.inl hk7) (by rw [hcf, hcs, Int.toNat_natCast, Int.toNat_natCast]; exact ho)
  obtain ⟨m1, m2⟩ := more_head S.head hws hm
  obtain ⟨h1, h2⟩ := set_head (j := t * 8 + g % 8) (x := (manyN b : Int)) m1 (by omega) (inB_true.2 (by omega))
  rw [← hy] at h1 h2
  have hlm := more_length b ws hw8
  have hly : y.length = manyN b * 8 + 8 := by rw [hy, List.length_set, hlm]
  have hmy : manyN y = manyN b + 1 := by unfold manyN at *; omega
  have hwd : ∀ v j, j < 8 → (cl y v).getD j 0 = if v = t ∧ j = g % 8 then (manyN b : Int) else (if manyN b ≤ v then (if v = manyN b then ws.getD j 0 else 0) else (cl b v).getD j 0) := by
    intro v j hj
    rw [cl_word_get _ _ _ hj, hy, getD_set, hlm, more_get _ _ hw8]
    by_cases h : v = t ∧ j = g % 8
    · rw [if_pos ⟨by rw [h.1, h.2], by omega⟩, if_pos h]
    · rw [if_neg (fun h3 => h (by omega)), if_neg h]
      by_cases h4 : manyN b ≤ v
      · rw [if_pos (by omega), if_pos h4]
        by_cases h5 : v = manyN b
        · rw [if_pos h5]; congr 1; omega
        · rw [if_neg h5, getD_past _ _ (by omega)]
      · rw [if_neg (by omega), if_neg h4, cl_word_get _ _ _ hj]
  have hoth : ∀ v : Nat, v ≠ t → v < manyN b → cl y v = cl b v := fun v hv hl => cl_ext (fun j hj => by rw [hwd v j hj, if_neg (fun h => hv h.1), if_neg (by omega)])
  have hkind : ∀ e ∈ claimsC b, e.good = true → e.kind ≠ 1 → e.kind ≠ 7 → cl y e.target.toNat = cl b e.target.toNat := by
    intro e hE hg' h1' h7
    have htE := there_lt (good_there hE hg' h1')
    refine hoth _ (fun heq => ?_) (by omega)
    have := (good_one hE hcc hg' hcg (by omega)).1
    omega
  have hsh : shotsL y = shotsL b := by
    by_cases h0 : (headOf b).many = 0
    · rw [shots_none S.head h0, shots_none h1 (by rw [h2, m2]; exact h0)]
    · have hm5 : (⟨5, 0, 0, 0, (headOf b).shots, true⟩ : Cm) ∈ claimsC b := by rw [S.tidy.claims]; exact raw_sh (by unfold rSh; rw [if_neg h0]; simp)
      have ht5 := good_there hm5 rfl (by simp)
      have hce := hkind ⟨5, 0, 0, 0, (headOf b).shots, true⟩ hm5 rfl (by simp) (by simp)
      simp only at hce
      simp only at ht5
      rw [shotsL_some (headIn_yes S.head) ht5, shotsL_some (headIn_yes h1) (by rw [h2, m2]; exact there_more (by omega) ht5), h2, m2, hce]
  refine ⟨h1, h2.trans m2, by rw [hly]; omega, hsh, fun which hw k hk => ?_⟩
  have hfn : (headOf b).first.toNat ≠ t := fun heq => by
    have := (good_one hf hcc rfl hcg (by simp only; omega)).1
    simp only at this
    omega
  refine wrote_content S (t := t) (i := g % 8) (tt := t) (n := manyN b) ⟨h1, h2.trans m2, hsh, by omega, inB_true.2 (by omega), inB_true.2 (by omega), ?_, ?_, ?_, ?_, ?_, ?_, ?_, ?_⟩ rfl ht hg hw8 hw hk
  · exact cl_words hw8 (fun j hj => by rw [hwd _ j hj, if_neg (by omega), if_pos (Nat.le_refl _), if_pos rfl])
  · intro e hE hg' hk' j _ _
    rw [hkind e hE hg' (by omega) (by omega)]
  · rw [hoth _ hfn (by omega), ht]
  · rw [hwd _ _ (by omega), if_pos ⟨rfl, rfl⟩, target_small (by omega)]
  · intro j hj hne
    rw [hwd _ _ hj, if_neg (fun h => hne h.2), if_neg (by omega), if_pos ht0]
  · intro e hE hg' hk' hne j _
    have htE := there_lt (good_there hE hg' (by omega))
    rw [hoth _ (fun heq => ?_) (by omega)]
    have hec := count_one hcc hE hcg hg' (by omega) (by omega) cnt7
    subst hec
    exact hne ⟨hcf, hcs⟩
  · intro e hE hg' hk' hne heq
    have hec := count_one hcc hE hcg hg' (by omega) (by omega) cnt7
    subst hec
    exact hne ⟨hcf, hcs⟩
  · intro e hE hg' hk' _
    exact hkind e hE hg' (by omega) (by omega)
/-- Written into a new cluster, by a new table. -/
theorem write_new {b ws : List Int} {g : Nat} (S : SoundP b) (hg : (g : Int) < (headOf b).size) (hws : eightB ws = true) (hm : manyN b < 63) {t : Nat} (ht : targetOf ((cl b (headOf b).first.toNat).getD (g / 8) 0) = t)
    {cp ys y : List Int} (hcp : cp = if t ≠ 0 then cl b t else z8) (hys : ys = (moreL b cp).set ((headOf b).first.toNat * 8 + g / 8) (manyN b)) (hy : y = (moreL ys ws).set (manyN b * 8 + g % 8) (manyN ys)) :
    hasHead y = true ∧ headOf y = headOf b ∧ y.length % 8 = 0 ∧ shotsL y = shotsL b ∧ ∀ which : Nat, which ≤ (shotsL b).length → ∀ k : Nat, (k : Int) < (headOf b).size → contentL y which k = if which = 0 ∧ k = g then ws else contentL b which k := by
  have hsz := headB_all (hasHead_ok S.head)
  have hw8 := eightB_len hws
  have hp := whole_pos S.head
  obtain ⟨hf, hf4, hft⟩ := S.firstT
  have hfl := there_lt hft
  have hcp8 : eightB cp = true := by
    rw [hcp]
    split
    · exact eight_cl (hasHead_img S.head) _
    · exact zeros8
  have hcl8 := eightB_len hcp8
  obtain ⟨m1, m2⟩ := more_head S.head hcp8 (by omega)
  obtain ⟨n1, n2⟩ := set_head (j := (headOf b).first.toNat * 8 + g / 8) (x := (manyN b : Int)) m1 (by omega) (inB_true.2 (by omega))
  rw [← hys] at n1 n2
  have hlm := more_length b cp hcl8
  have hlys : ys.length = manyN b * 8 + 8 := by rw [hys, List.length_set, hlm]
  have hmys : manyN ys = manyN b + 1 := by unfold manyN at *; omega
  obtain ⟨p1, p2⟩ := more_head n1 hws (by omega)
  obtain ⟨h1, h2⟩ := set_head (j := manyN b * 8 + g % 8) (x := (manyN ys : Int)) p1 (by omega) (inB_true.2 (by omega))
  rw [← hy] at h1 h2
  have hlm2 := more_length ys ws hw8
  have hly : y.length = manyN b * 8 + 16 := by rw [hy, List.length_set, hlm2, hmys]; omega
  have hmy : manyN y = manyN b + 2 := by unfold manyN at *; omega
  have he : headOf y = headOf b := h2.trans (p2.trans (n2.trans m2))
  have hwd : ∀ v j, j < 8 → v ≤ manyN b + 1 → (cl y v).getD j 0 = if v = manyN b ∧ j = g % 8 then ((manyN b + 1 : Nat) : Int) else (if v = manyN b + 1 then ws.getD j 0 else (if v = manyN b then cp.getD j 0 else (if v = (headOf b).first.toNat ∧ j = g / 8 then (manyN b : Int) else (cl b v).getD j 0))) := by
    intro v j hj hv
    rw [cl_word_get _ _ _ hj, hy, getD_set, hlm2, more_get _ _ hw8, hmys]
    by_cases h : v = manyN b ∧ j = g % 8
    · rw [if_pos ⟨by rw [h.1, h.2], by omega⟩, if_pos h]
    · rw [if_neg (fun h3 => h (by omega)), if_neg h]
      by_cases h4 : v = manyN b + 1
      · rw [if_pos (by omega), if_pos h4]; congr 1; omega
      · rw [if_neg (by omega), if_neg h4, hys, getD_set, hlm, more_get _ _ hcl8]
        by_cases h5 : v = manyN b
        · rw [if_pos h5, if_neg (by omega), if_pos (by omega)]; congr 1; omega
        · rw [if_neg h5]
          by_cases h6 : v = (headOf b).first.toNat ∧ j = g / 8
          · rw [if_pos ⟨by rw [h6.1, h6.2], by omega⟩, if_pos h6]
          · rw [if_neg (fun h3 => h6 (by omega)), if_neg h6, if_neg (by omega), cl_word_get _ _ _ hj]
  have hoth : ∀ v : Nat, v ≠ (headOf b).first.toNat → v < manyN b → cl y v = cl b v := fun v hv hl => cl_ext (fun j hj => by rw [hwd v j hj (by omega), if_neg (by omega), if_neg (by omega), if_neg (by omega), if_neg (fun h => hv h.1)])
  have hkind : ∀ e ∈ claimsC b, e.good = true → e.kind ≠ 1 → e.kind ≠ 2 → cl y e.target.toNat = cl b e.target.toNat := by
    intro e hE hg' h1' h7
    have htE := there_lt (good_there hE hg' h1')
    refine hoth _ (fun heq => ?_) (by omega)
    have := (good_one hE hf hg' rfl (by simp only; omega)).1
    simp only at this
    omega
  have hsh : shotsL y = shotsL b := by
    by_cases h0 : (headOf b).many = 0
    · rw [shots_none S.head h0, shots_none h1 (by rw [he]; exact h0)]
    · have hm5 : (⟨5, 0, 0, 0, (headOf b).shots, true⟩ : Cm) ∈ claimsC b := by rw [S.tidy.claims]; exact raw_sh (by unfold rSh; rw [if_neg h0]; simp)
      have ht5 := good_there hm5 rfl (by simp)
      have hce := hkind ⟨5, 0, 0, 0, (headOf b).shots, true⟩ hm5 rfl (by simp) (by simp)
      simp only at hce
      simp only at ht5
      rw [shotsL_some (headIn_yes S.head) ht5, shotsL_some (headIn_yes h1) (by rw [he]; exact there_more (by omega) ht5), he, hce]
  refine ⟨h1, he, by rw [hly]; omega, hsh, fun which hw k hk => ?_⟩
  have hfar : ∀ e ∈ claimsC b, e.good = true → e.kind ≠ 1 → e.target < manyN b := fun e hE hg' hk' => (there_lt (good_there hE hg' hk')).2
  refine wrote_content S (t := t) (i := g % 8) (tt := manyN b) (n := manyN b + 1) ⟨h1, he, hsh, by omega, inB_true.2 (by omega), inB_true.2 (by omega), ?_, ?_, ?_, ?_, ?_, ?_, ?_, ?_⟩ rfl ht hg hw8 hw hk
  · exact cl_words hw8 (fun j hj => by rw [hwd _ j hj (by omega), if_neg (by omega), if_pos rfl])
  · intro e hE hg' hk' j hj hne
    have htE := there_lt (good_there hE hg' (by omega))
    rw [hwd _ _ hj (by omega), if_neg (by omega), if_neg (by omega), if_neg (by omega), if_neg (fun h => hne ⟨by omega, h.2⟩)]
  · rw [hwd _ _ (by omega) (by omega), if_neg (by omega), if_neg (by omega), if_neg (by omega), if_pos ⟨rfl, rfl⟩, target_small (by omega)]
  · rw [hwd _ _ (by omega) (by omega), if_pos ⟨rfl, rfl⟩, target_small (by omega)]
  · intro j hj hne
    rw [hwd _ _ hj (by omega), if_neg (fun h => hne h.2), if_neg (by omega), if_pos rfl, hcp]
    by_cases h0 : t = 0
    · rw [if_neg (by simp [h0]), if_neg (by simp [h0])]
      unfold z8
      rw [zeros_get]
      rfl
    · rw [if_pos h0, if_pos h0]
  · intro e hE hg' hk' _ j _
    rw [hkind e hE hg' (by omega) (by omega)]
  · intro e hE hg' hk' _ heq
    have := hfar e hE hg' (by omega)
    omega
  · intro e hE hg' hk' _
    exact hkind e hE hg' (by omega) (by omega)
/-- What is written is read, and all else as it was. -/
theorem written_law {b ws : List Int} {g : Int} (h : writtenL b g ws ≠ []) : soundB b = true ∧ 0 ≤ g ∧ g < (headOf b).size ∧ ws.length = 8 ∧ soundB (writtenL b g ws) = true ∧ namesL (writtenL b g ws) = namesL b ∧
    ∀ which : Nat, which ≤ (namesL b).length → ∀ k : Nat, (k : Int) < (headOf b).size → contentL (writtenL b g ws) which k = if which = 0 ∧ (k : Int) = g then ws else contentL b which k := by
  unfold writtenL at h ⊢
  by_cases hc : soundB b = true ∧ inB g 0 ((headOf b).size - 1) = true ∧ eightB ws = true
  · rw [if_pos hc] at h ⊢
    obtain ⟨hs, hgi, hws⟩ := hc
    have S := sound_is hs
    have hg := inB_true.1 hgi
    obtain ⟨gn, rfl⟩ := Int.eq_ofNat_of_zero_le hg.1
    rw [Int.toNat_natCast] at h ⊢
    have hgs : (gn : Int) < (headOf b).size := by omega
    have hsz := headB_all (hasHead_ok S.head)
    have h64 := manyN_le (hasHead_img S.head)
    refine ⟨hs, hg.1, by omega, eightB_len hws, ?_⟩
    rw [names_len]
    unfold writeMid at h ⊢
    by_cases ho : (ownIn (firstEntry b 0 ((gn / 8 : Nat) : Int)) && ownIn (entryAt b 0 gn)) = true
    · rw [if_pos ho]
      rw [Bool.and_eq_true] at ho
      obtain ⟨h1, h2, h3⟩ := write_in S hgs hws ho.1 ho.2
      refine ⟨h1.sound, by unfold namesL; rw [h2], fun which hw k hk => ?_⟩
      rw [h3 which hw k hk]
      simp only [Int.natCast_inj]
    · rw [if_neg ho] at h ⊢
      have e1 := firstEntry_sound hs (gn / 8) (by omega)
      have fin : ∀ y : List Int, (hasHead y = true ∧ headOf y = headOf b ∧ y.length % 8 = 0 ∧ shotsL y = shotsL b ∧ ∀ which : Nat, which ≤ (shotsL b).length → ∀ k : Nat, (k : Int) < (headOf b).size → contentL y which k = if which = 0 ∧ k = gn then ws else contentL b which k) → doneL y ≠ [] →
          soundB (doneL y) = true ∧ namesL (doneL y) = namesL b ∧ ∀ which : Nat, which ≤ (shotsL b).length → ∀ k : Nat, (k : Int) < (headOf b).size → contentL (doneL y) which k = if which = 0 ∧ (k : Int) = gn then ws else contentL b which k := by
        rintro y ⟨y1, y2, y3, y4, y5⟩ hd
        obtain ⟨d1, d2, d3⟩ := done_reads y1 y3 (by rw [y2]; exact S.refs) (by rw [y2]; exact S.shots) hd
        have en : namesL y = namesL b := by unfold namesL; rw [y4]
        refine ⟨d1, by rw [d2, en], fun which hw k hk => ?_⟩
        rw [d3 which (by rw [en, names_len]; exact hw) k (by rw [y2]; exact hk), y5 which hw k hk]
        simp only [Int.natCast_inj]
      have hw0 : 0 ≤ targetOf ((cl b (headOf b).first.toNat).getD (gn / 8) 0) := by
        have hww : wordB ((cl b (headOf b).first.toNat).getD (gn / 8) 0) = true := by
          rw [cl_word_get _ _ _ (by omega)]
          exact inB_true.2 (word_get (hasHead_img S.head) _)
        exact (target_nonneg hww).1
      obtain ⟨t, ht⟩ := Int.eq_ofNat_of_zero_le hw0
      unfold secondL at h ⊢
      rw [e1, ht] at h ⊢
      by_cases ho2 : (t : Int) ≠ 0 ∧ ownIn ((cl b (headOf b).first.toNat).getD (gn / 8) 0) = true
      · rw [if_pos ho2, Int.toNat_natCast] at h ⊢
        unfold writeNew at h ⊢
        by_cases hm : manyN b < 64
        · simp only [if_pos hm] at h ⊢
          exact fin _ (write_own S hgs hws hm ht (by omega) ho2.2 rfl) h
        · simp only [if_neg hm] at h
          exact absurd rfl h
      · rw [if_neg ho2] at h ⊢
        by_cases hm : manyN b < 64
        · rw [if_pos hm, Int.toNat_natCast] at h ⊢
          unfold writeNew at h ⊢
          have ecp : (if (t : Int) ≠ 0 then cl b t else z8) = (if t ≠ 0 then cl b t else z8) := by
            by_cases h0 : t = 0
            · rw [if_neg (by simp [h0]), if_neg (by simp [h0])]
            · rw [if_pos (by omega), if_pos h0]
          rw [ecp] at h ⊢
          have hcl8 : (if t ≠ 0 then cl b t else z8).length = 8 := by
            split
            · exact cl_length _ _
            · rfl
          have hmys : manyN ((moreL b (if t ≠ 0 then cl b t else z8)).set ((headOf b).first.toNat * 8 + gn / 8) (manyN b)) = manyN b + 1 := by rw [set_many, more_many _ _ hcl8]
          by_cases hm2 : manyN ((moreL b (if t ≠ 0 then cl b t else z8)).set ((headOf b).first.toNat * 8 + gn / 8) (manyN b)) < 64
          · simp only [if_pos hm2] at h ⊢
            exact fin _ (write_new S hgs hws (by omega) ht rfl rfl rfl) h
          · simp only [if_neg hm2] at h
            exact absurd rfl h
        · rw [if_neg hm] at h
          exact absurd rfl h
  · rw [if_neg hc] at h
    exact absurd rfl h

/-- The content that a copy of the first table leads to. -/
theorem copy_content {b y : List Int} (S : SoundP b) (hy : hasHead y = true) (hsz : (headOf y).size = (headOf b).size) (hm : manyN b ≤ manyN y) (hS : ∀ c ∈ claimsC b, c.good = true → c.kind = 7 ∨ c.kind = 8 → cl y c.target.toNat = cl b c.target.toNat)
    {a : Nat} (ha : thereB y a = true) (hcp : cl y a = cl b (headOf b).first.toNat) {which : Nat} (hw : inB (which : Int) 0 ((shotsL y).length : Int) = true) (hf : firstOf y which = a) {k : Nat} (hk : (k : Int) < (headOf b).size) : contentL y which k = contentL b 0 k := by
  have h0 := headB_all (hasHead_ok S.head)
  obtain ⟨hf1, hf4, hft⟩ := S.firstT
  rw [content_at S.head (f := (headOf b).first) (inB_true.2 (by omega)) (firstOf_zero S.head) hft hk, content_at hy hw hf ha (by rw [hsz]; exact hk), Int.toNat_natCast, hcp]
  have hff : (headOf b).first ∈ firstsC (c4C b (headOf b)) := (sound_first S.sound).2
  by_cases h1 : targetOf ((cl b (headOf b).first.toNat).getD (k / 8) 0) = 0
  · rw [zero_second h1, zero_second h1]
  · obtain ⟨c, hc, hk7, hcf, hcs, _, hct⟩ := second_claim hff (k / 8) (by omega) h1
    have hcc := c5_sub b c hc
    have hcg := S.good c hcc
    have htc := good_there hcc hcg (by omega)
    rw [← hct, tableL_in S.head htc, tableL_in hy (there_more hm htc), hS c hcc hcg (.inl hk7)]
    by_cases h3 : targetOf ((cl b c.target.toNat).getD (k % 8) 0) = 0
    · rw [zero_data h3, zero_data h3]
    · obtain ⟨e, he, hk8, hef, hes, het⟩ := data_claim hc hk7 hcg (k % 8) (by omega) h3
      have heg := S.good e he
      have hte := good_there he heg (by omega)
      rw [← het, tableL_in S.head hte, tableL_in hy (there_more hm hte), hS e he heg (.inr hk8)]
/-- The table of shots is there. -/
structure ShotsAt (b ys : List Int) : Prop where
  head : hasHead ys = true
  size : (headOf ys).size = (headOf b).size
  first : (headOf ys).first = (headOf b).first
  refs : (headOf ys).refs = (headOf b).refs
  many : (headOf ys).many = (headOf b).many
  more : manyN b ≤ manyN ys
  there : thereB ys (headOf ys).shots = true
  shots : (headOf b).many ≠ 0 → (headOf ys).shots = (headOf b).shots
  same : ∀ v : Nat, 1 ≤ v → v < manyN b → cl ys v = cl b v
  far : ∀ c ∈ claimsC b, c.good = true → c.kind ≠ 1 → c.kind ≠ 5 → c.target ≠ (headOf ys).shots
  eight : ys.length % 8 = 0
theorem shotsAt_is {b ys : List Int} (S : SoundP b) (h : shotsAtL b = some ys) : ShotsAt b ys := by
  have hall := headB_all (hasHead_ok S.head)
  unfold shotsAtL at h
  by_cases hm : 0 < (headOf b).many
  · rw [if_pos hm] at h
    injection h with h
    subst h
    have hm5 : (⟨5, 0, 0, 0, (headOf b).shots, true⟩ : Cm) ∈ claimsC b := by rw [S.tidy.claims]; exact raw_sh (by unfold rSh; rw [if_neg (by omega)]; simp)
    refine ⟨S.head, rfl, rfl, rfl, rfl, Nat.le_refl _, good_there hm5 rfl (by simp), fun _ => rfl, fun _ _ _ => rfl, fun c hc hg _ h5 e => ?_, S.eight⟩
    have := (good_one hc hm5 hg rfl e).1
    simp only at this
    exact h5 this
  · rw [if_neg hm] at h
    by_cases h64 : manyN b < 64
    · rw [if_pos h64] at h
      injection h with h
      subst h
      obtain ⟨h1, h2, h3⟩ := newShots_head S.head h64
      have hp := whole_pos S.head
      have hmx : manyN (newShots b) = manyN b + 1 := by unfold manyN at *; omega
      refine ⟨h1, by rw [h2], by rw [h2], by rw [h2], by rw [h2], by omega, ?_, fun h0 => by omega, fun v hv hv2 => ?_, fun c hc hg hk _ e => ?_, by rw [h3]; omega⟩
      · rw [h2]; exact inB_true.2 (by simp only; omega)
      · refine cl_ext (fun j hj => ?_)
        rw [cl_word_get _ _ _ hj, cl_word_get _ _ _ hj]
        unfold newShots
        rw [setCl_get (by omega) (hdW_length _), if_neg (by omega), more_get _ _ (by simp), if_neg (by omega)]
      · rw [h2] at e
        have := there_lt (good_there hc hg hk)
        simp only at e
        omega
    · rw [if_neg h64] at h; cases h
def picIm (name : Int) (zs : List Int) (a : Nat) : List Int := setCl ((zs.set ((headOf zs).shots.toNat * 8 + 2 * (headOf zs).many.toNat) name).set ((headOf zs).shots.toNat * 8 + 2 * (headOf zs).many.toNat + 1) a) 0 (hdW { headOf zs with many := (headOf zs).many + 1 })
theorem pic_is {b ys : List Int} {name : Int} (S : SoundP b) (Q : ShotsAt b ys) (hm4 : (headOf b).many < 4) (hn : wordB name = true) (hm : manyN ys < 64) {y : List Int} (hy : y = picIm name (moreL ys (cl b (headOf b).first.toNat)) (manyN ys)) :
    hasHead y = true ∧ (headOf y).size = (headOf b).size ∧ (headOf y).refs = (headOf b).refs ∧ (headOf y).many = (headOf b).many + 1 ∧ y.length % 8 = 0 ∧ shotsL y = shotsL b ++ [(name, (manyN ys : Int))] ∧
    (∀ k : Nat, (k : Int) < (headOf b).size → contentL y 0 k = contentL b 0 k ∧ contentL y (((shotsL b).length + 1 : Nat) : Int) k = contentL b 0 k) := by
  have hall := headB_all (hasHead_ok S.head)
  obtain ⟨hf1, hf4, hft⟩ := S.firstT
  have hfl := there_lt hft
  have hp := whole_pos S.head
  have hpy := Q.more
  have hstl := there_lt Q.there
  have hcp8 : eightB (cl b (headOf b).first.toNat) = true := eight_cl (hasHead_img S.head) _
  have hc8 := eightB_len hcp8
  obtain ⟨m1, m2⟩ := more_head Q.head hcp8 hm
  have hlz := more_length ys _ hc8
  have hmz := more_many ys _ hc8
  have hzw : ∀ j, (moreL ys (cl b (headOf b).first.toNat)).getD j 0 = if manyN ys * 8 ≤ j then (cl b (headOf b).first.toNat).getD (j - manyN ys * 8) 0 else ys.getD j 0 := fun j => more_get ys _ hc8 j
  generalize hz : moreL ys (cl b (headOf b).first.toNat) = zs at *
  have hM : (headOf zs).many = (headOf b).many := by rw [m2]; exact Q.many
  have hSh : (headOf zs).shots = (headOf ys).shots := by rw [m2]
  obtain ⟨M, hMn⟩ := Int.eq_ofNat_of_zero_le hall.2.2.2.2.1
  obtain ⟨s, hsn⟩ := Int.eq_ofNat_of_zero_le (show 0 ≤ (headOf ys).shots by omega)
  have hsb : 1 ≤ s ∧ s < manyN ys := by omega
  have hhb : headB { headOf zs with many := (headOf zs).many + 1 } = true := by
    have := headB_all (hasHead_ok m1)
    simp only [headB, wordB, Bool.and_eq_true, inB_true]
    omega
  unfold picIm at hy
  rw [hSh, hM, hMn, hsn, Int.toNat_natCast, Int.toNat_natCast] at hy
  rw [hM, hMn] at hhb
  obtain ⟨h1, h2, h3⟩ := hd_set (zs := (zs.set (s * 8 + 2 * M) name).set (s * 8 + 2 * M + 1) (manyN ys)) (h := { headOf zs with many := (M : Int) + 1 }) (set_img (set_img (hasHead_img m1) hn) (inB_true.2 (by omega))) (by rw [List.length_set, List.length_set, hlz]; omega) (by rw [List.length_set, List.length_set, hlz]; omega) hhb
  rw [← hy] at h1 h2 h3
  rw [List.length_set, List.length_set, hlz] at h3
  have hmy : manyN y = manyN ys + 1 := by unfold manyN at *; omega
  have hwd : ∀ v j, 1 ≤ v → j < 8 → (cl y v).getD j 0 = if v = s ∧ j = 2 * M + 1 then (manyN ys : Int) else (if v = s ∧ j = 2 * M then name else (if manyN ys ≤ v then (cl b (headOf b).first.toNat).getD (v * 8 + j - manyN ys * 8) 0 else (cl ys v).getD j 0)) := by
    intro v j hv hj
    rw [cl_word_get _ _ _ hj, hy, setCl_get (by omega) (hdW_length _), if_neg (by omega), getD_set, List.length_set, hlz, getD_set, hlz, hzw]
    by_cases g1 : v = s ∧ j = 2 * M + 1
    · rw [if_pos ⟨by omega, by omega⟩, if_pos g1]
    · rw [if_neg (fun h => g1 (by omega)), if_neg g1]
      by_cases g2 : v = s ∧ j = 2 * M
      · rw [if_pos ⟨by omega, by omega⟩, if_pos g2]
      · rw [if_neg (fun h => g2 (by omega)), if_neg g2]
        by_cases g3 : manyN ys ≤ v
        · rw [if_pos (by omega), if_pos g3]
        · rw [if_neg (by omega), if_neg g3, cl_word_get _ _ _ hj]
  have hoth : ∀ v : Nat, 1 ≤ v → v < manyN b → v ≠ s → cl y v = cl b v := fun v hv hv2 hne => by
    rw [← Q.same v hv hv2]
    exact cl_ext (fun j hj => by rw [hwd v j hv hj, if_neg (fun h => hne h.1), if_neg (fun h => hne h.1), if_neg (by omega)])
  have hkind : ∀ e ∈ claimsC b, e.good = true → e.kind ≠ 1 → e.kind ≠ 5 → cl y e.target.toNat = cl b e.target.toNat := by
    intro e hE hg' h1' h5
    have htE := there_lt (good_there hE hg' h1')
    refine hoth _ (by omega) (by omega) (fun heq => Q.far e hE hg' h1' h5 (by omega))
  have hsl : (shotsL b).length = M := by
    by_cases h0 : (headOf b).many = 0
    · rw [shots_none S.head h0]; simp; omega
    · have hm5 : (⟨5, 0, 0, 0, (headOf b).shots, true⟩ : Cm) ∈ claimsC b := by rw [S.tidy.claims]; exact raw_sh (by unfold rSh; rw [if_neg h0]; simp)
      rw [shots_len S.head hm5, hMn]
      simp
  have hsy : thereB y (headOf y).shots = true := by
    rw [h2]
    show thereB y (headOf zs).shots = true
    rw [hSh]
    exact there_more (by omega) Q.there
  have hsh : shotsL y = shotsL b ++ [(name, (manyN ys : Int))] := by
    rw [shotsL_some (headIn_yes h1) hsy, h2]
    show (List.range ((M : Int) + 1).toNat).map (fun i => ((cl y (headOf zs).shots.toNat).getD (2 * i) 0, (cl y (headOf zs).shots.toNat).getD (2 * i + 1) 0)) = _
    rw [hSh, hsn, Int.toNat_natCast, show ((M : Int) + 1).toNat = M + 1 by omega, List.range_succ, List.map_append]
    congr 1
    · by_cases h0 : (headOf b).many = 0
      · rw [shots_none S.head h0, show M = 0 by omega]
        rfl
      · have hm5 : (⟨5, 0, 0, 0, (headOf b).shots, true⟩ : Cm) ∈ claimsC b := by rw [S.tidy.claims]; exact raw_sh (by unfold rSh; rw [if_neg h0]; simp)
        have ht5 := there_lt (good_there hm5 rfl (by simp))
        simp only at ht5
        have hss : (headOf b).shots.toNat = s := by have := Q.shots h0; omega
        rw [shots_len S.head hm5, hMn, Int.toNat_natCast, hss]
        refine List.map_congr_left (fun i hi => ?_)
        rw [List.mem_range] at hi
        rw [hwd s _ (by omega) (by omega), hwd s _ (by omega) (by omega), if_neg (by omega), if_neg (by omega), if_neg (by omega), if_neg (by omega), if_neg (by omega), if_neg (by omega), Q.same s (by omega) (by omega)]
    · rw [List.map_cons, List.map_nil, hwd s _ (by omega) (by omega), hwd s _ (by omega) (by omega), if_neg (by omega), if_pos ⟨rfl, rfl⟩, if_pos ⟨rfl, rfl⟩]
  have hlsy : (shotsL y).length = M + 1 := by rw [hsh, List.length_append, hsl]; rfl
  have hsize : (headOf y).size = (headOf b).size := by rw [h2]; show (headOf zs).size = _; rw [m2]; exact Q.size
  have hfst : (headOf y).first = (headOf b).first := by rw [h2]; show (headOf zs).first = _; rw [m2]; exact Q.first
  have hmb : manyN b ≤ manyN y := by omega
  refine ⟨h1, hsize, ?_, ?_, by rw [h3]; omega, hsh, fun k hk => ⟨?_, ?_⟩⟩
  · rw [h2]; show (headOf zs).refs = _; rw [m2]; exact Q.refs
  · rw [h2, hMn]
  · refine copy_content S h1 hsize hmb (fun c hc hg hk => hkind c hc hg (by omega) (by omega)) (a := (headOf b).first.toNat) (there_more hmb (by rw [Int.toNat_of_nonneg (by omega)]; exact hft)) ?_ (which := 0) (inB_true.2 (by omega)) ?_ hk
    · have := hkind ⟨2, 0, 0, 0, (headOf b).first, true⟩ hf1 rfl (by simp) (by simp)
      simp only at this
      exact this
    · rw [show ((0 : Nat) : Int) = 0 from rfl, firstOf_zero h1, hfst]
      omega
  · rw [hsl]
    refine copy_content S h1 hsize hmb (fun c hc hg hk => hkind c hc hg (by omega) (by omega)) (a := manyN ys) (inB_true.2 (by omega)) ?_ (which := M + 1) (inB_true.2 (by omega)) ?_ hk
    · exact cl_words (cl_length _ _) (fun j hj => by
        rw [hwd (manyN ys) j (by omega) hj, if_neg (by omega), if_neg (by omega), if_pos (Nat.le_refl _), show manyN ys * 8 + j - manyN ys * 8 = j by omega])
    · rw [firstOf_in h1 (by omega) (inB_true.2 (by omega)), hsh, show (((M + 1 : Nat) : Int) - 1).toNat = M by omega, List.getD_eq_getElem?_getD, List.getElem?_append_right (by omega), hsl, Nat.sub_self]
      rfl
/-- A picture keeps what was there when it was taken. -/
theorem pictured_law {b : List Int} {name : Int} (h : picturedL b name ≠ []) : soundB b = true ∧ soundB (picturedL b name) = true ∧ namesL (picturedL b name) = namesL b ++ [name] ∧ (headOf (picturedL b name)).size = (headOf b).size ∧
    ∀ k : Nat, (k : Int) < (headOf b).size → contentL (picturedL b name) 0 k = contentL b 0 k ∧ contentL (picturedL b name) (((namesL b).length + 1 : Nat) : Int) k = contentL b 0 k := by
  unfold picturedL at h ⊢
  by_cases hc : soundB b = true ∧ (headOf b).many < 4 ∧ wordB name = true
  · rw [if_pos hc] at h ⊢
    obtain ⟨hs, hm4, hn⟩ := hc
    have S := sound_is hs
    refine ⟨hs, ?_⟩
    cases hq : shotsAtL b with
    | none => rw [hq] at h; exact absurd rfl h
    | some ys =>
      rw [hq] at h
      have Q := shotsAt_is S hq
      unfold pictMid at h ⊢
      by_cases hm : manyN ys < 64
      · simp only [if_pos hm] at h ⊢
        obtain ⟨h1, h2, h3, h4, h5, h6, h7⟩ := pic_is S Q hm4 hn hm rfl
        have hall := headB_all (hasHead_ok S.head)
        have e : pictEnd name (moreL ys (cl b (headOf b).first.toNat)) (manyN ys) = doneL (picIm name (moreL ys (cl b (headOf b).first.toNat)) (manyN ys)) := rfl
        rw [e] at h ⊢
        obtain ⟨d1, d2, d3⟩ := done_reads h1 h5 (by rw [h3]; exact S.refs) (fun h0 => by omega) h
        have en : namesL (picIm name (moreL ys (cl b (headOf b).first.toNat)) (manyN ys)) = namesL b ++ [name] := by unfold namesL; rw [h6, List.map_append]; rfl
        have hnl := names_len b
        refine ⟨d1, by rw [d2, en], ?_, fun k hk => ?_⟩
        · obtain ⟨hcn, ed⟩ := done_ne h
          obtain ⟨_, K⟩ := counted_ok hcn
          rw [ed, (owned_head K.onto.beside.head).2, K.onto.beside.size, h2]
        · have l1 : (namesL (picIm name (moreL ys (cl b (headOf b).first.toNat)) (manyN ys))).length = (namesL b).length + 1 := by rw [en]; simp
          have c0 := d3 0 (by omega) k (by rw [h2]; exact hk)
          have c1 := d3 ((namesL b).length + 1) (by omega) k (by rw [h2]; exact hk)
          rw [show ((0 : Nat) : Int) = 0 from rfl] at c0
          refine ⟨c0.trans (h7 k hk).1, c1.trans ?_⟩
          rw [hnl]
          exact (h7 k hk).2
      · simp only [if_neg hm] at h
        exact absurd rfl h
  · rw [if_neg hc] at h
    exact absurd rfl h

end Go.Proofs.YtiokfhdkbpoadaaGreatDoor
