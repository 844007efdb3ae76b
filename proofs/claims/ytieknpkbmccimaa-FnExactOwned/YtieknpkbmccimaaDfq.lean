/- Words that are not as they must be, as the program tells them (pure). -/
import Derived.Test.YtieknpkbmccimaaH1
import Derived.Test.YtieknpkbmccimaaX1
import Derived.Test.YtieknpkbmccimaaDfw
namespace Go.Proofs.Ytieknpkbmccimaa

def tgStep (ins : Int) (o : List Cm) (c : Cm) : List Cm := if kindIn c.kind = ins ∧ (o.any fun t => t.target == c.target) = false then o ++ [c] else o
def tgRound (l : List Cm) (o : List Cm) (ins : Int) : List Cm := (l.filter fun c => c.good).foldl (tgStep ins) o
/-- The tables that are gone into, told by the claims that lead to them. -/
def tgL (l : List Cm) : List Cm := ([4, 7, 8] : List Int).foldl (tgRound l) []

theorem any_has (o : List Cm) (x : Int) : (o.any fun t => t.target == x) = hasB (o.map (·.target)) x := by
  unfold hasB
  induction o with
  | nil => rfl
  | cons c o ih => rw [List.any_cons, ih, List.map_cons, List.contains_cons, BEq.comm]
theorem ins_tab (k : Nat) (ins : Int) (h : (k = 0 ∧ ins = 4) ∨ (k = 1 ∧ ins = 7) ∨ (k = 2 ∧ ins = 8)) (c : Cm) : inTab k c = true ↔ kindIn c.kind = ins := by
  unfold inTab kindIn
  rcases h with ⟨rfl, rfl⟩ | ⟨rfl, rfl⟩ | ⟨rfl, rfl⟩ <;> simp <;> constructor <;> intro h
  all_goals first | omega | (split at h <;> try omega) | skip
  all_goals first | omega | (split at h <;> try omega) | skip
  all_goals first | omega | (split at h <;> omega) | skip
  all_goals (split <;> first | omega | (split <;> first | omega | (split <;> omega)))
theorem tg_step (k : Nat) (ins : Int) (h : (k = 0 ∧ ins = 4) ∨ (k = 1 ∧ ins = 7) ∨ (k = 2 ∧ ins = 8)) (o : List Cm) (c : Cm) (hg : c.good = true) : (tgStep ins o c).map (·.target) = tblStep k (o.map (·.target)) c := by
  unfold tgStep tblStep
  rw [any_has]
  have e := ins_tab k ins h c
  by_cases h1 : kindIn c.kind = ins ∧ hasB (o.map (·.target)) c.target = false
  · rw [if_pos h1, if_pos ⟨by rw [Bool.and_eq_true]; exact ⟨e.2 h1.1, hg⟩, h1.2⟩]; simp
  · rw [if_neg h1, if_neg (fun h2 => h1 ⟨e.1 (Bool.and_eq_true_iff.1 h2.1).1, h2.2⟩)]
theorem tg_fold (k : Nat) (ins : Int) (h : (k = 0 ∧ ins = 4) ∨ (k = 1 ∧ ins = 7) ∨ (k = 2 ∧ ins = 8)) (l : List Cm) : ∀ o : List Cm, (tgRound l o ins).map (·.target) = tblRound l (o.map (·.target)) k := by
  unfold tgRound tblRound
  induction l with
  | nil => intro o; rfl
  | cons c l ih =>
    intro o
    cases hg : c.good
    · rw [List.filter_cons_of_neg (by simp [hg]), List.foldl_cons, ih]
      congr 1
      unfold tblStep
      rw [if_neg (by simp [hg])]
    · rw [List.filter_cons_of_pos (by simp [hg]), List.foldl_cons, List.foldl_cons, ih, tg_step k ins h o c hg]
theorem tg_tables (l : List Cm) : (tgL l).map (·.target) = tablesC l := by
  have e : tgL l = tgRound l (tgRound l (tgRound l [] 4) 7) 8 := rfl
  have e2 : tablesC l = tblRound l (tblRound l (tblRound l [] 0) 1) 2 := rfl
  rw [e, e2, tg_fold 2 8 (by simp), tg_fold 1 7 (by simp), tg_fold 0 4 (by simp)]
  rfl
theorem tgStep_mem {ins : Int} {o : List Cm} {c x : Cm} (h : x ∈ tgStep ins o c) : x ∈ o ∨ (x = c ∧ kindIn c.kind = ins) := by
  unfold tgStep at h
  split at h
  · rename_i h1
    rw [List.mem_append, List.mem_singleton] at h
    rcases h with h | h
    · exact .inl h
    · exact .inr ⟨h, h1.1⟩
  · exact .inl h
theorem tgFold_mem (ins : Int) {x : Cm} : ∀ (l o : List Cm), x ∈ l.foldl (tgStep ins) o → x ∈ o ∨ (x ∈ l ∧ kindIn x.kind = ins)
  | [], _, h => .inl h
  | c :: l, o, h => by
    rw [List.foldl_cons] at h
    rcases tgFold_mem ins l _ h with h | h
    · rcases tgStep_mem h with h | ⟨rfl, h⟩
      · exact .inl h
      · exact .inr ⟨by simp, h⟩
    · exact .inr ⟨by simp [h.1], h.2⟩
theorem tg_mem {l : List Cm} {x : Cm} (h : x ∈ tgL l) : x ∈ l ∧ x.good = true ∧ (kindIn x.kind = 4 ∨ kindIn x.kind = 7 ∨ kindIn x.kind = 8) := by
  have e : tgL l = tgRound l (tgRound l (tgRound l [] 4) 7) 8 := rfl
  rw [e] at h
  unfold tgRound at h
  rcases tgFold_mem 8 _ _ h with h | ⟨h, hk⟩
  · rcases tgFold_mem 7 _ _ h with h | ⟨h, hk⟩
    · rcases tgFold_mem 4 _ _ h with h | ⟨h, hk⟩
      · cases h
      · rw [List.mem_filter] at h; exact ⟨h.1, h.2, .inl hk⟩
    · rw [List.mem_filter] at h; exact ⟨h.1, h.2, .inr (.inl hk)⟩
  · rw [List.mem_filter] at h; exact ⟨h.1, h.2, .inr (.inr hk)⟩
theorem tgStep_length (ins : Int) (o : List Cm) (c : Cm) : (tgStep ins o c).length ≤ o.length + 1 := by unfold tgStep; split <;> simp
theorem tg_length (xs : List Int) : (tgL (claimsC xs)).length ≤ 4000 := by
  have := tables_length xs
  rw [← tg_tables, List.length_map] at this
  exact this

theorem kindIn_four {k : Int} : kindIn k = 4 ↔ k = 3 := by unfold kindIn; split <;> (try split) <;> (try split) <;> omega
theorem kindIn_seven {k : Int} : kindIn k = 7 ↔ (k = 2 ∨ k = 6) := by unfold kindIn; split <;> (try split) <;> (try split) <;> omega
theorem kindIn_eight {k : Int} : kindIn k = 8 ↔ k = 7 := by unfold kindIn; split <;> (try split) <;> (try split) <;> omega

/-- The refs' claim. -/
theorem claim_refs {b : List Int} {c : Cm} (hc : c ∈ claimsC b) (hk : c.kind = 3) : c.target = (headOf b).refs ∧ c.good = goodB b (headOf b).size (c1C b (headOf b)) ⟨3, 0, 0, 0, (headOf b).refs, false⟩ := by
  obtain ⟨J3, J4, J5, J6, P⟩ := claims_parts b
  rcases P.mem.1 hc with h | h | h | h | h
  · unfold c2C at h
    have h1 : c ∈ c1C b (headOf b) ∨ c = ⟨3, 0, 0, 0, (headOf b).refs, goodB b (headOf b).size (c1C b (headOf b)) ⟨3, 0, 0, 0, (headOf b).refs, false⟩⟩ := by
      rw [addC, List.mem_append, List.mem_singleton] at h; exact h
    rcases h1 with h1 | rfl
    · exfalso
      unfold c1C addC at h1
      simp at h1
      rcases h1 with rfl | rfl <;> simp at hk
    · exact ⟨rfl, rfl⟩
  · obtain ⟨d, _, h, _⟩ := P.of3 h; omega
  · rcases P.of4 h with h | h <;> omega
  · obtain ⟨d, _, h, _⟩ := P.of5 h; omega
  · obtain ⟨d, _, h, _⟩ := P.of6 h; omega
theorem claim_c4 {b : List Int} {c : Cm} (hc : c ∈ claimsC b) (hk : c.kind = 2 ∨ c.kind = 6) : c ∈ c4C b (headOf b) := by
  obtain ⟨J3, J4, J5, J6, P⟩ := claims_parts b
  rcases P.mem.1 hc with h | h | h | h | h
  · rw [P.c4, P.c3]; simp [h]
  · obtain ⟨d, _, h, _⟩ := P.of3 h; omega
  · rw [P.c4]; simp [h]
  · obtain ⟨d, _, h, _⟩ := P.of5 h; omega
  · obtain ⟨d, _, h, _⟩ := P.of6 h; omega
theorem claim_c5 {b : List Int} {c : Cm} (hc : c ∈ claimsC b) (hk : c.kind = 7) : c ∈ c5C b (headOf b) := by
  obtain ⟨J3, J4, J5, J6, P⟩ := claims_parts b
  have h := P.kind7 hc hk
  rw [P.c5]; simp [h]

/-- Each word of a table that leads somewhere has its claim. -/
theorem inside_claim {b : List Int} {to : Cm} (hto : to ∈ claimsC b) (hg : to.good = true) (hk : kindIn to.kind = 4 ∨ kindIn to.kind = 7 ∨ kindIn to.kind = 8) (i : Nat) (hi : i < 8) (ht : targetOf ((cl b to.target.toNat).getD i 0) ≠ 0) :
    ∃ c ∈ claimsC b, c.kind = kindIn to.kind ∧ c.frm = to.target ∧ c.slot = i := by
  have hk1 : to.kind ≠ 1 := by
    rcases hk with h | h | h
    · rw [kindIn_four] at h; omega
    · rw [kindIn_seven] at h; omega
    · rw [kindIn_eight] at h; omega
  have hth : 1 ≤ to.target := (there_lt (good_there hto hg hk1)).1
  have hnat : ((to.target.toNat : Nat) : Int) = to.target := by omega
  rcases hk with h | h | h
  · rw [h]
    rw [kindIn_four] at h
    obtain ⟨h1, h2⟩ := claim_refs hto h
    rw [hg] at h2
    obtain ⟨g, hm⟩ := tab_mem b (headOf b).size 4 to.target.toNat 0 0 (c2C b (headOf b)) i hi ht
    refine ⟨⟨4, to.target.toNat, i, 0 + 0 * i, targetOf ((cl b to.target.toNat).getD i 0), g⟩, c3_sub b _ ?_, rfl, hnat, rfl⟩
    unfold c3C
    rw [if_pos h2.symm, ← h1]
    exact hm
  · rw [h]
    rw [kindIn_seven] at h
    have hf : to.target ∈ firstsC (c4C b (headOf b)) := by
      unfold firstsC
      rw [List.mem_map]
      refine ⟨to, List.mem_filter.2 ⟨claim_c4 hto h, ?_⟩, rfl⟩
      rcases h with h | h <;> simp [hg, h]
    obtain ⟨c, hc, k1, k2, k3, _, _⟩ := second_claim hf i hi ht
    exact ⟨c, c5_sub b c hc, k1, by rw [k2, hnat], k3⟩
  · rw [h]
    rw [kindIn_eight] at h
    obtain ⟨c, hc, k1, k2, k3, _⟩ := data_claim (claim_c5 hto h) h hg i hi ht
    exact ⟨c, hc, k1, by rw [k2, hnat], k3⟩

/-- What claims from within a table that is gone into is a claim of its words. -/
theorem frm_table {b : List Int} {to c : Cm} (hto : to ∈ claimsC b) (hg : to.good = true) (hk : kindIn to.kind = 4 ∨ kindIn to.kind = 7 ∨ kindIn to.kind = 8) (hc : c ∈ claimsC b) (hf : c.frm = to.target) :
    c.kind = kindIn to.kind ∧ 0 ≤ c.slot ∧ c.slot < 8 ∧ c.target = targetOf ((cl b to.target.toNat).getD c.slot.toNat 0) ∧ c.target ≠ 0 := by
  have hk' : to.kind = 3 ∨ (to.kind = 2 ∨ to.kind = 6) ∨ to.kind = 7 := by
    rcases hk with h | h | h
    · exact .inl (kindIn_four.1 h)
    · exact .inr (.inl (kindIn_seven.1 h))
    · exact .inr (.inr (kindIn_eight.1 h))
  have hth : 1 ≤ to.target := (there_lt (good_there hto hg (by omega))).1
  by_cases h4 : c.kind = 4 ∨ c.kind = 7 ∨ c.kind = 8
  · obtain ⟨d, hd, hdk⟩ := claim_tab hc h4
    have ht : d.target = to.target := by rw [← hd.frm, hf]
    have hone := (good_one hd.mem hto hd.good hg ht).1
    refine ⟨?_, hd.slot0, hd.slot1, by rw [hd.word, ht], hd.some⟩
    rcases hdk with ⟨e1, e2⟩ | ⟨e1, e2, _⟩ | ⟨e1, e2, _⟩
    · rw [e1, kindIn_four.2 (by omega)]
    · rw [e1, kindIn_seven.2 (by omega)]
    · rw [e1, kindIn_eight.2 (by omega)]
  · exfalso
    obtain ⟨J3, J4, J5, J6, P⟩ := claims_parts b
    rcases P.mem.1 hc with h | h | h | h | h
    · unfold c2C c1C addC at h
      simp at h
      rcases h with rfl | rfl | rfl <;> simp at hf <;> omega
    · obtain ⟨d, _, h, _⟩ := P.of3 h; omega
    · have hsub : ∀ x ∈ J4, x ∈ claimsC b := fun x hx => P.mem.2 (.inr (.inr (.inl hx)))
      rcases P.e4 with ⟨g, h1, _⟩ | h1 | ⟨J, h1, h2⟩
      · rw [h1, List.mem_singleton] at h; subst h; simp at hf; omega
      · rw [h1] at h; cases h
      · have h5 := hsub ⟨5, 0, 0, 0, (headOf b).shots, true⟩ (by rw [h1]; simp)
        rw [h1, List.mem_cons] at h
        rcases h with rfl | h
        · simp at hf; omega
        · obtain ⟨d, hd, he⟩ := er_mem h2 h
          obtain ⟨_, k2, _, _, _⟩ := er_eq he
          have := (shotT_kind hd).2.2.2
          have h6 := (good_one h5 hto rfl hg (by show (headOf b).shots = _; rw [← hf, k2, this])).1
          simp only at h6
          omega
    · obtain ⟨d, _, h, _⟩ := P.of5 h; omega
    · obtain ⟨d, _, h, _⟩ := P.of6 h; omega

def standB (l : List Cm) (t s : Int) : Bool := l.any fun c => c.frm == t && c.slot == s
def wordMust (word kind : Int) (counts : List Int) : Int := entryOf (targetOf word) (!(targetOf word == 0) && (!(kind == 3) && counts.getD (targetOf word).toNat 0 == 1))

theorem stand_false {l : List Cm} {t s : Int} (h : standB l t s = false) {c : Cm} (hc : c ∈ l) (h1 : c.frm = t) (h2 : c.slot = s) : False := by
  unfold standB at h
  rw [List.any_eq_false] at h
  exact h c hc (by simp [h1, h2])
theorem looseC_mem {xs : List Int} (hh : hasHead xs = true) {c : Cm} : c ∈ looseL xs ↔ c ∈ claimsC xs ∧ c.good = false := by
  unfold looseL claimsL
  rw [if_pos hh, List.mem_filter]
  simp

/-- A word of a table: it is told as the model tells it, and its count is asked for only where there is one. -/
theorem own_word {xs : List Int} (hh : hasHead xs = true) (counts : List Int) {to : Cm} (hto : to ∈ tgL (claimsC xs)) (i : Nat) (hi : i < 8) (word : Int) (hw : word = (cl xs to.target.toNat).getD i 0) :
    (standB (looseL xs) to.target i = true → mustC (claimsC xs) counts to.target i word = word) ∧
    (standB (looseL xs) to.target i = false → mustC (claimsC xs) counts to.target i word = wordMust word to.kind counts ∧ (targetOf word ≠ 0 → 0 ≤ targetOf word ∧ targetOf word < 64)) := by
  obtain ⟨hm, hg, hk⟩ := tg_mem hto
  by_cases h0 : targetOf word = 0
  · refine ⟨fun hs => ?_, fun _ => ⟨?_, fun h => absurd h0 h⟩⟩
    · exfalso
      unfold standB at hs
      rw [List.any_eq_true] at hs
      obtain ⟨c, hc, hcc⟩ := hs
      simp at hcc
      obtain ⟨_, _, _, h3, h4⟩ := frm_table hm hg hk ((looseC_mem hh).1 hc).1 hcc.1
      rw [hcc.2, Int.toNat_natCast, ← hw] at h3
      omega
    · unfold mustC wordMust
      rw [if_pos h0, h0]
      rfl
  · have hcl := inside_claim hm hg hk i hi (by rw [← hw]; exact h0)
    obtain ⟨c0, hc0, k1, k2, k3⟩ := hcl
    have hp0 : mustP to.target i c0 = true := by
      unfold mustP
      rw [k1]
      rcases hk with h | h | h <;> rw [h] <;> simp [k2, k3]
    obtain ⟨c, hf⟩ : ∃ c, (claimsC xs).find? (mustP to.target i) = some c := by
      cases h : (claimsC xs).find? (mustP to.target i) with
      | none => rw [List.find?_eq_none] at h; exact absurd hp0 (h c0 hc0)
      | some c => exact ⟨c, rfl⟩
    have hc : c ∈ claimsC xs := List.mem_of_find?_eq_some hf
    have hp : mustP to.target i c = true := List.find?_some hf
    have hpp : (c.frm = to.target ∧ c.slot = i) ∧ (c.kind = 4 ∨ c.kind = 7 ∨ c.kind = 8) := by
      unfold mustP at hp
      simp at hp
      exact hp
    obtain ⟨⟨hcf, hcs⟩, hck⟩ := hpp
    obtain ⟨e1, _, _, e4, _⟩ := frm_table hm hg hk hc hcf
    rw [hcs, Int.toNat_natCast, ← hw] at e4
    have hM : mustC (claimsC xs) counts to.target i word = mustOf counts word (some c) := by unfold mustC; rw [if_neg h0, hf]
    cases hcg : c.good
    · have hN : mustC (claimsC xs) counts to.target i word = word := by rw [hM]; unfold mustOf; simp [hcg]
      refine ⟨fun _ => hN, fun hs => ?_⟩
      exact (stand_false hs ((looseC_mem hh).2 ⟨hc, hcg⟩) hcf hcs).elim
    · refine ⟨fun hs => ?_, fun _ => ⟨?_, fun _ => ?_⟩⟩
      · exfalso
        unfold standB at hs
        rw [List.any_eq_true] at hs
        obtain ⟨d, hd, hdd⟩ := hs
        simp at hdd
        obtain ⟨hd1, hd2⟩ := (looseC_mem hh).1 hd
        have hdk := (frm_table hm hg hk hd1 hdd.1).1
        have := word_one hc hd1 hck (by rw [hdk]; exact hk) (by rw [hcf, hdd.1]) (by rw [hcs, hdd.2])
        rw [hcg, hd2] at this
        cases this
      · rw [hM]
        unfold mustOf wordMust
        simp only [hcg, if_true]
        rw [e4]
        congr 1
        have h1 : (targetOf word == 0) = false := by simpa using h0
        have h2 : (c.kind != 4) = !(to.kind == 3) := by
          rw [e1]
          by_cases h3 : to.kind = 3
          · rw [kindIn_four.2 h3]; simp [h3]
          · have : kindIn to.kind ≠ 4 := fun h => h3 (kindIn_four.1 h)
            have a1 : (to.kind == 3) = false := by simpa using h3
            rw [a1]
            simpa using this
        rw [h1, h2]
        rfl
      · have hl := there_lt (good_there hc hcg (by omega))
        have := manyN_le (hasHead_img hh)
        rw [e4] at hl
        omega

end Go.Proofs.Ytieknpkbmccimaa
