/- Flags (chapter 15), as the program sets them: each table that is gone into gets all of its words as they must be. Plain mathematics. -/
import Derived.Test.YtibokhkohanoaaaGreatQ9
import Derived.Test.YtibokhkohanoaaaGreatH3
namespace Go.Proofs.YtibokhkohanoaaaGreat
open Go.RowKit

/-- It is as it must be. -/
theorem rt_must {xs : List Int} (hh : hasHead xs = true) {to : Cm} (hto : to ∈ tgL (claimsC xs)) (i : Nat) (hi : i < 8) : rtW xs (looseL xs) (countsC (claimsC xs)) to i = mustW xs to.target i := by
  obtain ⟨h1, h2⟩ := own_word hh (countsC (claimsC xs)) hto i hi _ rfl
  unfold rtW mustW
  cases h : standB (looseL xs) to.target i
  · rw [if_neg (by simp), (h2 h).1]
  · rw [if_pos rfl, h1 h]

/-- A table's words in their place. -/
def putT (xs : List Int) (loose : List Cm) (counts : List Int) (z : List Int) (to : Cm) : List Int := setCl z to.target.toNat (rtL xs loose counts to)

theorem putT_fold {xs : List Int} (hh : hasHead xs = true) : ∀ (ts : List Cm), (∀ t ∈ ts, t ∈ tgL (claimsC xs)) → ∀ z : List Int, z.length = manyN xs * 8 →
    (ts.foldl (putT xs (looseL xs) (countsC (claimsC xs))) z).length = manyN xs * 8 ∧
    ∀ (a s : Nat), s < 8 → (ts.foldl (putT xs (looseL xs) (countsC (claimsC xs))) z).getD (a * 8 + s) 0 = if (a : Int) ∈ ts.map (·.target) then mustW xs a s else z.getD (a * 8 + s) 0
  | [], _, z, hz => ⟨hz, fun a s _ => by simp⟩
  | t :: ts, ht, z, hz => by
    have hm : t ∈ tgL (claimsC xs) := ht t (by simp)
    have hth := there_lt (tables_there (xs := xs) (by rw [← tg_tables]; exact List.mem_map_of_mem hm))
    obtain ⟨τ, hτ⟩ := Int.eq_ofNat_of_zero_le (show 0 ≤ t.target by omega)
    have hτm : τ < manyN xs := by omega
    have hl := rtL_length xs (looseL xs) (countsC (claimsC xs)) t
    have hz1 : (putT xs (looseL xs) (countsC (claimsC xs)) z t).length = manyN xs * 8 := by
      unfold putT
      rw [hτ, Int.toNat_natCast, setCl_length (by omega) (by omega) hl, if_neg (by omega), hz]
    obtain ⟨h1, h2⟩ := putT_fold hh ts (fun x hx => ht x (by simp [hx])) _ hz1
    refine ⟨h1, fun a s hs => ?_⟩
    rw [List.foldl_cons, h2 a s hs, List.map_cons]
    by_cases h3 : (a : Int) ∈ ts.map (·.target)
    · rw [if_pos h3, if_pos (by simp [h3])]
    · rw [if_neg h3]
      unfold putT
      rw [hτ, Int.toNat_natCast, setCl_get (by omega) hl]
      by_cases h4 : a = τ
      · subst h4
        rw [if_pos (by omega), if_pos (by simp), show a * 8 + s - a * 8 = s by omega, rtL_get _ _ _ _ s hs, rt_must hh hm s hs, hτ]
      · rw [if_neg (by omega), if_neg (by
          rw [List.mem_cons, not_or]
          exact ⟨fun e => h4 (by omega), h3⟩)]

/-- All tables' words in their places: what is flagged anew. -/
theorem owned_prog {xs : List Int} (hh : hasHead xs = true) : (tgL (claimsC xs)).foldl (putT xs (looseL xs) (countsC (claimsC xs))) (whole xs) = ownedC xs := by
  obtain ⟨h1, h2⟩ := putT_fold hh (tgL (claimsC xs)) (fun _ h => h) (whole xs) (whole_length xs)
  apply List.ext_getElem
  · rw [h1, owned_length]
  · intro i hi1 hi2
    have e1 : ∀ (l : List Int) (h : i < l.length), l[i] = l.getD i 0 := fun l h => by simp [List.getD_eq_getElem?_getD, h]
    rw [e1 _ hi1, e1 _ hi2, show i = i / 8 * 8 + i % 8 by omega, h2 _ _ (by omega), tg_tables, ← cl_word_get (ownedC xs) _ _ (by omega)]
    by_cases h : ((i / 8 : Nat) : Int) ∈ tablesC (claimsC xs)
    · rw [if_pos h]
      have := owned_tab h (s := i % 8) (by omega)
      rw [Int.toNat_natCast] at this
      rw [this]
    · rw [if_neg h, owned_other (fun u hu e => h (by rw [← e]; exact hu)), cl_word_get _ _ _ (by omega), whole_get]

end Go.Proofs.YtibokhkohanoaaaGreat
