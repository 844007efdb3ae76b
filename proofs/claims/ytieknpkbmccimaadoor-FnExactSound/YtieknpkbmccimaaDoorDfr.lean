/- The words that are not as they must be, as defects (pure). -/
import Derived.Test.YtieknpkbmccimaaDoorX6
import Derived.Test.YtieknpkbmccimaaDoorDfd
namespace Go.Proofs.YtieknpkbmccimaaDoor

def odStep (xs : List Int) (loose : List Cm) (counts : List Int) (to : Cm) (o : List Dc) (i : Nat) : List Dc :=
  if standB loose to.target i = false ∧ (cl xs to.target.toNat).getD i 0 ≠ wordMust ((cl xs to.target.toNat).getD i 0) to.kind counts then o ++ [⟨7, to.target, i⟩] else o
def odRound (xs : List Int) (loose : List Cm) (counts : List Int) (o : List Dc) (to : Cm) : List Dc := (List.range 8).foldl (odStep xs loose counts to) o
def ownDefs (xs : List Int) : List Dc := (tgL (claimsC xs)).foldl (odRound xs (looseL xs) (countsC (claimsC xs))) []

theorem ow_step {xs : List Int} (hh : hasHead xs = true) (counts : List Int) {to : Cm} (hto : to ∈ tgL (claimsC xs)) (i : Nat) (hi : i < 8) (o : List Wr) :
    odStep xs (looseL xs) counts to (o.map ownD) i = (wrStep xs (claimsC xs) counts to.target o i).map ownD := by
  obtain ⟨h1, h2⟩ := own_word hh counts hto i hi _ rfl
  unfold odStep wrStep
  cases hs : standB (looseL xs) to.target i
  · obtain ⟨h3, _⟩ := h2 hs
    rw [h3]
    by_cases he : (cl xs to.target.toNat).getD i 0 = wordMust ((cl xs to.target.toNat).getD i 0) to.kind counts
    · rw [if_neg (fun h => h.2 he), if_neg (fun h => h he.symm)]
    · rw [if_pos ⟨rfl, he⟩, if_pos (fun h => he h.symm)]
      simp [ownD]
  · rw [h1 hs, if_neg (by simp), if_neg (by simp)]
theorem ow_round {xs : List Int} (hh : hasHead xs = true) (counts : List Int) {to : Cm} (hto : to ∈ tgL (claimsC xs)) (o : List Wr) :
    odRound xs (looseL xs) counts (o.map ownD) to = (wrRound xs (claimsC xs) counts o to.target).map ownD := by
  unfold odRound wrRound
  have : ∀ (is : List Nat), (∀ i ∈ is, i < 8) → ∀ o : List Wr, is.foldl (odStep xs (looseL xs) counts to) (o.map ownD) = (is.foldl (wrStep xs (claimsC xs) counts to.target) o).map ownD := by
    intro is
    induction is with
    | nil => intro _ o; rfl
    | cons i is ih =>
      intro hi o
      rw [List.foldl_cons, List.foldl_cons, ow_step hh counts hto i (hi i (by simp)) o, ih (fun j hj => hi j (by simp [hj]))]
  exact this _ (fun i hi => by simpa using hi) o
theorem ow_fold {xs : List Int} (hh : hasHead xs = true) (counts : List Int) : ∀ (ts : List Cm), (∀ t ∈ ts, t ∈ tgL (claimsC xs)) → ∀ o : List Wr, ts.foldl (odRound xs (looseL xs) counts) (o.map ownD) = ((ts.map (·.target)).foldl (wrRound xs (claimsC xs) counts) o).map ownD
  | [], _, o => rfl
  | t :: ts, h, o => by
    rw [List.foldl_cons, List.map_cons, List.foldl_cons, ow_round hh counts (h t (by simp)) o, ow_fold hh counts ts (fun x hx => h x (by simp [hx]))]
theorem own_defs {xs : List Int} (hh : hasHead xs = true) : ownDefs xs = (wrongsC xs).map ownD := by
  have := ow_fold hh (countsC (claimsC xs)) (tgL (claimsC xs)) (fun _ h => h) []
  unfold ownDefs wrongsC
  rw [← tg_tables]
  exact this
theorem odStep_length (xs : List Int) (loose : List Cm) (counts : List Int) (to : Cm) (o : List Dc) (i : Nat) : (odStep xs loose counts to o i).length ≤ o.length + 1 := by unfold odStep; split <;> simp

end Go.Proofs.YtieknpkbmccimaaDoor
