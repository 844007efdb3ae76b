/- A cluster written: the program's side. -/
import Derived.Test.YtibokhkohanoaaaWcl
import Derived.Laws.CopyOwn
namespace Go.Proofs.Ytibokhkohanoaaa
open Go.RowKit

theorem info2s : (Try.prog.info? 2).map (·.size) = some 1 := by kernel_rfl

theorem OwC.heap {w : World} {lo hi g n c : Nat} {ys : List Int} (h : OwC w lo hi (some ⟨g, 0, none⟩) n c ys) :
    ∃ cur : List Value, w.heap[g]? = some (.cells cur.toArray 33 (0, 0)) ∧ n ≤ c ∧ c ≤ maxLen ∧ cur.length = c * 8 ∧ cur.take (n * 8) = iv ys ∧ lo ≤ g := by
  rcases h.own.2 with ⟨hv, _⟩ | ⟨g', cap, cur, hv, hb, hg, h1, h2, h3, h4⟩
  · cases hv
  · injection hv with e1 e2 e3
    injection e1 with e1
    injection e1 with e1
    subst e1; subst e3
    exact ⟨cur.toList, by simpa using hg, h1, h2, by simpa using h3, h4, hb⟩

theorem splice_take (cur : List Value) (ys ws : List Int) (n a : Nat) (h : cur.take (n * 8) = iv ys) (ha : a < n) (hw : ws.length = 8) (hl : n * 8 ≤ cur.length) :
    (splice cur (a * 8) (iv ws)).take (n * 8) = iv (setCl ys a ws) := by
  have hiw : (iv ws).length = 8 := by rw [iv_length, hw]
  have e1 : cur.take (a * 8) = iv (ys.take (a * 8)) := by
    have := congrArg (List.take (a * 8)) h
    rw [List.take_take, Nat.min_eq_left (by omega)] at this
    rw [this]; simp [iv, List.map_take]
  have e2 : (cur.drop (a * 8 + 8)).take (n * 8 - (a * 8 + 8)) = iv (ys.drop ((a + 1) * 8)) := by
    have := congrArg (List.drop (a * 8 + 8)) h
    rw [List.drop_take] at this
    rw [this, show (a + 1) * 8 = a * 8 + 8 from by omega]; simp [iv, List.map_drop]
  rw [splice, setCl, iv_append, iv_append, hiw, ← List.append_assoc, List.take_append, e1]
  have hl1 : (iv (ys.take (a * 8)) ++ iv ws).length = a * 8 + 8 := by
    rw [List.length_append, hiw, ← e1, List.length_take]; omega
  rw [List.take_of_length_le (by rw [hl1]; omega), hl1, e2]

theorem OwC.splice {w w' : World} {lo hi g n c a : Nat} {ys ws : List Int} {cur : List Value} (h : OwC w lo hi (some ⟨g, 0, none⟩) n c ys)
    (hn : n ≤ c) (hc : c ≤ maxLen) (hcl : cur.length = c * 8) (ht : cur.take (n * 8) = iv ys) (hlo : lo ≤ g) (ha : a < n) (hw : ws.length = 8)
    (hg : w'.heap[g]? = some (.cells (Go.splice cur (a * 8) (iv ws)).toArray 33 (0, 0))) : OwC w' lo hi (some ⟨g, 0, none⟩) n c (setCl ys a ws) := by
  have hst := splice_take cur ys ws n a ht ha hw (by omega)
  have hsl : (Go.splice cur (a * 8) (iv ws)).length = cur.length := length_splice _ _ _ (by rw [iv_length]; omega)
  refine ⟨⟨?_, .inr ⟨g, c, _, rfl, hlo, hg, hn, hc, by simp [hsl, hcl], by simpa using hst⟩⟩, h.top⟩
  rw [← hst, List.length_take, hsl]; omega

theorem setCl_last (zs : List Int) (m : Nat) (ws : List Int) (hz : zs.length = m * 8) (e8 : List Int) (h8 : e8.length = 8) : setCl (zs ++ e8) m ws = setCl zs m ws := by
  unfold setCl
  rw [List.take_append, List.take_of_length_le (by omega), List.drop_of_length_le (by simp; omega), List.drop_of_length_le (by omega), hz, Nat.sub_self, List.take_zero]
  simp

theorem wordsB_append (xs ys : List Int) : wordsB (xs ++ ys) = (wordsB xs && wordsB ys) := by simp [wordsB]
theorem wordsB_take {xs : List Int} (k : Nat) (h : wordsB xs = true) : wordsB (xs.take k) = true := by
  unfold wordsB at *
  rw [List.all_eq_true] at *
  exact fun x hx => h x (List.mem_of_mem_take hx)
theorem wordsB_drop {xs : List Int} (k : Nat) (h : wordsB xs = true) : wordsB (xs.drop k) = true := by
  unfold wordsB at *
  rw [List.all_eq_true] at *
  exact fun x hx => h x (List.mem_of_mem_drop hx)
theorem wordsB_whole {xs : List Int} (h : wordsB xs = true) : wordsB (whole xs) = true := by
  unfold whole
  rw [wordsB_append, h, Bool.true_and]
  unfold wordsB
  rw [List.all_eq_true]
  intro x hx
  rw [List.mem_replicate] at hx
  rw [hx.2]; rfl
theorem setCl_long (zs : List Int) (m a : Nat) (ws : List Int) (hz : zs.length = m * 8) (hw : ws.length = 8) (ha : a ≤ m) : (setCl zs a ws).length = (if a = m then m + 1 else m) * 8 := by
  unfold setCl
  simp only [List.length_append, List.length_take, List.length_drop, hz, hw]
  split <;> omega
theorem setCl_img_long (xs : List Int) (a : Nat) (ws : List Int) (hi : imgB xs = true) (h8 : eightB ws = true) (ha : a ≤ manyN xs) : imgB (setCl (whole xs) a ws) = decide (a < 64) := by
  have hl := imgB_len hi
  have hw : wordsB xs = true := by simp [imgB] at hi; exact hi.1
  have hws : wordsB ws = true := by simp [eightB] at h8; exact h8.2
  have hw2 := wordsB_whole hw
  have hlen := setCl_long (whole xs) (manyN xs) a ws (whole_length xs) (eightB_len h8) ha
  have hm : manyN xs ≤ 64 := by unfold manyN; omega
  have hall : wordsB (setCl (whole xs) a ws) = true := by
    unfold setCl
    rw [wordsB_append, wordsB_append, wordsB_take _ hw2, wordsB_drop _ hw2, hws]; rfl
  rw [imgB, hall, Bool.true_and, hlen]
  apply decide_eq_decide.2
  split <;> omega

theorem OwC.rdTop {w : World} {lo hi n c : Nat} {A : Option Addr} {ys : List Int} (h : OwC w lo hi A n c ys) : RdC w w.heap.size A n ys := (OwC.mk (hi := w.heap.size) h.own (fun g hg => (h.own.lt g hg).2)).rd
theorem OwC.of {w : World} {lo n : Nat} {v : Value} {ys : List Int} (h : w.ownsRow lo 33 8 v n (iv ys)) (hn : 0 < n) : ∃ g c, v = .slice (some ⟨g, 0, none⟩) n c ∧ OwC w lo w.heap.size (some ⟨g, 0, none⟩) n c ys := by
  have hl := h.lt
  rcases h.2 with ⟨hv, h0⟩ | ⟨g, cap, cur, hv, _⟩
  · omega
  · subst hv
    exact ⟨g, cap, rfl, h, fun g hg => (hl g hg).2⟩

theorem rd_src {w : World} {B : Nat} {W : Option Addr} {ws : List Int} (h : Rd w B W 8 ws) : ∃ ad, W = some ad ∧ ∀ (j : Nat) (v : Value), (iv ws)[j]? = some v → w.cell? (ad.add j) = some v := by
  obtain ⟨b, off, rfl, hb, hc⟩ := h.2 (by omega)
  exact ⟨_, rfl, rd_news h⟩

end Go.Proofs.Ytibokhkohanoaaa