/- The exact laws of chapter 13, walked, given what the program's own functions answer. -/
import Derived.Test.YtimbfilbojejiabGreatH7
import Derived.Test.YtimbfilbojejiabGreatH6
import Derived.Test.YtimbfilbojejiabGreatY5
namespace Go.Proofs.YtimbfilbojejiabGreat
open Go.RowKit

theorem specLostR_any (A : Option Addr) (n c : Nat) (xs : List Int) (w : World) (h : Rd w w.heap.size A n xs) (hn : n ≤ 2097152) :
    Calls Tryz.prog 12 #[.slice A n c] w (Ret w (lostL xs)) := (specLost_any A n c xs w h hn).mono fun _ _ ⟨_, k, m, h1, _, h2, h3⟩ => ⟨_, k, m, h1, h2, h3⟩

theorem refoundL_length (xs : List Int) : (refoundL xs).length ≤ 1024 := by
  unfold refoundL
  split
  · rename_i h
    unfold setCl moreL setCl
    have h1 := whole_length xs
    simp [lostT, hdW]
    omega
  · simp

def SecLikeC : Prop := ∀ (A : Option Addr) (n c : Nat) (xs : List Int) (a : Int) (w : World), Rd w w.heap.size A n xs → n ≤ 2097152 → n ≤ c → Calls Tryz.prog 13 #[.slice A n c, .int .i64 a] w (RetB w (secLikeB xs a))

def LostC : Prop := ∀ (A : Option Addr) (n c : Nat) (xs : List Int) (w : World), Rd w w.heap.size A n xs → n ≤ 2097152 → n ≤ c → Calls Tryz.prog 8 #[.slice A n c] w (Ret w (lostL xs))

def RefoundC : Prop := ∀ (A : Option Addr) (n c : Nat) (xs : List Int) (w : World), Rd w w.heap.size A n xs → n ≤ 2097152 → n ≤ c → Calls Tryz.prog 6 #[.slice A n c] w (Ret w (refoundL xs))

end Go.Proofs.YtimbfilbojejiabGreat
