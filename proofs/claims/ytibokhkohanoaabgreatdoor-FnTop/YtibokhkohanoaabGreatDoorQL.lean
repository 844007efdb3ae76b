/- The exact laws of chapter 10, walked, given what the program's own functions answer. What the laws' helper 'zeros' answers of zeros. -/
import Derived.Test.YtibokhkohanoaabGreatDoorH6
import Derived.Test.YtibokhkohanoaabGreatDoorY5
import Derived.Test.YtibokhkohanoaabGreatDoorG0
namespace Go.Proofs.YtibokhkohanoaabGreatDoor
open Go.RowKit
def ContentC:Prop:=∀ (A:Option Addr) (n c:Nat) (xs:List Int) (q:Int) (g:Int) (w:World),Rd w w.heap.size A n xs→n≤2097152→n≤c→Calls Tryz.prog 19 #[.slice A n c,.int .i64 q,.int .i64 g] w (Ret w (contentL xs q g))
def NamesC:Prop:=∀ (A:Option Addr) (n c:Nat) (xs:List Int) (w:World),Rd w w.heap.size A n xs→n≤2097152→n≤c→Calls Tryz.prog 16 #[.slice A n c] w (Ret w (namesL xs))
set_option maxHeartbeats 1000000 in
theorem zeros_any (A:Option Addr)(n c B k:Nat)(w:World)(h:Rd w B A n (List.replicate k 0))(hn:n≤2097152) :
    Calls Tryz.prog 21 #[.slice A n c] w fun e w'=>e=.returned (.bool true)∧w=w':=by
  go_enter Tryz.func21,Tryz.ntmps21
  go_wp2_with fail
  go_loop [3] (fun i=>∃ k:Nat,k≤n∧i=.int .i64 k) (fun i=>n - (intOf i).toNat)
  case atStart=>exact⟨0,Nat.zero_le _,rfl⟩
  case round =>
    obtain⟨j,hj,rfl⟩:=hrel
    by_cases hlt:j < n
    . obtain⟨b,off,rfl,_,hc⟩:=h.2 (by omega)
      have p:=hc j hlt
      rw[show (List.replicate k (0:Int)).getD j 0=0 by rw[List.getD_eq_getElem?_getD,List.getElem?_replicate];split <;> rfl] at p
      clear hc h
      have n1:(0:Int)≤(j:Int):=by omega
      have n2:(j:Int) < (n:Int):=by omega
      go_wp2_with fail
      go_round
      case rel=>exact⟨j+1,by omega,by go_num⟩
      case measure=>simp[intOf];omega
    . go_wp2_with fail
      go_ret
      exact⟨rfl,rfl⟩
end Go.Proofs.YtibokhkohanoaabGreatDoor
