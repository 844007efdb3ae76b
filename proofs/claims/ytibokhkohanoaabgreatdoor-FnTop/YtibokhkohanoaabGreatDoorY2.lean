/- RolesIn and CountsIn, the model's side. The exact laws of chapter 7, walked, given what the program's own functions answer. The exact law of chapter 8, walked, given what the program's own function answers. The exact law of chapter 9, walked, given what the program's own function answers. Roles and counts: what holds of them, plain mathematics. -/
import Derived.Test.YtibokhkohanoaabGreatDoorG7
import Derived.Test.YtibokhkohanoaabGreatDoorY5
import Derived.Test.YtibokhkohanoaabGreatDoorH0
namespace Go.Proofs.YtibokhkohanoaabGreatDoor
open Go.RowKit
def roleStep (o:List Int)(c:Cm):List Int:=if c.good=true then o.set c.target.toNat c.kind else o
def rolesC (xs:List Int):List Int:=(claimsC xs).foldl roleStep (List.replicate (manyN xs) 0)
def rolesL (xs:List Int):List Int:=if hasHead xs=true then rolesC xs else []
def countsL (xs:List Int):List Int:=if hasHead xs=true then countsC (claimsC xs) else []
theorem role_len (l:List Cm):∀ o:List Int,(l.foldl roleStep o).length=o.length:=by
  induction l with
  | nil=>intro o;rfl
  | cons c l ih=>intro o;rw[List.foldl_cons,ih];unfold roleStep;split <;> simp
theorem rolesC_length (xs:List Int):(rolesC xs).length=manyN xs:=by unfold rolesC;rw[role_len];simp
theorem rolesL_length {xs:List Int}:(rolesL xs).length≤64:=by
  unfold rolesL;split
  . rename_i h
    rw[rolesC_length]
    exact manyN_le (hasHead_img h)
  . simp
set_option maxRecDepth 100000 in
set_option maxHeartbeats 2000000 in
theorem specRolesIn_any (A:Option Addr)(n c:Nat)(xs:List Int)(w:World)(h:Rd w w.heap.size A n xs)(hn:n≤2097152) :
    Calls Tryz.prog 146 #[.slice A n c] w (Ret w (rolesL xs)):=by
  obtain⟨i0,hi0,hz0,hz1,hz2⟩:=info_parts info2
  have hxl:=Lib.hid h.len
  go_enter Tryz.func146,Tryz.ntmps146
  go_wp2_with fail
  refine(specHeadIn_any _ _ _ xs _ h hn).mono ?_
  rintro e w1 ⟨rfl,b1⟩
  generalize hr:headIn xs=r
  obtain⟨⟨s,f,r,u,m⟩,is⟩:=r
  have HR:=Lib.hid hr
  clear hr
  unfold hdV
  have b2:=b1.alloc b1.size (.cells #[.int .i64 s,.int .i64 f,.int .i64 r,.int .i64 u,.int .i64 m] 31)
  cases is
  . have HN:Hid (rolesL xs=[]):=by unfold rolesL;rw[(headIn_false HR.out).1];exact rfl
    go_wp2_with fail
    go_ret
    rw[HN.out]
    exact Ret.emptyAt _ (by simp) b2
  have HH:=Lib.hid (headIn_true HR.out).1
  have HN:Hid (rolesL xs=(claimsC xs).foldl roleStep (List.replicate (manyN xs) 0)):=by unfold rolesL;rw[HH.out];exact rfl
  have hm:=manyN_le (hasHead_img HH.out)
  have h2:=(h.below b2).more b2.size
  go_wp2_with fail
  generalize (w1.alloc (.cells #[.int .i64 s,.int .i64 f,.int .i64 r,.int .i64 u,.int .i64 m] 31))=v1 at *
  refine(specMany_any _ _ _ xs _ hxl.out hn).mono ?_
  rintro e w' ⟨rfl,rfl⟩
  have HT:=Lib.hid (fun c hc hg=>good_target HH.out (c:=c) hc hg)
  obtain⟨M,hM⟩:∃ M,M=manyN xs:=⟨_,rfl⟩
  rw[← hM] at HN hm HT ⊢
  have HMM:=Lib.hid hM
  clear hM
  go_wp2_with (at_make;refine wpList_make_full _ rfl _ _ 24 rfl v1.heap.size 2 i0 (.int .i64 0) 1 Tryz.underlying24 hi0 hz0 hz1 .i64 .i64 _ _ M rfl rfl rfl rfl (by rw[hz2];omega) (by simp only[maxLen];omega) (Nat.le_refl _) ?_;intro w2 hown hg;rw[made_iv] at hown)
  have hb2:Below v1.heap.size v1 w2:=below_grown hg (Nat.le_refl _) (fun _ h=>by cases h)
  have ho1:=zeros_ow hown
  have hlt1:=ow_lt ho1
  have b02:=below_more b2 hb2 b2.size
  have hv:=b2.size
  clear hown hg hi0 hz0 hz1 hz2
  refine(specClaims_any A n c xs w2 ((h2.below hb2).more hb2.size) hn HH.out).mono ?_
  rintro e w3 ⟨g,cg,rfl,ho,b3⟩
  have hs3:=b3.size
  have hgl:=ho.low
  have hgt:=ho.lt
  have o3:=ho1.below b3 (by omega)
  have b03:=below_more b02 b3 b02.size
  have HRd:=Lib.hid ho.rd
  have hll:=claims_length xs
  clear hb2 b2 b3 ho1 ho h2 b02
  generalize claimsC xs=l at *
  generalize hgv:v1.heap.size=gv at *
  clear hgv
  go_wp2_with fail
  go_loopw [7] (fun i wr=>∃ k:Nat,k≤l.length∧i=.int .i64 k∧Ow wr gv (gv+1) (some ⟨gv,0,none⟩) M M ((l.take k).foldl roleStep (List.replicate M 0))∧w3.grownBy wr (some gv)) (fun i _=>l.length - (intOf i).toNat)
  case atStart=>exact⟨0,Nat.zero_le _,rfl,o3,grown_refl _ _⟩
  case round =>
    obtain⟨k,hk,rfl,hok,hg⟩:=hrel
    have sr:=hg.size
    by_cases hlt:k < l.length
    . have hce:=cm_cells (HRd.out.grown hg hgt (by show g≠_;omega)) hlt
      have HS:=Lib.hid (take_fold roleStep l (List.replicate M 0) k hlt)
      have hgd:l.getD k cm0=l[k]:=by simp[List.getD_eq_getElem?_getD,hlt]
      have HTk:=Lib.hid (HT.out _ (List.getElem_mem hlt))
      rw[hgd] at hce
      clear hgd
      generalize (l.take k).foldl roleStep (List.replicate M 0)=fs at *
      generalize l[k]=x at *
      obtain⟨xk,xf,xs',xp,xt,xg⟩:=x
      have e0:wr.cell? ⟨g,k * 6,none⟩=some (.int .i64 xk):=hce 0 (by omega)
      have e4:wr.cell? ⟨g,k * 6+4,none⟩=some (.int .i64 xt):=hce 4 (by omega)
      have e5:wr.cell? ⟨g,k * 6+5,none⟩=some (.bool xg):=hce 5 (by omega)
      clear hce
      cases xg
      . have HE:Hid ((l.take (k+1)).foldl roleStep (List.replicate M 0)=fs):=by rw[HS.out];simp[roleStep,Hid]
        clear HS
        go_wp2_with fail
        go_roundw
        case rel=>exact⟨k+1,by omega,by go_num,by rw[HE.out];exact hok,hg⟩
        case measure=>simp[intOf];omega
      . have HE:Hid ((l.take (k+1)).foldl roleStep (List.replicate M 0)=fs.set xt.toNat xk):=by rw[HS.out];simp[roleStep,Hid]
        obtain⟨t0,t1⟩:=HTk.out rfl
        simp only at t0 t1
        obtain⟨τ,rfl⟩:=Int.eq_ofNat_of_zero_le t0
        have hτ:τ < M:=by omega
        have hco:=hok.cell hτ
        have hfo:=hok.free τ
        have HSt:=Lib.hid (hok.set τ xk)
        rw[Int.toNat_natCast] at HE
        clear HS HTk t0 t1
        generalize fs.getD τ 0=v at *
        go_wp2_with fail
        have n2:(0:Int)≤(k:Int):=by omega
        have n3:(k:Int) < (l.length:Int):=by omega
        have n4:(τ:Int) < (M:Int):=by omega
        have n5:(0:Int)≤(τ:Int):=by omega
        go_still_tail 12,(by kernel_rfl)
        change wpList _ _ _ _ _ wr.drew
        go_wp2_with fail
        go_roundw
        case rel =>
          obtain⟨h1,h2⟩:=HSt.out
          refine⟨k+1,by omega,by go_num,?_,?_⟩
          . rw[HE.out];exact h1.drew
          . exact grown_trans hg (grown_drew h2)
        case measure=>simp[intOf];omega
    . obtain rfl:k=l.length:=by omega
      go_wp2_with fail
      go_ret
      rw[List.take_length] at hok
      rw[HN.out]
      exact⟨_,M,M,rfl,hok.more hv (by omega),below_of_grown b03 hg hv⟩
theorem looseL_length (xs:List Int):(looseL xs).length≤1296:=by
  unfold looseL
  have h1:=List.length_filter_le (fun c:Cm=>!c.good) (claimsL xs)
  have h2:=claimsL_length xs
  omega
def LooseC:Prop:=∀ (A:Option Addr) (n c:Nat) (xs:List Int) (w:World),Rd w w.heap.size A n xs→n≤2097152→n≤c→Calls Tryz.prog 118 #[.slice A n c] w (RetCms w (looseL xs))
def RolesC:Prop:=∀ (A:Option Addr) (n c:Nat) (xs:List Int) (w:World),Rd w w.heap.size A n xs→n≤2097152→n≤c→Calls Tryz.prog 157 #[.slice A n c] w (Ret w (rolesL xs))
def CountsC:Prop:=∀ (A:Option Addr) (n c:Nat) (xs:List Int) (w:World),Rd w w.heap.size A n xs→n≤2097152→n≤c→Calls Tryz.prog 120 #[.slice A n c] w (Ret w (countsL xs))
def StoredC:Prop:=∀ (A:Option Addr) (n c:Nat) (xs:List Int) (w:World),Rd w w.heap.size A n xs→n≤2097152→n≤c→Calls Tryz.prog 119 #[.slice A n c] w (Ret w (storedL xs))
theorem cnt_sum (j:Nat):∀ (l:List Cm) (o:List Int),j < o.length→(l.foldl cntStep o).getD j 0=o.getD j 0+((l.filter (fun x=>x.good && decide (x.target.toNat=j))).length:Int)
  | [],_,_=>by simp
  | c :: l,o,h=>by
    rw[List.foldl_cons,cnt_sum j l (cntStep o c) (by unfold cntStep;split <;> simpa using h)]
    unfold cntStep
    by_cases hc:c.good=true
    . rw[if_pos hc,getD_set]
      by_cases ht:c.target.toNat=j
      . rw[if_pos ⟨ht,by omega⟩,List.filter_cons_of_pos (by simp[hc,ht]),List.length_cons,ht]
        omega
      . rw[if_neg (fun e=>ht e.1),List.filter_cons_of_neg (by simp[ht])]
    . rw[if_neg hc,List.filter_cons_of_neg (by simp[hc])]
end Go.Proofs.YtibokhkohanoaabGreatDoor
