/- Which first tables stay (the law's helper 'stay'). -/
import Derived.Test.YtibokhkohanoaabGreatDoorH7
import Derived.Test.YtibokhkohanoaabGreatDoorY5
import Derived.Test.YtibokhkohanoaabGreatDoorH2
namespace Go.Proofs.YtibokhkohanoaabGreatDoor
open Go.RowKit
def leftK (l:List Cm):List Int:=0 :: (l.filter isKept).map (fun c=>c.slot+1)
theorem leftK_step (l:List Cm)(k:Nat)(hk:k < l.length):leftK (l.take (k+1))=if isKept (l.getD k cm0)=true then leftK (l.take k)++[(l.getD k cm0).slot+1] else leftK (l.take k):=by
  unfold leftK
  rw[List.take_succ_eq_append_getElem hk,List.filter_append,List.getD_eq_getElem?_getD,List.getElem?_eq_getElem hk]
  simp only[Option.getD_some]
  cases h:isKept l[k]
  . rw[List.filter_cons_of_neg (by simp[h])];simp
  . rw[List.filter_cons_of_pos h];simp
theorem leftK_length (l:List Cm):(leftK l).length≤l.length+1:=by
  unfold leftK
  have:=List.length_filter_le isKept l
  simp
  omega
theorem leftK_all (b:List Int):leftK (claimsC b)=leftL b:=by
  unfold leftK leftL
  rw[show (claimsC b).filter isKept=keepC b from keep_all b]
theorem cmr_at {w:World}{lo hi:Nat}{A:Option Addr}{cg:Nat}{l:List Cm}(h:OwR 36 6 w lo hi A l.length cg (l.flatMap cmV)){k:Nat}(hk:k < l.length) :
    ∃ g,A=some ⟨g,0,none⟩∧lo≤g∧g < hi∧g < w.heap.size∧∀ w':World,w'.heap[g]?=w.heap[g]?→∀ j,j < 6→w'.cell? ⟨g,k * 6+j,none⟩=(cmV (l.getD k cm0))[j]?:=by
  rcases h.form with ⟨_,h0,_⟩ | ⟨g,rfl,h1,h2,h3,_⟩
  . omega
  . exact⟨g,rfl,h1,h2,h3,fun w' hw j hj=>(World.cell?_of_block (a:=⟨g,k * 6+j,none⟩) hw).trans (cm_cells h.rd hk j hj)⟩
set_option maxRecDepth 100000 in
set_option maxHeartbeats 4000000 in
theorem stay_any (A:Option Addr)(n cb:Nat)(xs:List Int)(w:World)(hr:Rd w w.heap.size A n xs)(hn:n≤2097152)(hh:hasHead xs=true) :
    Calls Tryz.prog 18 #[.slice A n cb] w (Ret w (leftL xs)):=by
  obtain⟨i0,hi0,hz0,hz1,hz2⟩:=info_parts info2
  have b1:=(Below.refl w.heap.size w).alloc (Nat.le_refl _) (.cells #[.int .i64 0] 2)
  have o1:OwV 2 1 (w.alloc (.cells #[.int .i64 0] 2)) w.heap.size (w.heap.size+1) w.heap.size 1 1 (iv [0]):=by
    refine⟨⟨rfl,.inr ⟨w.heap.size,1,_,rfl,Nat.le_refl _,heap_alloc_new w _,Nat.le_refl _,by simp[maxLen],rfl,rfl⟩⟩,Nat.lt_succ_self _⟩
  have hs1:(w.alloc (.cells #[.int .i64 0] 2)).heap.size=w.heap.size+1:=by simp
  have HCL:Hid (claimsL xs=claimsC xs):=by unfold claimsL;rw[hh];exact rfl
  have HF:=Lib.hid (leftK_all xs)
  have HSL:Hid (∀ c ∈ claimsC xs,0≤c.slot∧c.slot≤7):=fun c hc=>⟨(claims_ok xs c hc).slot0,(claims_ok xs c hc).slot1⟩
  clear hh
  go_enter Tryz.func18,Tryz.ntmps18
  go_wp2_with fail
  refine(specClaimsInR_any A n cb xs _ ((hr.below b1).more b1.size) hn).mono ?_
  rintro e w2 ⟨G,cg,rfl,oG,b2⟩
  rw[HCL.out] at oG ⊢
  have hll:=claims_length xs
  have hs2:=b2.size
  rw[hs1] at hs2
  have o2:=o1.below b2 (by omega)
  have b02:=below_more b1 b2 b1.size
  have HG:=Lib.hid oG
  have hw02:=b02.size
  have hlo:w.heap.size < (w.alloc (.cells #[.int .i64 0] 2)).heap.size:=by omega
  clear hs1 b1 b2 o1 oG
  generalize claimsC xs=l at *
  go_wp2_with fail
  go_loopw [3,5] (fun v i wr=>∃ (k g' c':Nat),k≤l.length∧i=.int .i64 k∧v=.slice (some ⟨g',0,none⟩) (leftK (l.take k)).length c' ∧
    OwV 2 1 wr w.heap.size wr.heap.size g' (leftK (l.take k)).length c' (iv (leftK (l.take k)))∧w2.grownBy wr (some w.heap.size)∧(g'=w.heap.size∨w2.heap.size≤g')) (fun _ i _=>l.length - (intOf i).toNat)
  case atStart=>exact⟨0,w.heap.size,1,Nat.zero_le _,rfl,rfl,o2.more (Nat.le_refl _) (by omega),grown_refl _ _,.inl rfl⟩
  case round =>
    obtain⟨k,g',c',hk,rfl,rfl,hok,hg,hat⟩:=hrel
    have AT:=Lib.hid hat
    clear hat
    have sr:=hg.size
    by_cases hlt:k < l.length
    . obtain⟨g,rfl,hg1,hg2,hg3,hce⟩:=cmr_at HG.out hlt
      have hce:=hce wr (hg.block g hg3 (fun e=>by injection e with e;omega))
      have HS:=Lib.hid (leftK_step l k hlt)
      have hgd:l.getD k cm0=l[k]:=by simp[List.getD_eq_getElem?_getD,hlt]
      have hsl:=HSL.out _ (List.getElem_mem hlt)
      rw[hgd] at hce HS
      clear hgd
      have hfl:(leftK (l.take k)).length≤20000:=by
        have h1:=leftK_length (l.take k)
        have h2:(l.take k).length≤k:=List.length_take_le _ _
        omega
      generalize leftK (l.take k)=fs at *
      generalize l[k]=x at *
      obtain⟨xk,xf,xs',xp,xt,xg⟩:=x
      simp only at hsl
      have e0:wr.cell? ⟨g,k * 6,none⟩=some (.int .i64 xk):=hce 0 (by omega)
      have e2:wr.cell? ⟨g,k * 6+2,none⟩=some (.int .i64 xs'):=hce 2 (by omega)
      have e5:wr.cell? ⟨g,k * 6+5,none⟩=some (.bool xg):=hce 5 (by omega)
      clear hce
      have n1:(0:Int)≤(k:Int):=by omega
      have n2:(k:Int) < (l.length:Int):=by omega
      by_cases h6:xk=6
      . subst h6
        have d6:((6:Int) == 6)=true:=by simp
        cases xg
        . have HE:Hid (leftK (l.take (k+1))=fs):=by rw[HS.out];exact rfl
          clear HS
          go_wp2_with fail
          go_roundw
          case rel=>exact⟨k+1,g',c',by omega,by go_num,by rw[HE.out],by rw[HE.out];exact hok,hg,AT.out⟩
          case measure=>simp[intOf];omega
        . have HE:Hid (leftK (l.take (k+1))=fs++[xs'+1]):=by rw[HS.out];exact rfl
          clear HS
          obtain⟨s0,s7⟩:=hsl
          go_wp2_with (at_builtin;refine wpList_append_v rfl (.tmp 28) (.tmp 35) 24 rfl 2 1 8 _ i0 Tryz.underlying24 hi0 hz0 hz1 hz2 rfl (by omega) (by omega) w.heap.size wr.heap.size g' fs.length c' _ rfl (hok.grown (World.grownBy_alloc _ _ none) (fun _ h=>by cases h)) ⟨wr.heap.size,0,none⟩ 1 1 (iv [xs'+1]) rfl rfl (fun j u hj=>by rw[Addr.add_lit,Nat.zero_add,World.cell?_alloc_new];simpa [iv] using hj) (by simp[iv,Value.oneCell']) (by omega) (by simp;omega) ?_;intro g3 cd w5 ho5 hgr hat hold)
          rw[← iv_append] at ho5
          rw[World.size_alloc] at hat
          have hgr':wr.grownBy w5 (some g'):=⟨hgr.os,hgr.tape,hgr.output,Nat.le_trans (by simp) hgr.size,fun q h1 h2=>(hgr.block q (by simp;omega) h2).trans (Below.heap_alloc _ _ _ h1)⟩
          clear hgr hold n1 n2 e0 e2 e5
          go_wp2_with fail
          go_roundw
          case rel =>
            refine⟨k+1,g3,cd,by omega,by go_num,by rw[HE.out];simp,?_,grown_next hg AT.out hgr',by have:=AT.out;omega⟩
            rw[HE.out,List.length_append]
            exact ho5
          case measure=>simp[intOf];omega
      . have d6:(xk == 6)=false:=by simpa using h6
        have HE:Hid (leftK (l.take (k+1))=fs):=by rw[HS.out,if_neg (by unfold isKept;simp[h6])];exact rfl
        clear HS h6
        go_wp2_with fail
        go_roundw
        case rel=>exact⟨k+1,g',c',by omega,by go_num,by rw[HE.out],by rw[HE.out];exact hok,hg,AT.out⟩
        case measure=>simp[intOf];omega
    . obtain rfl:k=l.length:=by omega
      go_wp2_with fail
      go_ret
      rw[List.take_length,HF.out] at hok ⊢
      exact⟨_,_,c',rfl,hok.toI,below_of_grown b02 hg (Nat.le_refl _)⟩
end Go.Proofs.YtibokhkohanoaabGreatDoor
