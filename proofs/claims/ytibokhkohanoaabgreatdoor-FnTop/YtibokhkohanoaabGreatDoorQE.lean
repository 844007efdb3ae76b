/- WithHead: both sides. Scans (chapter 13), the program's side: a table's words as entries; whether a cluster looks like a table. The exact laws of chapter 13, walked, given what the program's own functions answer. Scans (chapter 13), the program's side: is it a lost second table; all that are; refound. Scans (chapter 13), the program's side: Refound. Scans (chapter 13): what the program's own functions answer. -/
import Derived.Test.YtibokhkohanoaabGreatDoorQ7
import Derived.Test.YtibokhkohanoaabGreatDoorH6
import Derived.Test.YtibokhkohanoaabGreatDoorX2
import Derived.Test.YtibokhkohanoaabGreatDoorQ6
import Derived.Test.YtibokhkohanoaabGreatDoorY5
import Derived.Test.YtibokhkohanoaabGreatDoorY2
import Derived.Deep.RegionHeld3
namespace Go.Proofs.YtibokhkohanoaabGreatDoor
open Go.RowKit
def withHead (xs:List Int)(h:Hd):List Int:=withL xs 0 (hdWords h)
theorem withHead_yes {xs:List Int}{h:Hd}(hb:headB h=true):withHead xs h=withL xs 0 (hdW h):=by rw[withHead,hdWords_yes hb]
set_option maxHeartbeats 1000000 in
theorem implWithHead_any (A:Option Addr)(n c:Nat)(xs:List Int)(h:Hd)(w:World)(hr:Rd w w.heap.size A n xs)(hn:n≤2097152) :
    Calls Tryz.prog 139 #[.slice A n c,hdV h] w (Ret w (withHead xs h)):=by
  obtain⟨s,f,r,t,m⟩:=h
  have hB:=Lib.hid ((Below.refl w.heap.size w).alloc (Nat.le_refl _) (.cells #[.int .i64 s,.int .i64 f,.int .i64 r,.int .i64 t,.int .i64 m] 31))
  have HL:=Lib.hid (hdWords_len ⟨s,f,r,t,m⟩)
  have HW:=Lib.hid (show withHead xs ⟨s,f,r,t,m⟩=withL xs 0 (hdWords ⟨s,f,r,t,m⟩) from rfl)
  unfold hdV
  go_enter Tryz.func139,Tryz.ntmps139
  go_wp2_with fail
  refine(implHeadWords_any ⟨s,f,r,t,m⟩ _).mono ?_
  rintro e w1 ⟨G,ng,cg,rfl,oG,b1⟩
  have b01:=below_more hB.out b1 hB.out.size
  have lG:=Lib.hid oG.len
  go_wp2_with fail
  refine(implWcl_any A n c xs 0 G ng cg _ w1 ((hr.below b01).more b01.size) oG.rd hn (by have:=lG.out;have:=HL.out;omega)).mono ?_
  rintro e w2 ⟨K,nk,ck,rfl,oK,b2⟩
  go_wp2_with fail
  go_ret
  rw[HW.out]
  exact⟨K,nk,ck,rfl,oK.more b01.size (Nat.le_refl _),below_more b01 b2 b01.size⟩
def mixK (ys:List Int)(k:Nat):List Int:=ys.take k++List.replicate (8 - k) 0
theorem mixK_zero (ys:List Int):mixK ys 0=List.replicate 8 0:=by simp[mixK]
theorem mixK_all {ys:List Int}(h:ys.length=8):mixK ys 8=ys:=by unfold mixK;rw[List.take_of_length_le (by omega)];simp
theorem mixK_length {ys:List Int}(h:ys.length=8){k:Nat}(hk:k≤8):(mixK ys k).length=8:=by unfold mixK;simp;omega
theorem mixK_step {ys:List Int}(h:ys.length=8){k:Nat}(hk:k < 8):(mixK ys k).set k (ys.getD k 0)=mixK ys (k+1):=by
  unfold mixK
  have e:k - (ys.take k).length=0:=by simp;omega
  rw[show 8 - k=(8 - (k+1))+1 by omega,List.replicate_succ,List.set_append,if_neg (by simp;omega),e,List.getD_eq_getElem?_getD,List.getElem?_eq_getElem (by omega),List.take_succ_eq_append_getElem (by omega),List.append_assoc]
  rfl
theorem list8 {ys:List Int}(h:ys.length=8):∃ a b c d e f g i,ys=[a,b,c,d,e,f,g,i]:=by
  match ys,h with
  | [a,b,c,d,e,f,g,i],_=>exact⟨a,b,c,d,e,f,g,i,rfl⟩
def arrV (ys:List Int):Value:=.agg (iv ys).toArray
set_option maxRecDepth 100000 in
set_option maxHeartbeats 2000000 in
theorem entriesOf_any (G:Option Addr)(cg:Nat)(ys:List Int)(w:World)(hr:Rd w w.heap.size G 8 ys) :
    Calls Tryz.prog 179 #[.slice G 8 cg] w fun e w'=>e=.returned (arrV ys)∧Below w.heap.size w w':=by
  have hl:=hr.len
  obtain⟨b,off,rfl,hb,hc⟩:=hr.2 (by omega)
  have HC:=Lib.hid hc
  have HL:=Lib.hid hl
  clear hr hc hl
  have z0:(iv (List.replicate 8 0)).toArray=#[.int .i64 0,.int .i64 0,.int .i64 0,.int .i64 0,.int .i64 0,.int .i64 0,.int .i64 0,.int .i64 0]:=rfl
  go_enter Tryz.func179,Tryz.ntmps179
  go_wp2_with fail
  generalize hob:Obj.cells #[Value.int .i64 0,Value.int .i64 0,Value.int .i64 0,Value.int .i64 0,Value.int .i64 0,Value.int .i64 0,Value.int .i64 0,Value.int .i64 0] 161=ob at *
  have hob2:ob=.cells (iv (List.replicate 8 0)).toArray 161 (0,0):=by rw[z0];exact hob.symm
  clear hob z0
  have b1:=(Below.refl w.heap.size w).alloc (Nat.le_refl _) ob
  have b2:=b1.alloc b1.size ob
  have h1:((w.alloc ob).alloc ob).heap[w.heap.size]?=some (.cells (iv (List.replicate 8 0)).toArray 161 (0,0)):=by
    rw[heap_alloc_old _ _ (by simp),heap_alloc_new,hob2]
  have h2:((w.alloc ob).alloc ob).heap[w.heap.size+1]?=some (.cells (iv (mixK ys 0)).toArray 161 (0,0)):=by
    rw[heap_alloc2_new,hob2,mixK_zero]
  clear b1
  generalize (w.alloc ob).alloc ob=w2 at *
  go_loopw [8] (fun i wr=>∃ k:Nat,k≤8∧i=.int .i64 k∧wr.heap[w.heap.size]?=some (.cells (iv (List.replicate 8 0)).toArray 161 (0,0)) ∧
    wr.heap[w.heap.size+1]?=some (.cells (iv (mixK ys k)).toArray 161 (0,0))∧Below w.heap.size w wr) (fun i _=>8 - (intOf i).toNat)
  case atStart=>exact⟨0,by omega,rfl,h1,h2,b2⟩
  case round =>
    obtain⟨k,hk,rfl,hz,hm,hB⟩:=hrel
    clear h1 h2
    by_cases hlt:k < 8
    . have e0:wr.cell? ⟨b,off+k,none⟩=some (.int .i64 (ys.getD k 0)):=(hB.cell (p:=⟨b,off+k,none⟩) hb).trans (HC.out k hlt)
      have HS:=Lib.hid (mixK_step HL.out hlt)
      have HML:=Lib.hid (mixK_length (ys:=ys) HL.out hk)
      have hf:=frozen_of_row wr (w.heap.size+1) k _ _ hm
      have hc1:∃ v,wr.cell? ⟨w.heap.size+1,k,none⟩=some (.int .i64 v):=⟨_,by rw[cell_of_row wr _ k _ _ _ hm,List.getElem?_toArray,iv_get _ k (by rw[HML.out];omega)]⟩
      obtain⟨v,hc1⟩:=hc1
      have HM:=Lib.hid hm
      have HZ:=Lib.hid hz
      have HB:=Lib.hid hB
      clear hm hz hB hob2
      generalize ys.getD k 0=x at *
      go_wp2_with fail
      go_roundw
      case rel =>
        have hn1:(wr.setCell ⟨w.heap.size+1,k,none⟩ (.int .i64 x)).heap[w.heap.size+1]?=some (.cells (iv (mixK ys (k+1))).toArray 161 (0,0)):=by
          rw[← HS.out]
          have:=HM.out
          simp only[World.setCell,Array.getElem?_modify]
          simp[this,← iv_set]
        exact⟨k+1,by omega,by go_num,(Below.heap_setCell _ _ _ _ (by show w.heap.size≠w.heap.size+1;omega)).trans HZ.out,hn1,HB.out.setCell (by show w.heap.size≤w.heap.size+1;omega) _⟩
      case measure=>simp[intOf];omega
    . obtain rfl:k=8:=by omega
      rw[mixK_all HL.out] at hm
      obtain⟨x0,x1,x2,x3,x4,x5,x6,x7,rfl⟩:=list8 HL.out
      have hcm:∀ j,wr.cell? ⟨w.heap.size+1,j,none⟩=(iv [x0,x1,x2,x3,x4,x5,x6,x7]).toArray[j]?:=fun j=>cell_of_row wr _ j _ _ _ hm
      have hfz:∀ j,wr.frozen? ⟨w.heap.size,j,none⟩=false:=fun j=>frozen_of_row wr _ j _ _ hz
      have hcz:∀ j,wr.cell? ⟨w.heap.size,j,none⟩=(iv (List.replicate 8 0)).toArray[j]?:=fun j=>cell_of_row wr _ j _ _ _ hz
      have c0:wr.cell? ⟨w.heap.size+1,0,none⟩=some (.int .i64 x0):=hcm 0
      have c1:wr.cell? ⟨w.heap.size+1,1,none⟩=some (.int .i64 x1):=hcm 1
      have c2:wr.cell? ⟨w.heap.size+1,2,none⟩=some (.int .i64 x2):=hcm 2
      have c3:wr.cell? ⟨w.heap.size+1,3,none⟩=some (.int .i64 x3):=hcm 3
      have c4:wr.cell? ⟨w.heap.size+1,4,none⟩=some (.int .i64 x4):=hcm 4
      have c5:wr.cell? ⟨w.heap.size+1,5,none⟩=some (.int .i64 x5):=hcm 5
      have c6:wr.cell? ⟨w.heap.size+1,6,none⟩=some (.int .i64 x6):=hcm 6
      have c7:wr.cell? ⟨w.heap.size+1,7,none⟩=some (.int .i64 x7):=hcm 7
      have z0:wr.cell? ⟨w.heap.size,0,none⟩=some (.int .i64 0):=hcz 0
      have z1:wr.cell? ⟨w.heap.size,1,none⟩=some (.int .i64 0):=hcz 1
      have z2:wr.cell? ⟨w.heap.size,2,none⟩=some (.int .i64 0):=hcz 2
      have z3:wr.cell? ⟨w.heap.size,3,none⟩=some (.int .i64 0):=hcz 3
      have z4:wr.cell? ⟨w.heap.size,4,none⟩=some (.int .i64 0):=hcz 4
      have z5:wr.cell? ⟨w.heap.size,5,none⟩=some (.int .i64 0):=hcz 5
      have z6:wr.cell? ⟨w.heap.size,6,none⟩=some (.int .i64 0):=hcz 6
      have z7:wr.cell? ⟨w.heap.size,7,none⟩=some (.int .i64 0):=hcz 7
      have f0:=hfz 0
      have f1:=hfz 1
      have f2:=hfz 2
      have f3:=hfz 3
      have f4:=hfz 4
      have f5:=hfz 5
      have f6:=hfz 6
      have f7:=hfz 7
      have HB:=Lib.hid hB
      have HZ:=Lib.hid hz
      clear hcm hcz hm hz hB hfz hob2
      go_wp2_with fail
      obtain⟨q1,q2⟩:=setCells_block w.heap.size 161 [.int .i64 x0,.int .i64 x1,.int .i64 x2,.int .i64 x3,.int .i64 x4,.int .i64 x5,.int .i64 x6,.int .i64 x7] 0 wr (iv (List.replicate 8 0)) HZ.out (Nat.le_refl 8)
      refine bodyPost_ret (v:=arrV [x0,x1,x2,x3,x4,x5,x6,x7]) (results_cell_row rfl _ _ w.heap.size 161 _ (0,0) _ rfl q1 Tryz.underlying161 rfl (by kernel_rfl)) rfl ⟨rfl,?_⟩
      exact HB.out.grown q2 HB.out.size (fun q e=>by cases e;exact Nat.le_refl _)
theorem secW_zero (b:List Int):secW b 0=true:=rfl
theorem secW_other (b:List Int){x:Int}(h:(x == 0)=false)(hw:wordB x=true):secW b x=thereB b (x % 32768):=by unfold secW;rw[h,targetOf_yes hw];rfl
theorem leadsOn_any (A:Option Addr)(n c Bx:Nat)(xs:List Int)(x:Int)(w:World)(hr:Rd w w.heap.size A n xs)(hn:n≤2097152)(hi:imgB xs=true)(hb:w.cell? ⟨Bx,0,none⟩=some (.slice A n c))(hw:wordB x=true) :
    Calls Tryz.prog 177 #[.int .i64 x,.pointer (some ⟨Bx,0,none⟩)] w (RetB w (secW xs x)):=by
  cases hx:(x == 0)
  . have HN:=Lib.hid (secW_other xs hx hw)
    have hB:=World.block_lt_of_cell? w _ hb
    have hrd:Rd w.drew w.drew.heap.size A n xs:=hr
    go_enter Tryz.func177,Tryz.ntmps177
    go_wp2_with fail
    go_region_held3 (fun w'=>w'.cell? ⟨Bx,0,none⟩=some (.slice A n c))
      (first
        | go_keep
        | (exact(b7.cell (p:=⟨Bx,0,none⟩) hB).trans (by assumption)))
      (first
        | (go_at_call 126;refine(entTarget_any _ _ hw).mono ?_;rintro e w7 ⟨rfl,rfl⟩)
        | (go_at_call 124;refine(isThere_any A n c xs _ w.drew hrd hn hi).mono ?_;rintro e w7 ⟨rfl,b7⟩))
    all_goals
      go_wp2_with fail
      go_ret
      rw[HN.out]
      exact⟨rfl,⟨b7.os,b7.tape,b7.output,b7.size,b7.block⟩⟩
  . have HN:Hid (secW xs x=true):=by rw[show x=0 by simpa using hx];exact secW_zero xs
    go_enter Tryz.func177,Tryz.ntmps177
    go_wp2_with fail
    go_quiet (fail)
    go_wp2_with fail
    go_ret
    rw[HN.out]
    exact⟨rfl,⟨rfl,rfl,rfl,Nat.le_refl _,fun _ _=>rfl⟩⟩
theorem run_index_arr {ys:List Int}{k:Nat}(hl:ys.length=8)(hk:k < 8)(w:World):(Instr.index 161 (arrV ys) (.int .i64 (k:Int))).run Tryz.prog w=.ok (.int .i64 (ys.getD k 0)) w:=by
  have h1:(0:Int)≤k∧(k:Int) < (8:Nat):=by omega
  have h2:(iv ys)[k]?=some (.int .i64 (ys.getD k 0)):=iv_get ys k (by omega)
  unfold arrV
  simp[Instr.index,run_underlying Tryz.underlying161,asIntOf,h1,h2,go_sem]
  exact fun h=>absurd h (by omega)
set_option maxRecDepth 100000 in
set_option maxHeartbeats 4000000 in
theorem looksLike_any (A:Option Addr)(n c Bx:Nat)(xs ys:List Int)(w:World)(hr:Rd w w.heap.size A n xs)(hn:n≤2097152)(hi:imgB xs=true)(hb:w.cell? ⟨Bx,0,none⟩=some (.slice A n c))(hl:ys.length=8)(hw:∀ j,j < 8→wordB (ys.getD j 0)=true) :
    Calls Tryz.prog 178 #[arrV ys,.func (.func 177) #[] #[.pointer (some ⟨Bx,0,none⟩)],.func (.func 180) #[] #[]] w (RetB w (ys.all (secW xs) && ys.any ownIn)):=by
  have HW:=Lib.hid hw
  have HR:=Lib.hid hr
  have hB:=World.block_lt_of_cell? w _ hb
  have HBX:=Lib.hid hb
  clear hw hr hb
  obtain⟨x0,x1,x2,x3,x4,x5,x6,x7,hys⟩:=list8 hl
  have HYS:=Lib.hid hys
  have hcm:∀ j,(w.alloc (.cells (iv ys).toArray 161)).cell? ⟨w.heap.size,j,none⟩=(iv [x0,x1,x2,x3,x4,x5,x6,x7]).toArray[j]?:=fun j=>by rw[World.cell?_alloc_new,hys]
  have c0:(w.alloc (.cells (iv ys).toArray 161)).cell? ⟨w.heap.size,0,none⟩=some (.int .i64 x0):=hcm 0
  have c1:(w.alloc (.cells (iv ys).toArray 161)).cell? ⟨w.heap.size,1,none⟩=some (.int .i64 x1):=hcm 1
  have c2:(w.alloc (.cells (iv ys).toArray 161)).cell? ⟨w.heap.size,2,none⟩=some (.int .i64 x2):=hcm 2
  have c3:(w.alloc (.cells (iv ys).toArray 161)).cell? ⟨w.heap.size,3,none⟩=some (.int .i64 x3):=hcm 3
  have c4:(w.alloc (.cells (iv ys).toArray 161)).cell? ⟨w.heap.size,4,none⟩=some (.int .i64 x4):=hcm 4
  have c5:(w.alloc (.cells (iv ys).toArray 161)).cell? ⟨w.heap.size,5,none⟩=some (.int .i64 x5):=hcm 5
  have c6:(w.alloc (.cells (iv ys).toArray 161)).cell? ⟨w.heap.size,6,none⟩=some (.int .i64 x6):=hcm 6
  have c7:(w.alloc (.cells (iv ys).toArray 161)).cell? ⟨w.heap.size,7,none⟩=some (.int .i64 x7):=hcm 7
  have b1:=(Below.refl w.heap.size w).alloc (Nat.le_refl _) (.cells (iv ys).toArray 161)
  have HL:=Lib.hid hl
  clear hcm hys hl
  unfold arrV
  go_enter Tryz.func178,Tryz.ntmps178
  go_wp2_with fail
  clear c0 c1 c2 c3 c4 c5 c6 c7
  generalize (w.alloc (.cells (iv ys).toArray 161))=w1 at *
  have hagg:Value.agg #[.int .i64 x0,.int .i64 x1,.int .i64 x2,.int .i64 x3,.int .i64 x4,.int .i64 x5,.int .i64 x6,.int .i64 x7]=arrV ys:=by rw[HYS.out];rfl
  rw[hagg]
  have HA:Hid (Value.agg (iv ys).toArray=arrV ys):=rfl
  rw[HA.out]
  clear hagg HA HYS
  go_loopw [7,11] (fun f i wr=>∃ k:Nat,k≤8∧i=.int .i64 k∧f=.bool ((ys.take k).any ownIn)∧(ys.take k).all (secW xs)=true∧Below w.heap.size w wr) (fun _ i _=>8 - (intOf i).toNat)
  case atStart=>exact⟨0,by omega,rfl,rfl,rfl,b1⟩
  case round =>
    obtain⟨k,hk,rfl,rfl,hall,hB1⟩:=hrel
    by_cases hlt:k < 8
    . have hix:=fun w=>run_index_arr HL.out hlt w
      have hxw:=HW.out k hlt
      have HNa:=Lib.hid (all_next (secW xs) ys k (by rw[HL.out];exact hlt) hall)
      have HNy:=Lib.hid (any_next ownIn ys k (by rw[HL.out];exact hlt))
      have HF:=Lib.hid (all_fails (secW xs) ys k (by rw[HL.out];exact hlt))
      have HOw:=Lib.hid (show ownIn (ys.getD k 0)=decide (32768≤ys.getD k 0) by unfold ownIn;rw[hxw];rfl)
      generalize ys.getD k 0=x at *
      generalize (ys.take k).any ownIn=fd at *
      go_wp2_with fail
      refine(leadsOn_any A n c Bx xs x wr ((HR.out.below hB1).more hB1.size) hn hi ((hB1.cell (p:=⟨Bx,0,none⟩) hB).trans HBX.out) hxw).mono ?_
      rintro e w2 ⟨rfl,b2⟩
      have B2:=below_more hB1 b2 hB1.size
      cases hsx:secW xs x
      . have HN:Hid ((ys.all (secW xs) && ys.any ownIn)=false):=by rw[HF.out hsx];rfl
        go_wp2_with fail
        go_ret
        rw[HN.out]
        exact⟨rfl,B2⟩
      . rw[hsx] at HNa
        cases fd
        . go_wp2_with fail
          refine(entOwn_any _ _ hxw).mono ?_
          rintro e w3 ⟨rfl,rfl⟩
          go_wp2_with fail
          go_roundw
          case rel=>exact⟨k+1,by omega,by go_num,by rw[HNy.out,HOw.out];rfl,HNa.out,B2⟩
          case measure=>simp[intOf];omega
        . go_wp2_with fail
          go_roundw
          case rel=>exact⟨k+1,by omega,by go_num,by rw[HNy.out];rfl,HNa.out,B2⟩
          case measure=>simp[intOf];omega
    . obtain rfl:k=8:=by omega
      rw[List.take_of_length_le (by rw[HL.out];omega)] at hall
      have HN:Hid ((ys.all (secW xs) && ys.any ownIn)=(ys.take 8).any ownIn):=by rw[hall,List.take_of_length_le (by rw[HL.out];omega)];rfl
      go_wp2_with fail
      go_ret
      rw[HN.out]
      exact⟨rfl,hB1⟩
def LostC:Prop:=∀ (A:Option Addr) (n c:Nat) (xs:List Int) (w:World),Rd w w.heap.size A n xs→n≤2097152→n≤c→Calls Tryz.prog 136 #[.slice A n c] w (Ret w (lostL xs))
def RefoundC:Prop:=∀ (A:Option Addr) (n c:Nat) (xs:List Int) (w:World),Rd w w.heap.size A n xs→n≤2097152→n≤c→Calls Tryz.prog 104 #[.slice A n c] w (Ret w (refoundL xs))
theorem cl_wordB {xs:List Int}(hi:imgB xs=true)(a j:Nat)(hj:j < 8):wordB ((cl xs a).getD j 0)=true:=by
  rw[cl_word_get xs a j hj]
  exact inB_true.2 (word_get hi _)
theorem sec_low {xs:List Int}{a:Int}(h:a < 1):secLikeB xs a=false:=by
  rw[sec_parts,show inB a 1 (((rolesL xs).length:Int) - 1)=false from inB_false.2 (fun hh=>by omega)];rfl
theorem sec_high {xs:List Int}{a:Int}(h:((rolesL xs).length:Int)≤a):secLikeB xs a=false:=by
  rw[sec_parts,show inB a 1 (((rolesL xs).length:Int) - 1)=false from inB_false.2 (fun hh=>by omega)];rfl
theorem sec_role {xs:List Int}{a:Nat}(h:(rolesL xs).getD a 0≠0):secLikeB xs a=false:=by
  rw[sec_parts,Int.toNat_natCast,show ((rolesL xs).getD a 0 == 0)=false by simpa using h,Bool.and_false];rfl
theorem sec_there {xs:List Int}{a:Nat}(h1:1≤a)(h2:a < (rolesL xs).length)(h:(rolesL xs).getD a 0=0):secLikeB xs a=((cl xs a).all (secW xs) && (cl xs a).any ownIn):=by
  rw[sec_parts,Int.toNat_natCast,h,show inB (a:Int) 1 (((rolesL xs).length:Int) - 1)=true from inB_true.2 (by omega)];rfl
set_option maxRecDepth 100000 in
set_option maxHeartbeats 4000000 in
theorem isLost_any (hT:TableC)(A:Option Addr)(n c:Nat)(xs:List Int)(G:Option Addr)(m cg:Nat)(a:Int)(w:World)(hr:Rd w w.heap.size A n xs)(hg:Rd w w.heap.size G m (rolesL xs))(hn:n≤2097152)(hnc:n≤c) :
    Calls Tryz.prog 159 #[.slice A n c,.slice G m cg,.int .i64 a] w (RetB w (secLikeB xs a)):=by
  have hgl:=hg.len
  have b1:=(Below.refl w.heap.size w).alloc (Nat.le_refl _) (.cells #[.slice A n c] 24)
  by_cases h1:a < 1
  . have HN:=Lib.hid (sec_low (xs:=xs) h1)
    go_enter Tryz.func159,Tryz.ntmps159
    go_wp2_with fail
    go_ret
    rw[HN.out]
    exact⟨rfl,b1⟩
  have d1:decide (a < 1)=false:=by simpa using h1
  obtain⟨τ,rfl⟩:=Int.eq_ofNat_of_zero_le (show 0≤a by omega)
  by_cases h2:m≤τ
  . have HN:=Lib.hid (sec_high (xs:=xs) (a:=(τ:Int)) (by rw[hgl];omega))
    go_enter Tryz.func159,Tryz.ntmps159
    go_wp2_with fail
    go_ret
    rw[HN.out]
    exact⟨rfl,b1⟩
  have d2:decide ((m:Int)≤(τ:Int))=false:=by simp;omega
  obtain⟨b,off,rfl,hb,hc⟩:=hg.2 (by omega)
  have hcell:=hc τ (by omega)
  have hc2:(w.alloc (.cells #[.slice A n c] 24)).cell? ⟨b,off+τ,none⟩=some (.int .i64 ((rolesL xs).getD τ 0)):=by rw[World.cell?_alloc_lt _ _ ⟨b,off+τ,none⟩ hb];exact hcell
  have HS1:=Lib.hid (fun h=>sec_role (xs:=xs) (a:=τ) h)
  have HS2:=Lib.hid (fun h=>sec_there (xs:=xs) (a:=τ) (by omega) (by rw[hgl];omega) h)
  have hrm:=roles_many (b:=xs) (by rw[hgl];omega)
  clear hc hg hcell
  generalize (rolesL xs).getD τ 0=rv at *
  by_cases h3:rv=0
  . subst h3
    have d3:((0:Int) != 0)=false:=by simp
    have HN:=Lib.hid (HS2.out rfl)
    have hth:thereB xs (τ:Int)=true:=inB_true.2 (by rw[← hrm.2,hgl];omega)
    have HT:=Lib.hid (tableL_in hrm.1 hth)
    rw[Int.toNat_natCast] at HT
    have x1:(w.alloc (.cells #[.slice A n c] 24)).cell? ⟨w.heap.size,0,none⟩=some (.slice A n c):=by rw[World.cell?_alloc_new];rfl
    have hr1:=(hr.below b1).more b1.size
    have HR:=Lib.hid hrm
    clear HS1 HS2 hrm hth hgl
    go_enter Tryz.func159,Tryz.ntmps159
    go_wp2_with fail
    generalize (w.alloc (.cells #[.slice A n c] 24))=w1 at *
    refine(hT A n c xs (τ:Int) w1 hr1 hn hnc).mono ?_
    rw[HT.out]
    rintro e w2 ⟨C,nc,cc,rfl,oC,b2⟩
    obtain rfl:8=nc:=by have:=oC.len;rw[cl_length] at this;exact this
    have b02:=below_more b1 b2 b1.size
    have x2:=(b2.cell (p:=⟨w.heap.size,0,none⟩) (World.block_lt_of_cell? w1 _ x1)).trans x1
    go_wp2_with fail
    refine(entriesOf_any C cc _ w2 oC.rd).mono ?_
    rintro e w3 ⟨rfl,b3⟩
    have b03:=below_more b02 b3 b02.size
    have x3:=(b3.cell (p:=⟨w.heap.size,0,none⟩) (World.block_lt_of_cell? w2 _ x2)).trans x2
    go_wp2_with fail
    refine(looksLike_any A n c w.heap.size xs (cl xs τ) w3 ((hr.below b03).more b03.size) hn (hasHead_img HR.out.1) x3 (cl_length xs τ) (fun j hj=>cl_wordB (hasHead_img HR.out.1) τ j hj)).mono ?_
    rintro e w4 ⟨rfl,b4⟩
    go_wp2_with fail
    go_ret
    rw[HN.out]
    exact⟨rfl,below_more b03 b4 b03.size⟩
  . have d3:(rv != 0)=true:=by simpa using h3
    have HN:=Lib.hid (HS1.out h3)
    go_enter Tryz.func159,Tryz.ntmps159
    go_wp2_with fail
    go_ret
    rw[HN.out]
    exact⟨rfl,b1⟩
theorem slotsUsed_any (s:Int)(w:World)(h0:0≤s)(h1:s≤64) :
    Calls Tryz.prog 158 #[.int .i64 s] w fun e w'=>e=.returned (.int .i64 ((s+7) / 8))∧w=w':=by
  have HE:=Lib.hid (show (s+8 - 1) / 8=(s+7) / 8 by omega)
  go_enter Tryz.func158,Tryz.ntmps158
  go_wp2_with fail
  go_ret
  exact⟨ret_int (by omega),rfl⟩
def lostF (b:List Int)(k:Nat):List Int:=(List.range (k - 1)).foldl (lostStep b) []
theorem lostF_all (b:List Int):lostF b (rolesL b).length=lostL b:=rfl
theorem lostF_short (b:List Int)(k:Nat):(lostF b k).length≤k:=by have:=lost_short b (k - 1);unfold lostF;omega
theorem lostF_step (b:List Int)(k:Nat):lostF b (k+1)=if secLikeB b (k:Int)=true∧((lostF b k).length:Int) < ((headIn b).1.size+7) / 8 then lostF b k++[(k:Int)] else lostF b k:=by
  cases k with
  | zero =>
    rw[sec_low (show ((0:Nat):Int) < 1 by omega),if_neg (fun h=>by cases h.1)]
    rfl
  | succ k =>
    show (List.range (k+1)).foldl (lostStep b) []=_
    rw[List.range_succ,List.foldl_append]
    show lostStep b (lostF b (k+1)) k=_
    unfold lostStep
    rw[show ((k+1:Nat):Int)=(k:Int)+1 by omega]
set_option maxRecDepth 100000 in
set_option maxHeartbeats 4000000 in
theorem implLost_any (hT:TableC)(hRo:RolesC):LostC:=by
  intro A n c xs w h hn hnc
  obtain⟨i0,hi0,hz0,hz1,hz2⟩:=info_parts info2
  go_enter Tryz.func136,Tryz.ntmps136
  go_wp2_with fail
  refine(implHeadIn_any A n c xs w h hn).mono ?_
  rintro e w1 ⟨rfl,b1⟩
  have HST:=Lib.hid (fun k=>lostF_step xs k)
  have HSH:=Lib.hid (fun k=>lostF_short xs k)
  have HAL:=Lib.hid (lostF_all xs)
  have h64:=rolesL_length (xs:=xs)
  have HSZ:Hid (0≤(headIn xs).1.size∧(headIn xs).1.size≤64):=by
    cases hh:hasHead xs
    . rw[headIn_no hh];simp[hd0,Hid]
    . rw[headIn_yes hh];have:=(headB_all (hasHead_ok hh)).1;exact⟨by simp only;omega,by simp only;omega⟩
  generalize headIn xs=r at *
  obtain⟨⟨s,f,r,u,m⟩,is⟩:=r
  have hsz2:=HSZ.out
  simp only at hsz2
  unfold hdV
  have y2:HBox (w1.alloc (.cells #[.int .i64 s,.int .i64 f,.int .i64 r,.int .i64 u,.int .i64 m] 31)) w1.heap.size ⟨s,f,r,u,m⟩:=HBox.new w1 ⟨s,f,r,u,m⟩
  have b2:=b1.alloc b1.size (.cells #[.int .i64 s,.int .i64 f,.int .i64 r,.int .i64 u,.int .i64 m] 31)
  clear HSZ
  go_wp2_with fail
  generalize (w1.alloc (.cells #[.int .i64 s,.int .i64 f,.int .i64 r,.int .i64 u,.int .i64 m] 31))=w2 at *
  refine(hRo A n c xs w2 ((h.below b2).more b2.size) hn hnc).mono ?_
  rintro e w3 ⟨G,ng,cg,rfl,oG,b3⟩
  have b03:=below_more b2 b3 b2.size
  have y3:=y2.keep (b3.block _ y2.lt)
  have hng:=oG.len
  have hrd:=oG.rd
  rw[hng] at HAL h64
  have HR:=Lib.hid hrd
  clear hrd oG y2 b2 b3 b1
  go_wp2_with fail
  go_loopw [6,17] (fun v i wr=>∃ (k c':Nat) (A':Option Addr),k≤ng∧i=.int .i64 k∧v=.slice A' (lostF xs k).length c'∧OwR 2 1 wr w3.heap.size wr.heap.size A' (lostF xs k).length c' (iv (lostF xs k))∧Below w3.heap.size w3 wr) (fun _ i _=>ng - (intOf i).toNat)
  case atStart=>exact⟨0,0,none,Nat.zero_le _,rfl,rfl,OwR.nil _ _ _ _ _,Below.refl _ _⟩
  case round =>
    obtain⟨k,c',A',hk,rfl,rfl,ho,hB⟩:=hrel
    have hsh:=HSH.out k
    have sr:=hB.size
    by_cases hlt:k < ng
    . have HSk:=Lib.hid (HST.out k)
      have q0:wr.cell? ⟨w1.heap.size,0,none⟩=some (.int .i64 s):=(hB.cell (p:=⟨w1.heap.size,0,none⟩) y3.lt).trans (y3.cell 0)
      generalize lostF xs k=fs at *
      have hBB:=below_more b03 hB b03.size
      have hr4:=(h.below hBB).more hBB.size
      have hg4:=(HR.out.below hB).more sr
      have hu0:0≤s:=by omega
      have hu1:s≤64:=by omega
      go_wp2_with fail
      refine(slotsUsed_any s wr hu0 hu1).mono ?_
      rintro e w' ⟨rfl,rfl⟩
      by_cases hq:(fs.length:Int) < (s+7) / 8
      . have d2:decide ((fs.length:Int) < (s+7) / 8)=true:=by simpa using hq
        go_wp2_with fail
        refine(isLost_any hT A n c xs G ng cg (k:Int) wr hr4 hg4 hn hnc).mono ?_
        rintro e w4 ⟨rfl,b4⟩
        have s4:=b4.size
        have B4:=below_more hB b4 hB.size
        have ho4:=ho.below b4 (Nat.le_refl _)
        cases hsl:secLikeB xs (k:Int)
        . have HE:Hid (lostF xs (k+1)=fs):=by rw[HSk.out,hsl];simp[Hid]
          clear HSk hsl
          go_wp2_with fail
          go_roundw
          case rel=>exact⟨k+1,c',A',by omega,by go_num,by rw[HE.out],by rw[HE.out];exact ho4.more (Nat.le_refl _) (by omega),B4⟩
          case measure=>simp[intOf];omega
        . have HE:Hid (lostF xs (k+1)=fs++[(k:Int)]):=by rw[HSk.out,hsl,if_pos ⟨rfl,hq⟩];exact rfl
          clear HSk hsl hq
          have ho5:=ho4.more (lo':=w3.heap.size) (hi':=w4.heap.size) (Nat.le_refl _) (by omega)
          go_wp2_with (at_builtin;refine wpList_append_r rfl (.tmp 32) (.tmp 34) 24 rfl 2 1 8 _ i0 Tryz.underlying24 hi0 hz0 hz1 hz2 rfl (by omega) (by omega) w3.heap.size w4.heap.size fs.length c' A' _ rfl ho5 #[.int .i64 (k:Int)] 1 1 w4.heap.size rfl rfl (by omega) rfl (by simp[Value.oneCell']) (by omega) (by omega) ?_;intro g5 cd w5 ho6 hb5)
          go_roundw
          case rel =>
            refine⟨k+1,cd,some ⟨g5,0,none⟩,by omega,by go_num,by rw[HE.out];simp,?_,⟨hb5.os.trans B4.os,hb5.tape.trans B4.tape,hb5.output.trans B4.output,Nat.le_trans B4.size hb5.size,fun q hq=>(hb5.block q hq).trans (B4.block q hq)⟩⟩
            rw[HE.out,← iv_one,List.length_append]
            exact ho6
          case measure=>simp[intOf];omega
      . have d2:decide ((fs.length:Int) < (s+7) / 8)=false:=by simpa using hq
        have HE:Hid (lostF xs (k+1)=fs):=by rw[HSk.out,if_neg (fun h=>hq h.2)];exact rfl
        clear HSk hq
        go_wp2_with fail
        go_roundw
        case rel=>exact⟨k+1,c',A',by omega,by go_num,by rw[HE.out],by rw[HE.out];exact ho,hB⟩
        case measure=>simp[intOf];omega
    . obtain rfl:k=ng:=by omega
      have HE:lostF xs k=lostL xs:=HAL.out
      rw[HE] at ho ⊢
      go_wp2_with fail
      go_ret
      exact⟨A',_,c',rfl,⟨(ho.more b03.size (Nat.le_refl _)).own,(ho.more b03.size (Nat.le_refl _)).top⟩,below_more b03 hB b03.size⟩
theorem boxS_keep {w w':World}{B g:Nat}{a0 a1 a2 a3 a4:Value}(hb:Below B w w')(hg:g < B)(h0:w.cell? ⟨g,0,none⟩=some a0)(h1:w.cell? ⟨g,1,none⟩=some a1)(h2:w.cell? ⟨g,2,none⟩=some a2)(h3:w.cell? ⟨g,3,none⟩=some a3)(h4:w.cell? ⟨g,4,none⟩=some a4) :
    w'.cell? ⟨g,0,none⟩=some a0∧w'.cell? ⟨g,1,none⟩=some a1∧w'.cell? ⟨g,2,none⟩=some a2∧w'.cell? ⟨g,3,none⟩=some a3∧w'.cell? ⟨g,4,none⟩=some a4 :=
  ⟨(hb.cell (p:=⟨g,0,none⟩) hg).trans h0,(hb.cell (p:=⟨g,1,none⟩) hg).trans h1,(hb.cell (p:=⟨g,2,none⟩) hg).trans h2,(hb.cell (p:=⟨g,3,none⟩) hg).trans h3,(hb.cell (p:=⟨g,4,none⟩) hg).trans h4⟩
theorem lost_some {b:List Int}{x:Int}:∀ k:Nat,x ∈ (List.range k).foldl (lostStep b) []→1≤x∧x≤k
  | 0,h=>by simp at h
  | k+1,h=>by
    rw[List.range_succ,List.foldl_append] at h
    have ih:=lost_some (b:=b) (x:=x) k
    change x ∈ lostStep b ((List.range k).foldl (lostStep b) []) k at h
    unfold lostStep at h ih
    split at h
    . rw[List.mem_append,List.mem_singleton] at h
      rcases h with h | rfl
      . have:=ih h;omega
      . omega
    . have:=ih h;omega
theorem entry_word {t:Int}(h0:0≤t)(h1:t≤32767):wordB (entryOf t true)=true:=by
  unfold entryOf
  rw[if_pos (inB_true.2 ⟨h0,h1⟩),if_pos rfl]
  exact inB_true.2 (by omega)
theorem lostT_ok (b:List Int):eightB (lostT b)=true:=by
  unfold eightB lostT wordsB
  rw[Bool.and_eq_true,decide_eq_true_eq,List.all_eq_true]
  refine⟨by simp,fun x hx=>?_⟩
  rw[List.mem_map] at hx
  obtain⟨i,_,rfl⟩:=hx
  split
  . rename_i hi
    have hmem:(lostL b).getD i 0 ∈ lostL b:=by
      rw[List.getD_eq_getElem?_getD,List.getElem?_eq_getElem hi]
      exact List.getElem_mem hi
    have h1:=lost_some _ hmem
    have h2:=rolesL_length (xs:=b)
    exact entry_word (by omega) (by omega)
  . rfl
theorem headW_ok {h:Hd}(hb:headB h=true):eightB (hdW h)=true:=by
  obtain⟨h1,h2,h3,h4,h5⟩:=headB_all hb
  simp only[eightB,hdW,List.length_cons,List.length_nil,List.all_cons,List.all_nil,wordsB,wordB,inB,Bool.and_eq_true,decide_eq_true_eq]
  simp
  omega
theorem head_first {h:Hd}(hb:headB h=true){x:Int}(h0:0≤x)(h1:x≤65535):headB { h with first:=x }=true:=by
  obtain⟨h1,h2,h3,h4,h5⟩:=headB_all hb
  simp only[headB,wordB,inB,Bool.and_eq_true,decide_eq_true_eq]
  omega
theorem setCl_swap {zs h8 l:List Int}{m:Nat}(hz:zs.length=m * 8)(hm:0 < m)(h:h8.length=8):setCl (setCl zs 0 h8) m l=setCl (setCl zs m l) 0 h8:=by
  have e1:(h8++zs.drop 8).length=m * 8:=by simp[h,hz];omega
  unfold setCl
  simp only[Nat.zero_mul,List.take_zero,List.nil_append,Nat.zero_add,Nat.one_mul]
  rw[List.take_of_length_le (by omega),List.drop_of_length_le (l:=h8++zs.drop 8) (by omega),List.take_of_length_le (l:=zs) (by omega),List.drop_of_length_le (l:=zs) (i:=(m+1) * 8) (by omega),List.append_nil,List.append_nil,List.drop_append_of_le_length (by omega),List.append_assoc]
theorem refound_with {xs:List Int}(hh:hasHead xs=true):(withHead xs { headOf xs with first:=manyN xs }).length=manyN xs * 8∧withL (withHead xs { headOf xs with first:=manyN xs }) (manyN xs) (lostT xs)=refoundL xs:=by
  have hi:=hasHead_img hh
  have hm:=manyN_le hi
  have hp:=whole_pos hh
  have hb:headB { headOf xs with first:=(manyN xs:Int) }=true:=head_first (hasHead_ok hh) (by omega) (by omega)
  have e8:=headW_ok hb
  have t8:=lostT_ok xs
  have hw:withHead xs { headOf xs with first:=(manyN xs:Int) }=setCl (whole xs) 0 (hdW { headOf xs with first:=(manyN xs:Int) }):=by
    rw[withHead_yes hb]
    unfold withL withB
    rw[hi,e8,show inB 0 0 (manyN xs)=true from inB_true.2 (by omega)]
    rfl
  rw[hw]
  have hW:=whole_length xs
  have hl:(setCl (whole xs) 0 (hdW { headOf xs with first:=(manyN xs:Int) })).length=manyN xs * 8:=by
    rw[setCl_length (by rw[hW];omega) (by omega) rfl,if_neg (by rw[hW];omega),hW]
  refine⟨hl,?_⟩
  have himg:imgB (setCl (whole xs) 0 (hdW { headOf xs with first:=(manyN xs:Int) }))=true:=by
    refine setCl_img (img_whole hi) ?_ (by rw[hl];omega)
    intro x hx
    have:=(Bool.and_eq_true _ _ ▸ e8).2
    exact(List.all_eq_true.1 this) x hx
  have hmm:manyN (setCl (whole xs) 0 (hdW { headOf xs with first:=(manyN xs:Int) }))=manyN xs:=by
    show (_+7) / 8=_
    rw[hl];omega
  have hwh:whole (setCl (whole xs) 0 (hdW { headOf xs with first:=(manyN xs:Int) }))=setCl (whole xs) 0 (hdW { headOf xs with first:=(manyN xs:Int) }):=by
    unfold whole
    rw[show (setCl (xs++List.replicate ((xs.length+7) / 8 * 8 - xs.length) 0) 0 (hdW { headOf xs with first:=(manyN xs:Int) })).length=manyN xs * 8 from hl,show (manyN xs * 8+7) / 8 * 8 - manyN xs * 8=0 by omega]
    simp
  unfold withL withB refoundL moreL
  rw[himg,t8,hmm,hwh,show inB (manyN xs:Int) 0 (manyN xs)=true from inB_true.2 (by omega),hh]
  by_cases h64:manyN xs < 64
  . rw[if_pos (by simp;omega),if_pos ⟨rfl,h64⟩,Int.toNat_natCast]
    exact setCl_swap hW hp rfl
  . rw[if_neg (by simp;omega),if_neg (fun h=>h64 h.2)]
set_option maxRecDepth 100000 in
set_option maxHeartbeats 8000000 in
theorem implRefound_any (hLs:LostC):RefoundC:=by
  intro A n c xs w h hn hnc
  obtain⟨i0,hi0,hz0,hz1,hz2⟩:=info_parts info2
  have HL:=Lib.hid h.len
  go_enter Tryz.func104,Tryz.ntmps104
  go_wp2_with fail
  refine(implHeadIn_any A n c xs w h hn).mono ?_
  rintro e w1 ⟨rfl,b1⟩
  generalize hr:headIn xs=r
  obtain⟨⟨s,f,r,u,m⟩,is⟩:=r
  have HR:=Lib.hid hr
  clear hr
  unfold hdV
  have b2:=b1.alloc b1.size (.cells #[.int .i64 s,.int .i64 f,.int .i64 r,.int .i64 u,.int .i64 m] 31)
  cases is
  . have HN:Hid (refoundL xs=[]):=by unfold refoundL;rw[if_neg (fun e=>by rw[(headIn_false HR.out).1] at e;cases e.1)];exact rfl
    go_wp2_with fail
    go_ret
    rw[HN.out]
    exact Ret.nil _ _ b2
  have HY:=Lib.hid (headIn_true HR.out)
  have hmm:=manyN_le (hasHead_img HY.out.1)
  have HN:=Lib.hid (refound_with HY.out.1)
  rw[HY.out.2] at HN
  simp only at HN
  have HMI:Hid (manyI xs=(manyN xs:Int)):=by unfold manyI;rw[hasHead_img HY.out.1];exact if_pos rfl
  have y2:HBox (w1.alloc (.cells #[.int .i64 s,.int .i64 f,.int .i64 r,.int .i64 u,.int .i64 m] 31)) w1.heap.size ⟨s,f,r,u,m⟩:=HBox.new w1 ⟨s,f,r,u,m⟩
  have hb1:=b1.size
  clear HR HY
  generalize manyN xs=mn at *
  have e2:(w1.alloc (.cells #[.int .i64 s,.int .i64 f,.int .i64 r,.int .i64 u,.int .i64 m] 31)).heap.size=w1.heap.size+1:=by simp
  have HE2:=Lib.hid e2
  go_wp2_with (at_make;refine wpList_make_full _ rfl _ _ 24 rfl (w1.alloc (.cells #[.int .i64 s,.int .i64 f,.int .i64 r,.int .i64 u,.int .i64 m] 31)).heap.size 2 i0 (.int .i64 0) 1 Tryz.underlying24 hi0 hz0 hz1 .i64 .i64 _ _ 8 rfl rfl rfl rfl (by rw[hz2];omega) (by simp only[maxLen];omega) (Nat.le_refl _) ?_;intro w3 hown hg3;rw[made_iv] at hown)
  generalize (w1.alloc (.cells #[.int .i64 s,.int .i64 f,.int .i64 r,.int .i64 u,.int .i64 m] 31))=w2 at *
  have y2l:=y2.lt
  clear e2
  have b3:Below w2.heap.size w2 w3:=below_grown hg3 (Nat.le_refl _) (fun _ h=>by cases h)
  have ot:=zeros_ow hown
  have hltt:=ow_lt ot
  have b03:=below_more b2 b3 b2.size
  have s3:=b3.size
  have y3:=y2.keep (b3.block _ y2l)
  clear hown hg3
  refine(hLs A n c xs w3 ((h.below b03).more b03.size) hn hnc).mono ?_
  rintro e w4 ⟨Al,nl,cl',rfl,oL,b4⟩
  have s4:=b4.size
  have b04:=below_more b03 b4 b03.size
  have y4:=y3.keep (b4.block _ (by omega))
  have ot4:=ot.below b4 (by omega)
  have hnl:=oL.len
  have h8:=lost_len xs
  rw[hnl] at h8
  have HLc:Hid (∀ j,j < nl→∃ gl,Al=some ⟨gl,0,none⟩∧w3.heap.size≤gl∧w4.cell? ⟨gl,j,none⟩=some (.int .i64 ((lostL xs).getD j 0))):=fun j hj=>by
    rcases oL.form with ⟨_,h0,_⟩ | ⟨g,rfl,h1,_⟩
    . omega
    . exact⟨g,rfl,h1,oL.cell hj⟩
  have HT:Hid (setLost (lostL xs) nl=lostT xs):=by rw[← hnl];exact setLost_all (by omega)
  have hb2:=b2.size
  clear oL b3 b4 ot y2 y3 b03 hnl b1 b2
  have hsz2:=HE2.out
  rw[hsz2] at ot4
  have hgt3:w1.heap.size+1 < w3.heap.size:=by rw[← hsz2];exact hltt
  obtain⟨gt,hgt⟩:∃ gt,gt=w1.heap.size+1:=⟨_,rfl⟩
  rw[← hgt]
  rw[← hgt] at ot4 hgt3
  have hg1:w1.heap.size < gt:=by omega
  clear hsz2 HE2 hb2 y2l s3 hltt hgt
  generalize lostL xs=L at *
  go_wp2_with fail
  go_loopw [19] (fun i wr=>∃ k:Nat,k≤nl∧i=.int .i64 k∧Ow wr gt (gt+1) (some ⟨gt,0,none⟩) 8 8 (setLost L k)∧w4.grownBy wr (some gt)) (fun i _=>nl - (intOf i).toNat)
  case atStart=>exact⟨0,Nat.zero_le _,rfl,ot4,grown_refl _ _⟩
  case round =>
    obtain⟨k,hk,rfl,ho,hg⟩:=hrel
    have sr:=hg.size
    by_cases hlt:k < nl
    . obtain⟨gl,rfl,hgl,hcl⟩:=HLc.out k hlt
      have e0:wr.cell? ⟨gl,k,none⟩=some (.int .i64 (L.getD k 0)):=hg.cell hcl (fun e=>by injection e with e;have:gl=gt:=e;omega)
      have HS:Hid (setLost L (k+1)=(setLost L k).set k (entryOf (L.getD k 0) true)):=range_next _ _ _
      have hcc:=ho.cell (show k < 8 by omega)
      have hff:=ho.free k
      have HSt:=Lib.hid (ho.set k (entryOf (L.getD k 0) true))
      clear hcl
      generalize L.getD k 0=x at *
      go_wp2_with fail
      refine(implEntry_any _ _ _).mono ?_
      rintro e w' ⟨rfl,rfl⟩
      generalize entryOf x true=y at *
      go_wp2_with fail
      go_roundw
      case rel =>
        obtain⟨h1,h2⟩:=HSt.out
        exact⟨k+1,by omega,by go_num,by rw[HS.out];exact h1,grown_trans hg h2⟩
      case measure=>simp[intOf];omega
    . obtain rfl:k=nl:=by omega
      rw[HT.out] at ho
      have yr:=y4.keep (hg.block _ (by omega) (fun e=>by injection e with e;omega))
      have br:=b04.grown hg b04.size (fun q e=>by cases e;omega)
      clear hg HT HLc y4 b04 ot4
      go_wp2_with fail
      refine(implClin_any A n c xs wr ((h.below br).more br.size) hn).mono ?_
      rintro e w5 ⟨rfl,b5⟩
      rw[HMI.out]
      have y5:=yr.keep (b5.block _ yr.lt)
      have br5:=below_more br b5 br.size
      have c1:=y5.cell 1
      have f1:=y5.free 1
      have yp:=y5.put1 (mn:Int)
      have hgtw:=ow_lt ho
      have s5:=b5.size
      have ho5:=ho.below b5 (by omega)
      have of:Ow (w5.setCell ⟨w1.heap.size,1,none⟩ (.int .i64 (mn:Int))) gt (gt+1) (some ⟨gt,0,none⟩) 8 8 (lostT xs):=ho5.keep (fun q h1 _ _=>Below.heap_setCell _ _ _ _ (by show q≠w1.heap.size;omega))
      have bf:Below w.heap.size w (w5.setCell ⟨w1.heap.size,1,none⟩ (.int .i64 (mn:Int))):=br5.setCell hb1 _
      have sf:(w5.setCell ⟨w1.heap.size,1,none⟩ (.int .i64 (mn:Int))).heap.size=w5.heap.size:=by simp[World.setCell]
      clear ho yr br b5 y5 br5 ho5
      go_wp2_with fail
      generalize w5.setCell ⟨w1.heap.size,1,none⟩ (.int .i64 (mn:Int))=wf at *
      have p0:wf.cell? ⟨w1.heap.size,0,none⟩=some (.int .i64 s):=yp.cell 0
      have p1:wf.cell? ⟨w1.heap.size,1,none⟩=some (.int .i64 (mn:Int)):=yp.cell 1
      have p2:wf.cell? ⟨w1.heap.size,2,none⟩=some (.int .i64 r):=yp.cell 2
      have p3:wf.cell? ⟨w1.heap.size,3,none⟩=some (.int .i64 u):=yp.cell 3
      have p4:wf.cell? ⟨w1.heap.size,4,none⟩=some (.int .i64 m):=yp.cell 4
      have ypl:=yp.lt
      have hrd:Rd wf.drew wf.drew.heap.size A n xs:=(h.below bf).more bf.size
      have hrt:Rd wf (gt+1) (some ⟨gt,0,none⟩) 8 (lostT xs):=of.rd
      have hgf:gt+1≤wf.heap.size:=by omega
      clear c1 f1 of sf yp
      go_region_held3 (fun w'=>w'.cell? ⟨w1.heap.size,0,none⟩=some (.int .i64 s)∧w'.cell? ⟨w1.heap.size,1,none⟩=some (.int .i64 (mn:Int))∧w'.cell? ⟨w1.heap.size,2,none⟩=some (.int .i64 r)∧w'.cell? ⟨w1.heap.size,3,none⟩=some (.int .i64 u)∧w'.cell? ⟨w1.heap.size,4,none⟩=some (.int .i64 m))
        (first
          | go_keep
          | (go_split_ands;exact boxS_keep b8 (Nat.lt_of_lt_of_le ypl b7.size) (by assumption) (by assumption) (by assumption) (by assumption) (by assumption))
          | (go_split_ands;exact boxS_keep b7 ypl (by assumption) (by assumption) (by assumption) (by assumption) (by assumption)))
        (first
          | (go_at_call 139;refine(implWithHead_any A n c xs ⟨s,(mn:Int),r,u,m⟩ wf.drew hrd hn).mono ?_;rintro e w7 ⟨g7,n7,c7,rfl,o7,b7⟩)
          | (go_at_call 138;refine(implWcl_any g7 n7 c7 _ (mn:Int) (some ⟨gt,0,none⟩) 8 8 (lostT xs) w7 o7.rd ((hrt.below (w':=w7) ⟨b7.os,b7.tape,b7.output,b7.size,fun q hq=>b7.block q (Nat.lt_of_lt_of_le hq hgf)⟩).more (Nat.le_trans hgf b7.size)) (by have:=o7.len;rw[HN.out.1] at this;omega) (by omega)).mono ?_;rintro e w8 ⟨G8,n8,c8,rfl,o8,b8⟩))
      all_goals
        replace b7:Below wf.heap.size wf w7:=⟨b7.os,b7.tape,b7.output,b7.size,b7.block⟩
        have b07:=below_more bf b7 bf.size
        have b08:=below_more b07 b8 b07.size
        rw[HN.out.2] at o8
        go_wp2_with fail
        go_ret
        exact⟨G8,n8,c8,rfl,o8.more b07.size (Nat.le_refl _),b08⟩
theorem implLost_all:LostC:=implLost_any implTable_any implRoles_all
theorem implRefound_all:RefoundC:=implRefound_any implLost_all
end Go.Proofs.YtibokhkohanoaabGreatDoor
