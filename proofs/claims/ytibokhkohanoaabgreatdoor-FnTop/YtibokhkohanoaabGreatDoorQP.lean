/- The exact laws of chapter 5, walked, given what the program's own functions answer. Places (chapter 5): the program's side. Contents and names (chapter 10): the program's side. -/
import Derived.Test.YtibokhkohanoaabGreatDoorG8
import Derived.Test.YtibokhkohanoaabGreatDoorG0
import Derived.Test.YtibokhkohanoaabGreatDoorQ7
import Derived.Test.YtibokhkohanoaabGreatDoorQL
import Derived.WalkMore
namespace Go.Proofs.YtibokhkohanoaabGreatDoor
open Go.RowKit
def slotL (xs:List Int)(t s:Int):Int:=if inB s 0 (((tableL xs t).length:Int) - 1) then (tableL xs t).getD s.toNat 0 else 0
theorem slotInFirst_any (p:Int)(w:World)(h0:0≤p)(h1:p≤64):Calls Tryz.prog 91 #[.int .i64 p] w fun e w'=>e=.returned (.int .i64 (p / 8))∧w=w':=by
  go_enter Tryz.func91,Tryz.ntmps91
  go_wp2
  go_ret
  exact⟨rfl,rfl⟩
theorem slotInSecond_any (p:Int)(w:World)(h0:0≤p)(h1:p≤64):Calls Tryz.prog 92 #[.int .i64 p] w fun e w'=>e=.returned (.int .i64 (p % 8))∧w=w':=by
  go_enter Tryz.func92,Tryz.ntmps92
  go_wp2
  go_ret
  exact⟨rfl,rfl⟩
theorem slotL_second {xs:List Int}{t g:Int}:slotL xs t (g % 8)=(tableL xs t).getD (g % 8).toNat 0:=by
  unfold slotL
  rcases tableL_length xs t with h | h
  . rw[if_neg (by rw[inB_true];omega),List.eq_nil_of_length_eq_zero h];rfl
  . rw[if_pos (by rw[inB_true];omega)]
def restL (xs:List Int)(a b k:Nat)(t:Int):List Int :=
  if k=0 then orZero (tableL xs (targetOf (slotL xs (targetOf (slotL xs t a)) b)))
  else if k=1 then orZero (tableL xs (targetOf (slotL xs t b)))
  else orZero (tableL xs t)
theorem target_zero:targetOf 0=0:=by decide
theorem table_zero (xs:List Int):tableL xs 0=[]:=by
  unfold tableL
  rw[if_neg (fun h=>by have:=inB_true.1 h.2;omega)]
theorem slot_none {xs:List Int}{t s:Int}(h:tableL xs t=[]):slotL xs t s=0:=by
  unfold slotL
  rw[h,if_neg (by rw[inB_true];simp;omega)]
theorem rest_none {xs:List Int}{a b k:Nat}{t:Int}(h:tableL xs t=[]):restL xs a b k t=List.replicate 8 0:=by
  unfold restL
  split
  . rw[slot_none h,target_zero,slot_none (table_zero xs),target_zero,table_zero];rfl
  . split
    . rw[slot_none h,target_zero,table_zero];rfl
    . rw[h];rfl
theorem slot_there {xs:List Int}{t:Int}{s:Nat}(h:(tableL xs t).length=8)(hs:s < 8):slotL xs t s=(tableL xs t).getD s 0:=by
  unfold slotL
  rw[if_pos (by rw[inB_true];omega),Int.toNat_natCast]
set_option maxRecDepth 100000 in
set_option maxHeartbeats 2000000 in
theorem readUnder_any (A:Option Addr)(n c:Nat)(xs:List Int)(t:Int)(a b:Nat)(g:Int)(w:World)(h:Rd w w.heap.size A n xs)(hn:n≤2097152)(hnc:n≤c)(ha:a < 8)(hb:b < 8)(hga:g / 8=a)(hgb:g % 8=b)(h0:0≤g)(h1:g≤64) :
    Calls Tryz.prog 45 #[.slice A n c,.int .i64 t,.int .i64 g] w (Ret w (restL xs a b 0 t)):=by
  obtain⟨i0,hi0,hz0,hz1,hz2⟩:=info_parts info2
  obtain⟨ys,hys⟩:∃ ys,ys=restL xs a b 0 t:=⟨_,rfl⟩
  rw[← hys]
  have HYS:=Lib.hid hys
  have HA:=Lib.hid hga
  have HB:=Lib.hid hgb
  clear hys hga hgb
  go_enter Tryz.func45,Tryz.ntmps45
  go_wp2_with fail
  go_step3
  go_wp2_with fail
  refine(slotInFirst_any g w h0 h1).mono ?_
  rintro e w' ⟨rfl,rfl⟩
  rw[HA.out]
  go_wp2_with fail
  refine(slotInSecond_any g w h0 h1).mono ?_
  rintro e w' ⟨rfl,rfl⟩
  rw[HB.out]
  have b1:=(Below.refl w.heap.size w).alloc (Nat.le_refl _) (.cells #[.int .i64 a,.int .i64 b] 2)
  have hs1:(w.alloc (.cells #[.int .i64 a,.int .i64 b] 2)).heap.size=w.heap.size+1:=by simp
  have p0:(w.alloc (.cells #[.int .i64 a,.int .i64 b] 2)).cell? ⟨w.heap.size,0,none⟩=some (.int .i64 a):=by rw[World.cell?_alloc_new];rfl
  have p1:(w.alloc (.cells #[.int .i64 a,.int .i64 b] 2)).cell? ⟨w.heap.size,1,none⟩=some (.int .i64 b):=by rw[World.cell?_alloc_new];rfl
  go_wp2_with fail
  go_step3
  go_wp2_with fail
  go_loopw [1,7] (fun i v wr=>∃ (k off:Nat) (t':Int),k≤2∧(k < 2→off=k)∧i=.int .i64 t'∧v=.slice (some ⟨w.heap.size,off,none⟩) (2 - k) (2 - k)∧ys=restL xs a b k t'∧wr.cell? ⟨w.heap.size,0,none⟩=some (.int .i64 a)∧wr.cell? ⟨w.heap.size,1,none⟩=some (.int .i64 b)∧w.heap.size < wr.heap.size∧Below w.heap.size w wr) (fun _ v _=>lenV v)
  case atStart=>exact⟨0,0,t,by omega,fun _=>rfl,rfl,rfl,HYS.out,p0,p1,by omega,b1⟩
  case round =>
    obtain⟨k,off,t',hk,hoff,rfl,rfl,hy,q0,q1,hlt,hbw⟩:=hrel
    have HY:=Lib.hid hy
    clear hy
    go_wp2_with fail
    refine(implTable_any A n c xs t' wr ((h.below hbw).more hbw.size) hn hnc).mono ?_
    rintro e w2 ⟨G,ng,cg,rfl,oG,b2⟩
    have u0:w2.cell? ⟨w.heap.size,0,none⟩=some (.int .i64 a):=(b2.cell hlt).trans q0
    have u1:w2.cell? ⟨w.heap.size,1,none⟩=some (.int .i64 b):=(b2.cell hlt).trans q1
    have B2:=below_more hbw b2 hbw.size
    have s2:=b2.size
    have hw2:w.heap.size < w2.heap.size:=by omega
    have HL:=Lib.hid oG.len
    have h08:=tableL_length xs t'
    rw[HL.out] at h08
    rcases h08 with z | z
    . subst z
      have HN:Hid (ys=List.replicate 8 0):=HY.out.trans (rest_none (List.eq_nil_of_length_eq_zero HL.out))
      have hd:(((0:Nat):Int) == 0)=true:=by simp
      go_wp2_with (at_make;refine wpList_make_full _ rfl _ _ 24 rfl w2.heap.size 2 i0 (.int .i64 0) 1 Tryz.underlying24 hi0 hz0 hz1 .i64 .i64 _ _ 8 rfl rfl rfl rfl (by rw[hz2];omega) (by simp only[maxLen];omega) (Nat.le_refl _) ?_;intro w6 hown hg;rw[made_iv] at hown)
      go_ret
      rw[HN.out]
      exact Ret.of B2 hown (below_grown hg (Nat.le_refl _) (fun _ h=>by cases h))
    . subst z
      have hd:(((8:Nat):Int) == 0)=false:=by simp
      rcases oG.form with ⟨_,h9,_⟩ | ⟨gt,rfl,g1,g2,g3,g4⟩
      . omega
      obtain rfl | rfl | rfl:k=0∨k=1∨k=2:=by omega
      . obtain rfl:off=0:=hoff (by omega)
        have hc:=oG.cell (show a < 8 from ha)
        have HN:Hid (ys=restL xs a b 1 (targetOf ((tableL xs t').getD a 0))):=HY.out.trans (by rw[← slot_there HL.out ha];rfl)
        clear oG
        generalize (tableL xs t').getD a 0=x at *
        go_wp2_with fail
        go_quiet ((go_at_call 93;exact(implTarget_any _ _).mono (fun _ _ h=>⟨h.1,_,h.2.symm⟩)))
        go_wp2_with fail
        go_roundw
        case rel=>exact⟨1,1,_,by omega,fun _=>rfl,rfl,rfl,HN.out,u0,u1,hw2,below_drewN B2 _⟩
        case measure=>simp[lenV]
      . obtain rfl:off=1:=hoff (by omega)
        have hc:=oG.cell (show b < 8 from hb)
        have HN:Hid (ys=restL xs a b 2 (targetOf ((tableL xs t').getD b 0))):=HY.out.trans (by rw[← slot_there HL.out hb];rfl)
        clear oG
        generalize (tableL xs t').getD b 0=x at *
        go_wp2_with fail
        go_quiet ((go_at_call 93;exact(implTarget_any _ _).mono (fun _ _ h=>⟨h.1,_,h.2.symm⟩)))
        go_wp2_with fail
        go_roundw
        case rel=>exact⟨2,1,_,by omega,fun h=>by omega,rfl,rfl,HN.out,u0,u1,hw2,below_drewN B2 _⟩
        case measure=>simp[lenV]
      . have HN:Hid (ys=tableL xs t'):=HY.out.trans (by show orZero _=_;unfold orZero;rw[if_neg (fun e=>by have:=HL.out;rw[e] at this;simp at this)])
        have HO:=Lib.hid oG
        clear oG
        go_wp2_with fail
        go_ret
        rw[HN.out]
        exact⟨_,8,cg,rfl,HO.out.more hbw.size (Nat.le_refl _),B2⟩
theorem content_out {xs:List Int}{q g:Int}(h:¬ (hasHead xs=true∧inB q 0 ((shotsL xs).length:Int)=true∧inB g 0 ((headOf xs).size - 1)=true)):contentL xs q g=[]:=by unfold contentL;rw[if_neg h]
set_option maxRecDepth 100000 in
set_option maxHeartbeats 2000000 in
theorem implContent_any:ContentC:=by
  intro A n c xs q g w h hn hnc
  go_enter Tryz.func19,Tryz.ntmps19
  go_wp2_with fail
  refine(implHeadIn_any _ _ _ xs _ h hn).mono ?_
  rintro e w1 ⟨rfl,b1⟩
  generalize hr:headIn xs=r
  obtain⟨⟨s,f,r,u,m⟩,is⟩:=r
  have HR:=Lib.hid hr
  clear hr
  unfold hdV
  have b2:=b1.alloc b1.size (.cells #[.int .i64 s,.int .i64 f,.int .i64 r,.int .i64 u,.int .i64 m] 31)
  have HO:Hid ((g < 0∨s≤g)→contentL xs q g=[]):=Lib.hid (by
    intro hh
    refine content_out (fun hx=>?_)
    cases is
    . rw[(headIn_false HR.out).1] at hx;cases hx.1
    . have:=inB_true.1 hx.2.2
      rw[(headIn_true HR.out).2] at this
      simp only at this
      omega)
  by_cases h0:g < 0
  . have hd:decide (g < 0)=true:=by simpa using h0
    go_wp2_with fail
    go_ret
    rw[HO.out (.inl h0)]
    exact Ret.nil _ _ b2
  . have hd:decide (g < 0)=false:=by simpa using h0
    by_cases h1:s≤g
    . have hd1:decide (s≤g)=true:=by simpa using h1
      go_wp2_with fail
      go_ret
      rw[HO.out (.inr h1)]
      exact Ret.nil _ _ b2
    . have hd1:decide (s≤g)=false:=by simpa using h1
      clear HO
      cases is
      . have hh:=congrArg Hd.size (headIn_false HR.out).2
        have:s=0:=hh
        omega
      have HY:=Lib.hid (headIn_true HR.out)
      have hall:=headB_all (hasHead_ok HY.out.1)
      rw[HY.out.2] at hall
      obtain⟨⟨z1,z2⟩,_⟩:=hall
      simp only at z1 z2
      by_cases h2:q < 0
      . have hd2:decide (q < 0)=true:=by simpa using h2
        have HN:=Lib.hid (content_out (xs:=xs) (q:=q) (g:=g) (fun hx=>by have:=inB_true.1 hx.2.1;omega))
        go_wp2_with fail
        go_ret
        rw[HN.out]
        exact Ret.nil _ _ b2
      . have hd2:decide (q < 0)=false:=by simpa using h2
        obtain⟨k,rfl⟩:=Int.eq_ofNat_of_zero_le (show 0≤q by omega)
        have hl4:=shotsL_length xs
        obtain⟨ng,hng⟩:∃ ng,(shotsL xs).length=ng:=⟨_,rfl⟩
        have HG:=Lib.hid hng
        rw[hng] at hl4
        clear hng
        by_cases h3:ng < k
        . have hd3:decide (ng < k)=true:=by simpa using h3
          have HN:=Lib.hid (content_out (xs:=xs) (q:=k) (g:=g) (fun hx=>by have:=inB_true.1 hx.2.1;rw[HG.out] at this;omega))
          go_wp2_with fail
          refine(implShots_any A n c xs _ ((h.below b2).more b2.size) hn hnc).mono ?_
          rintro e w3 ⟨S,cs,rfl,oS,b3⟩
          have b03:=below_more b2 b3 b2.size
          rw[HG.out]
          clear oS
          go_wp2_with fail
          go_ret
          rw[HN.out]
          exact Ret.nil _ _ b03
        . have hd3:decide (ng < k)=false:=by simpa using h3
          have HN:=Lib.hid (show contentL xs k g=orZero (tableL xs (targetOf (entryAt xs k g))) by
            unfold contentL
            rw[if_pos ⟨HY.out.1,inB_true.2 (by rw[HG.out];omega),inB_true.2 (by rw[HY.out.2];simp only;omega)⟩])
          have HF:=Lib.hid (entryAt_in (xs:=xs) (q:=k) (g:=g) HY.out.1 (inB_true.2 (by rw[HY.out.2];simp only;omega)))
          go_wp2_with fail
          refine(implShots_any A n c xs _ ((h.below b2).more b2.size) hn hnc).mono ?_
          rintro e w3 ⟨S,cs,rfl,oS,b3⟩
          have b03:=below_more b2 b3 b2.size
          rw[HG.out]
          clear oS
          go_wp2_with fail
          refine(implFirst_any A n c xs k _ ((h.below b03).more b03.size) hn hnc).mono ?_
          rintro e w4 ⟨rfl,b4⟩
          have b04:=below_more b03 b4 b03.size
          go_wp2_with fail
          obtain⟨a,ha⟩:=Int.eq_ofNat_of_zero_le (show 0≤g / 8 by omega)
          obtain⟨b,hb⟩:=Int.eq_ofNat_of_zero_le (show 0≤g % 8 by omega)
          refine(readUnder_any A n c xs _ a b g w4 ((h.below b04).more b04.size) hn hnc (by omega) (by omega) ha hb (by omega) (by omega)).mono ?_
          rintro e w5 hr5
          have e5:restL xs a b 0 (firstOf xs k)=contentL xs k g:=by
            rw[HN.out,HF.out,← slotL_second,ha,hb]
            rfl
          rw[e5] at hr5
          obtain⟨G,n5,c5,rfl,o5,b5⟩:=hr5.after b04
          go_wp2_with fail
          go_ret
          exact⟨G,n5,c5,rfl,o5,b5⟩
theorem told_names {l:List (Int × Int)}{k:Nat}(hk:k < l.length):((l.take k).map (fun x:Int × Int=>x.1)++List.replicate (l.length - k) 0).set k (l.getD k (0,0)).1=(l.take (k+1)).map (fun x:Int × Int=>x.1)++List.replicate (l.length - (k+1)) 0:=by
  have e1:l.length - k=(l.length - (k+1))+1:=by omega
  have hl:((l.take k).map (fun x:Int × Int=>x.1)).length=k:=by simp;omega
  rw[names_step l k hk,e1,List.replicate_succ,List.set_append,if_neg (by omega),hl,Nat.sub_self,List.set_cons_zero,List.append_assoc]
  rfl
set_option maxRecDepth 100000 in
set_option maxHeartbeats 2000000 in
theorem implNames_any:NamesC:=by
  intro A n c xs w h hn hnc
  obtain⟨i0,hi0,hz0,hz1,hz2⟩:=info_parts info2
  go_enter Tryz.func16,Tryz.ntmps16
  go_wp2_with fail
  refine(implShots_any A n c xs _ h hn hnc).mono ?_
  rintro e w2 ⟨S,cs,rfl,oS,b2⟩
  have HL:Hid (namesL xs=(shotsL xs).map (·.1)):=rfl
  have h4:=shotsL_length xs
  generalize shotsL xs=l at *
  have HSC:=Lib.hid (fun (k:Nat) (hk:k < l.length)=>show ∃ gs,S=some ⟨gs,0,none⟩∧gs < w2.heap.size∧w2.cell? ⟨gs,k * 2,none⟩=some (.int .i64 (l.getD k (0,0)).1)∧w2.cell? ⟨gs,k * 2+1,none⟩=some (.int .i64 (l.getD k (0,0)).2) from by
    rcases oS.form with ⟨_,h0,_⟩ | ⟨gs,rfl,g1,g2,g3,g4⟩
    . omega
    . refine⟨gs,rfl,g3,?_,?_⟩
      . have:=oS.cell (j:=k * 2+0) (by omega)
        rw[sh_cell hk (by omega)] at this
        exact this
      . rw[oS.cell (by omega),sh_cell hk (by omega)];rfl)
  have sB:=b2.size
  clear oS
  obtain⟨ng,hng⟩:∃ ng,l.length=ng:=⟨_,rfl⟩
  rw[hng]
  have HG:=Lib.hid hng
  rw[hng] at h4
  clear hng
  go_wp2_with (at_make;refine wpList_make_full _ rfl _ _ 24 rfl w2.heap.size 2 i0 (.int .i64 0) 1 Tryz.underlying24 hi0 hz0 hz1 .i64 .i64 _ _ ng rfl rfl rfl rfl (by rw[hz2];omega) (by simp only[maxLen];omega) (Nat.le_refl _) ?_;intro w3 hown hg;rw[made_iv] at hown)
  have b3:Below w2.heap.size w2 w3:=below_grown hg (Nat.le_refl _) (fun _ h=>by cases h)
  have b03:=below_more b2 b3 b2.size
  have hlt3:=(hown.lt w2.heap.size rfl).2
  have o3:Ow w3 w2.heap.size w3.heap.size (some ⟨w2.heap.size,0,none⟩) ng ng (List.replicate ng 0):=⟨hown,fun g hg=>by simp[Value.ownBlock] at hg;omega⟩
  have K3:KeepBut w2.heap.size w2 w3:=⟨b3.size,fun b hb _=>b3.block b hb⟩
  clear hown hg hi0 hz0 hz1 hz2 b3
  go_loopw [14] (fun i wr=>∃ k:Nat,k≤ng∧i=.int .i64 k∧OwV 2 1 wr w.heap.size wr.heap.size w2.heap.size ng ng (iv ((l.take k).map (·.1)++List.replicate (ng - k) 0))∧Below w.heap.size w wr∧KeepBut w2.heap.size w2 wr) (fun i _=>ng - (intOf i).toNat)
  case atStart=>exact⟨0,Nat.zero_le _,rfl,by simpa using (o3.toV).more sB (Nat.le_refl _),b03,K3⟩
  case round =>
    obtain⟨k,hk,rfl,ho,hb,hkb⟩:=hrel
    by_cases hlt:k < ng
    . obtain⟨gs,rfl,k2,k3,k4⟩:=HSC.out k (by rw[HG.out];exact hlt)
      have c0:wr.cell? ⟨gs,k * 2,none⟩=some (.int .i64 (l.getD k (0,0)).1):=(hkb.cell (p:=⟨gs,k * 2,none⟩) k2 (by show gs≠_;omega)).trans k3
      have c1:wr.cell? ⟨gs,k * 2+1,none⟩=some (.int .i64 (l.getD k (0,0)).2):=(hkb.cell (p:=⟨gs,k * 2+1,none⟩) k2 (by show gs≠_;omega)).trans k4
      have HT:=Lib.hid (told_names (l:=l) (k:=k) (by rw[HG.out];exact hlt))
      have hT:=HT.out
      rw[HG.out] at hT
      have HT2:=Lib.hid hT
      clear HT hT
      have hlw:=ho.lt
      obtain⟨a0,ha0⟩:∃ a,(iv ((l.take k).map (·.1)++List.replicate (ng - k) 0))[k]?=some a:=⟨_,List.getElem?_eq_getElem (by have:=ho.len;omega)⟩
      have hc0:=(ho.cell (j:=k) (by omega)).trans ha0
      have hf0:=ho.free k
      have HS:=Lib.hid (ho.set k (.int .i64 (l.getD k (0,0)).1))
      have HSz:=Lib.hid ho
      clear ho ha0 k3 k4
      generalize (l.getD k (0,0)).1=x1 at *
      generalize (l.getD k (0,0)).2=x2 at *
      go_wp2_with fail
      go_roundw
      case rel =>
        obtain⟨s1,s2⟩:=HS.out
        rw[iv_set,HT2.out] at s1
        have hgr:=s2
        have AL:=(Below.refl _ (wr.setCell ⟨w2.heap.size,k,none⟩ (.int .i64 x1))).alloc (Nat.le_refl _) (.cells #[.int .i64 x1,.int .i64 x2] 60)
        refine⟨k+1,by omega,by go_num,⟨(s1.keep (AL.block _ s1.lt)).own,Nat.lt_of_lt_of_le s1.lt AL.size⟩,?_,?_⟩
        . exact below_more (hb.grown hgr hb.size (fun q e=>by cases e;exact sB)) AL (hb.grown hgr hb.size (fun q e=>by cases e;exact sB)).size
        . exact(hkb.step hgr (.inl rfl)).below AL
      case measure=>simp[intOf];omega
    . go_wp2_with fail
      go_ret
      obtain rfl:k=ng:=by omega
      rw[HL.out]
      have e:(l.take k).map (·.1)++List.replicate (k - k) 0=l.map (·.1):=by rw[← HG.out];simp
      rw[e] at ho
      exact⟨_,_,_,rfl,ho.toI,hb⟩
end Go.Proofs.YtibokhkohanoaabGreatDoor
