/- A disk whose counts and flags are wrong (l11DrawMild), and the draws of Mild and Owned. The Draw functions of Mild and Owned. The Draw functions of chapter 13. The Draw functions of chapters 14, 16 and 17. -/
import Derived.Test.YtibokhkohanoaabGreatDoorH5
import Derived.Test.YtibokhkohanoaabGreatDoorG6
import Derived.Test.YtibokhkohanoaabGreatDoorQ5
import Derived.Test.YtibokhkohanoaabGreatDoorH2
namespace Go.Proofs.YtibokhkohanoaabGreatDoor
open Go.RowKit
theorem put_head {xs:List Int}{i:Nat}{v:Int}(h:hasHead xs=true)(hi:8≤i)(hv:wordB v=true):hasHead (xs.set i v)=true∧headOf (xs.set i v)=headOf xs:=by
  have e:∀ j,j < 8→(xs.set i v).getD j 0=xs.getD j 0:=fun j hj=>by rw[getD_set,if_neg (by omega)]
  have hd:headOf (xs.set i v)=headOf xs:=by
    unfold headOf
    rw[e 2 (by omega),e 3 (by omega),e 4 (by omega),e 5 (by omega),e 6 (by omega)]
  refine⟨?_,hd⟩
  unfold hasHead at h ⊢
  rw[hd,e 0 (by omega),e 1 (by omega),e 7 (by omega),List.length_set]
  rw[Bool.and_eq_true] at h ⊢
  refine⟨?_,h.2⟩
  have hi:=h.1
  rw[imgB_iff] at hi ⊢
  refine⟨fun x hx=>?_,by rw[List.length_set];exact hi.2⟩
  rcases List.mem_or_eq_of_mem_set hx with h' | rfl
  . exact hi.1 x h'
  . exact hv
structure MildI (ys:List Int) (β k:Nat) (zs:List Int):Prop where
  head:hasHead zs=true
  len:zs.length=ys.length
  same:headOf zs=headOf ys
  few:∀ j,j < 8→0≤zs.getD (β * 8+j) 0∧zs.getD (β * 8+j) 0≤1296+2 * (k:Int)
theorem MildI.start {ys:List Int}(h:soundB ys=true)(h0:(blocksC (claimsC ys)).getD 0 0≠0):MildI ys ((blocksC (claimsC ys)).getD 0 0).toNat 0 ys:=by
  refine⟨sound_head h,rfl,rfl,fun j hj=>?_⟩
  have e:=sound_stored h
  unfold storedL countsL at e
  rw[if_pos (sound_head h),if_pos (sound_head h)] at e
  have e2:(storedC ys (blocksC (claimsC ys))).getD j 0=ys.getD (((blocksC (claimsC ys)).getD 0 0).toNat * 8+j) 0:=by
    unfold storedC
    rw[List.getD_eq_getElem?_getD,List.getElem?_map,List.getElem?_range (by omega)]
    rw[Option.map_some,Option.getD_some,show j / 8=0 by omega,show j % 8=j by omega,if_pos h0,cl_word_get _ _ _ hj]
  rw[← e2,e]
  obtain⟨_,hb⟩:=cnt_take (claimsC ys) (claimsC ys).length
  rw[List.take_length] at hb
  have h1:=hb j
  have h2:=claims_length ys
  unfold countsC
  omega
theorem MildI.step {ys zs:List Int}{β k j:Nat}{x:Int}(h:MildI ys β k zs)(hb:1≤β)(hj:j < 8)(hk:k≤3)(h0:0≤x)(h1:x≤2):MildI ys β (k+1) (zs.set (β * 8+j) (zs.getD (β * 8+j) 0+x)):=by
  obtain⟨f0,f1⟩:=h.few j hj
  obtain⟨a,b⟩:=put_head (i:=β * 8+j) (v:=zs.getD (β * 8+j) 0+x) h.head (by omega) (by unfold wordB;rw[inB_true];omega)
  refine⟨a,by rw[List.length_set];exact h.len,b.trans h.same,fun i hi=>?_⟩
  rw[getD_set]
  split
  . rename_i hh
    have:i=j:=by omega
    subst this
    omega
  . have:=h.few i hi
    omega
theorem MildI.more {ys zs:List Int}{β k k':Nat}(h:MildI ys β k zs)(hk:k≤k'):MildI ys β k' zs:=⟨h.head,h.len,h.same,fun j hj=>by have:=h.few j hj;omega⟩
theorem many_same {xs zs:List Int}(h:zs.length=xs.length):manyN zs=manyN xs:=by unfold manyN;rw[h]
theorem tables_some {ys zs:List Int}(h:soundB ys=true)(h1:hasHead zs=true)(h2:zs.length=ys.length)(h3:headOf zs=headOf ys):(tablesC (claimsC zs)).length≠0:=by
  obtain⟨t,_⟩:=sound_first h
  have t':thereB zs (headOf zs).first=true:=by
    unfold thereB at t ⊢
    rw[h3,many_same h2]
    exact t
  have hm:=(c6_prefix zs _).subset ((c5_prefix zs _).subset (first_claim zs))
  have hs:=(headB_all (hasHead_ok h1)).1.1
  have hg:goodB zs (headOf zs).size [⟨1,0,0,0,0,true⟩] ⟨2,0,0,0,(headOf zs).first,false⟩=true:=by
    have t2:1≤(headOf zs).first:=by unfold thereB at t';exact(inB_true.1 t').1
    unfold goodB
    rw[t']
    simp[barsB]
    omega
  have:(headOf zs).first ∈ tablesC (claimsC zs):=tables_in hm hg (by simp)
  exact fun e=>by rw[List.eq_nil_of_length_eq_zero e] at this;cases this
def Mi (w0:World)(g B h n c:Nat)(zs:List Int)(w:World):Prop:=OwV 2 1 w w0.heap.size w.heap.size h n c (iv zs)∧Cur w g B∧w0.grownBy w (some g)
theorem Mi.draw {w0 w w':World}{g B h n c:Nat}{zs:List Int}(hi:Mi w0 g B h n c zs w)(hg:w.grownBy w' (some g))(hc:Cur w' g B)(hlt:g < w0.heap.size):Mi w0 g B h n c zs w' :=
  ⟨hi.1.draw hg hlt hg.size,hc,grown_trans hi.2.2 hg⟩
theorem Mi.put {w0 w:World}{g B h n c j:Nat}{zs:List Int}(x:Int)(hi:Mi w0 g B h n c zs w)(hlt:g < w0.heap.size):Mi w0 g B h n c (zs.set j x) (w.setCell ⟨h,j,none⟩ (.int .i64 x)):=by
  obtain⟨h5,h6,h7⟩:=hi
  obtain⟨s1,s2⟩:=h5.set j (.int .i64 x)
  rw[iv_set] at s1
  have hlo:=h5.low
  exact⟨s1.more (Nat.le_refl _) s2.size,h6.grown s2 (fun k e=>by cases e;omega),grown_row h7 s2 hlo⟩
theorem Mi.under {w0 w w':World}{g B h n c:Nat}{zs:List Int}(hi:Mi w0 g B h n c zs w)(hb:Below w.heap.size w w'):Mi w0 g B h n c zs w' :=
  ⟨(hi.1.below hb (Nat.le_refl _)).more (Nat.le_refl _) hb.size,hi.2.1.grown (grown_under hb none) (by simp),grown_trans hi.2.2 (grown_under hb (some g))⟩
theorem Mi.drew {w0 w:World}{g B h n c:Nat}{zs:List Int}(hi:Mi w0 g B h n c zs w):Mi w0 g B h n c zs w.drew:=hi.under (Below.refl _ _).drew
theorem words_set {us:List Int}{n i:Nat}{x:Int}(h:us.length=n∧∀ j,0≤us.getD j 0∧us.getD j 0≤65535)(h0:0≤x)(h1:x≤65535):(us.set i x).length=n∧∀ j,0≤(us.set i x).getD j 0∧(us.set i x).getD j 0≤65535:=by
  refine⟨by rw[List.length_set];exact h.1,fun j=>?_⟩
  rw[getD_set]
  split
  . exact⟨h0,h1⟩
  . exact h.2 j
structure MR (ys:List Int) (bz:Int) (k:Nat) (zs:List Int):Prop where
  head:hasHead zs=true
  len:zs.length=ys.length
  same:headOf zs=headOf ys
  mild:bz≠0→MildI ys bz.toNat k zs
theorem MR.more {ys zs:List Int}{bz:Int}{k k':Nat}(h:MR ys bz k zs)(hk:k≤k'):MR ys bz k' zs:=⟨h.head,h.len,h.same,fun h0=>(h.mild h0).more hk⟩
theorem MR.step {ys zs:List Int}{b k j:Nat}{x:Int}(h:MR ys (b:Int) k zs)(hb:1≤b)(hj:j < 8)(hk:k≤3)(h0:0≤x)(h1:x≤2):MR ys (b:Int) (k+1) (zs.set (b * 8+j) (zs.getD (b * 8+j) 0+x)):=by
  have m:=(h.mild (by omega)).step (by simp;omega) hj hk h0 h1
  rw[Int.toNat_natCast] at m
  exact⟨m.head,m.len,m.same,fun _=>by rw[Int.toNat_natCast];exact m⟩
def MiB (w0:World)(g B h n c gb:Nat)(bz:Int)(zs:List Int)(w:World):Prop:=Mi w0 g B h n c zs w∧w.cell? ⟨gb,0,none⟩=some (.int .i64 bz)∧gb < w.heap.size
set_option maxRecDepth 100000 in
set_option maxHeartbeats 8000000 in
theorem drawMild11_any (g B:Nat)(w:World)(hc:Cur w g B) :
    Calls Tryz.prog 24 #[.pointer (some ⟨g,0,none⟩)] w (DrawRow g B w (fun ys=>0 < ys.length)):=by
  have hgl:=hc.lt
  go_enter Tryz.func24,Tryz.ntmps24
  go_wp2_with fail
  refine(draw17_sound g B w hc).mono ?_
  rintro e w1 ⟨h,n,c,ys,hs,hn,hnc,rfl,o1,hc1,hg1⟩
  have HS:=Lib.hid hs
  clear hs
  have hm1:Mi w g B h n c ys w1:=⟨o1,hc1,hg1⟩
  have hln:=Lib.hid o1.lenI
  have h8:n % 8=0:=by rw[← hln.out];exact(sound_parts HS.out).1
  have hm:manyN ys * 8=n:=by unfold manyN;rw[hln.out];omega
  have HM8:=Lib.hid hm
  clear hm
  go_wp2_with fail
  refine(specBlocks_any _ n c ys w1 o1.toI.rd (by omega) (sound_head HS.out)).mono ?_
  rintro e w2 ⟨gb,nb,cb,rfl,hnbc,oB,b2⟩
  obtain rfl:nb=8:=by rw[← oB.len,blocks_length]
  have HBT:=Lib.hid (blocks_there ys 0)
  have hm2:=hm1.under b2
  have hgb:w1.heap.size≤gb:=by
    rcases oB.form with ⟨h0,_⟩ | ⟨g',e,h1,_⟩
    . cases h0
    . cases e;exact h1
  have s1:=hg1.size
  have HI0:=Lib.hid (fun h0=>MildI.start HS.out h0)
  have qb:=oB.cell (j:=0) (by omega)
  generalize (blocksC (claimsC ys)).getD 0 0=bz at *
  have hlh:=hm1.1.lt
  have hgbl:gb < w2.heap.size:=ow_lt oB
  clear hm1 o1 hc1 hg1 b2 oB
  go_wp2_with fail
  refine(below_any g B 4 _ hm2.2.1).mono ?_
  rintro e w3 ⟨x,hx,rfl,hc3,hg3⟩
  obtain⟨x0,x1⟩:=hx.lt (by omega)
  obtain⟨m,rfl⟩:∃ m:Nat,x=m:=⟨x.toNat,by omega⟩
  have hm3:=hm2.draw hg3 hc3 hgl
  have hgn:gb≠g:=by omega
  have hgh:gb≠h:=by omega
  have q3:w3.cell? ⟨gb,0,none⟩=some (.int .i64 bz):=(World.cell?_of_block (a:=⟨gb,0,none⟩) (hg3.block gb (by have:=hgbl;omega) (fun e=>hgn (by injection e)))).trans qb
  have hgb3:gb < w3.heap.size:=by have:=hg3.size;omega
  have hR3:MR ys bz 0 ys:=⟨sound_head HS.out,rfl,rfl,fun h0=>HI0.out h0⟩
  clear hm2 hc3 hg3 hx x0 HI0 qb
  go_wp2_with fail
  go_loopw [5] (fun v wr=>∃ (k:Nat) (zs:List Int),k≤3∧v=.int .i64 k∧MR ys bz (3 - k) zs∧MiB w g B h n c gb bz zs wr) (fun v _=>(intOf v).toNat)
  case atStart=>exact⟨m,ys,by omega,rfl,hR3.more (by omega),hm3,q3,hgb3⟩
  case round =>
    obtain⟨k,zs,hk,rfl,hR,hmi,hq,hgw⟩:=hrel
    clear hm3 q3 hR3
    have HR:=Lib.hid hR
    clear hR
    by_cases hk0:0 < k
    . by_cases hbz:bz=0
      . subst hbz
        have HMI:=Lib.hid hmi
        clear hmi
        go_wp2_with fail
        go_roundw
        case rel=>exact⟨k - 1,zs,by omega,by go_num,HR.out.more (by omega),HMI.out,hq,hgw⟩
        case measure=>simp[intOf];omega
      . have hne:(bz != 0)=true:=by simpa using hbz
        obtain⟨t1,t2⟩:1≤bz∧bz≤(manyN ys:Int) - 1:=by
          rcases HBT.out with h0 | h1
          . exact absurd h0 hbz
          . unfold thereB at h1;exact inB_true.1 h1
        obtain⟨b,rfl⟩:=Int.eq_ofNat_of_zero_le (show 0≤bz by omega)
        have hb8:b * 8+8≤n:=by have:=HM8.out;omega
        have hw8:IntKind.i64.wrap ((b:Int) * 8)=(b:Int) * 8:=IntWalk.i64_in _ (by omega)
        go_wp2_with fail
        go_region_held3 (fun w'=>w'.cell? ⟨gb,0,none⟩=some (.int .i64 (b:Int))) (first | go_keep | (exact(World.cell?_of_block (a:=⟨gb,0,none⟩) (hg4.block gb hgw (fun e=>hgn (by injection e)))).trans (by assumption)))
          ((go_at_call 23;refine(below_any g B 8 wr.drew hmi.drew.2.1).mono ?_;rintro e w4 ⟨x,hx,rfl,hc4,hg4⟩))
        obtain⟨x0,x1'⟩:=hx.lt (by omega)
        obtain⟨j,rfl⟩:∃ j:Nat,x=j:=⟨x.toNat,by omega⟩
        have hj8:j < 8:=by omega
        rw[show IntKind.i64.wrap ((b:Int) * 8+(j:Int))=((b * 8+j:Nat):Int) by rw[IntWalk.i64_in _ (by omega)];omega]
        have hm4:=hmi.drew.draw hg4 hc4 hgl
        have HQ4:Hid (w4.cell? ⟨gb,0,none⟩=some (.int .i64 (b:Int))):=Lib.hid (by assumption)
        have HSt:=Lib.hid (fun (y:Int) (hy0:0≤y) (hy2:y≤2)=>HR.out.step (j:=j) (x:=y) (by omega) hj8 (by omega) hy0 hy2)
        have hfw:=(HR.out.mild (by omega)).few j hj8
        rw[Int.toNat_natCast] at hfw
        obtain⟨v0,v1⟩:=hfw
        have hij:b * 8+j < n:=by omega
        have qz:=hm4.1.toI.cell hij
        have fz:=hm4.1.free (b * 8+j)
        have hhl:=hm4.1.lt
        have hhg:h≠g:=by have:=hm4.1.low;omega
        have g4s:=hg4.size
        clear hx x0 x1' hw8 hc4 hg4 hmi hq t1 t2 hbz hne
        generalize zs.getD (b * 8+j) 0=v at *
        obtain⟨i,hi⟩:∃ i,i=b * 8+j:=⟨_,rfl⟩
        rw[← hi] at HSt hij qz fz ⊢
        have HI:=Lib.hid hi
        clear hi
        have n1:(0:Int)≤(i:Int):=by omega
        have n2:(i:Int) < (n:Int):=by omega
        go_wp2_with fail
        go_region_with (go_at_call 23;refine(below_any g B 3 w4.drew hm4.drew.2.1).mono ?_;rintro e w5 ⟨y,hy,rfl,hc5,hg5⟩;have q5:=(World.cell?_of_block (a:=⟨h,i,none⟩) (hg5.block h hhl (fun e=>hhg (by injection e)))).trans qz;have f5:=(World.frozen?_of_block (a:=⟨h,i,none⟩) (hg5.block h hhl (fun e=>hhg (by injection e)))).trans fz)
        all_goals
          obtain⟨y0,y1⟩:=hy.lt (by omega)
          rw[IntWalk.i64_in (v+y) (by omega)]
          have m5:=hm4.drew.draw hg5 hc5 hgl
          have m6:=m5.put (j:=i) (v+y) hgl
          have g6:=(m5.1.set i (.int .i64 (v+y))).2
          have gl5:gb < w5.heap.size:=by have:=hg5.size;have e1:wr.drew.heap.size=wr.heap.size:=rfl;have e2:w4.drew.heap.size=w4.heap.size:=rfl;omega
          have q6:=(World.cell?_of_block (a:=⟨gb,0,none⟩) (g6.block gb gl5 (fun e=>hgh (by injection e)))).trans ((World.cell?_of_block (a:=⟨gb,0,none⟩) (hg5.block gb (show gb < w4.heap.size by have e1:wr.drew.heap.size=wr.heap.size:=rfl;omega) (fun e=>hgn (by injection e)))).trans HQ4.out)
          have s6:=g6.size
          have HM6:=Lib.hid m6
          have HQ6:=Lib.hid q6
          clear m5 m6 g6 q6 hm4 hg5 hc5 q5 f5 qz fz
          go_wp2_with fail
          go_roundw
          case rel=>exact⟨k - 1,zs.set i (v+y),by omega,by go_num,(HSt.out y (by omega) (by omega)).more (by omega),HM6.out,HQ6.out,by omega⟩
          case measure=>simp[intOf];omega
    . clear hq hgw hgn hgh hgb3 HBT hgb hgbl
      have hzl:zs.length=n:=by rw[HR.out.len];exact hln.out
      have HZL:=Lib.hid hzl
      have hnpos:0 < n:=by have:=(hasHead_len HR.out.head).1;omega
      have hmz:manyN zs * 8=n:=by rw[many_same HR.out.len];exact HM8.out
      have HMZ:=Lib.hid hmz
      have HTS:=Lib.hid (tables_some HS.out HR.out.head HR.out.len HR.out.same)
      have HTT:=Lib.hid (fun t ht=>tables_there (xs:=zs) (t:=t) ht)
      have HIM:=Lib.hid (word_get (hasHead_img HR.out.head))
      have hcl:=claims_length zs
      have htl:=tables_length zs
      clear hzl hmz
      go_wp2_with fail
      refine(specClaims_any _ n c zs wr hmi.1.toI.rd (by omega) HR.out.head).mono ?_
      rintro e w5 ⟨g5,c5,rfl,o5,b5⟩
      have m5:=hmi.under b5
      clear hmi
      go_wp2_with fail
      refine(specTables_any g5 c5 (claimsC zs) w5 o5.rd (by omega)).mono ?_
      rintro e w6 ⟨gt,nt,ct,rfl,hntc,oT,b6⟩
      have m6:=m5.under b6
      have hnt:nt=(tablesC (claimsC zs)).length:=by rw[← oT.len]
      have hnt0:0 < nt:=by have:=HTS.out;omega
      have hnt4:nt≤4000:=by omega
      have HTP:Hid (∀ jx,jx < nt→∃ t:Nat,1≤t∧t * 8+8≤n∧(tablesC (claimsC zs)).getD jx 0=(t:Int)):=Lib.hid fun jx hjx=>by
        have hjl:jx < (tablesC (claimsC zs)).length:=by omega
        have e:(tablesC (claimsC zs)).getD jx 0=(tablesC (claimsC zs))[jx]:=by simp[List.getD_eq_getElem?_getD,hjl]
        have hth:=HTT.out _ (List.getElem_mem hjl)
        rw[← e] at hth
        unfold thereB at hth
        rw[inB_true] at hth
        have:=HMZ.out
        exact⟨((tablesC (claimsC zs)).getD jx 0).toNat,by omega,by omega,by omega⟩
      have hgt:w5.heap.size≤gt:=by
        rcases oT.form with ⟨h0,_⟩ | ⟨g',e,h1,_⟩
        . cases h0
        . cases e;exact h1
      have s5:=m5.2.2.size
      have hh5:=m5.1.lt
      have oT6:=oT.more (Nat.le_refl _) (show w6.heap.size≤w6.heap.size from Nat.le_refl _)
      clear m5 b5 b6 o5 oT hnt HTS
      generalize tablesC (claimsC zs)=ts at *
      go_wp2_with fail
      refine(below_any g B 4 _ m6.2.1).mono ?_
      rintro e w7 ⟨x,hx,rfl,hc7,hg7⟩
      obtain⟨x0,x1⟩:=hx.lt (by omega)
      obtain⟨m7,rfl⟩:∃ m:Nat,x=m:=⟨x.toNat,by omega⟩
      have hm7:=m6.draw hg7 hc7 hgl
      have hgtg:gt≠g:=by omega
      have hgth:gt≠h:=by omega
      have oT7:=oT6.grown hg7 (fun k e=>by cases e;omega)
      clear oT6 m6 hx hg7 hc7
      go_wp2_with fail
      go_loopw [8] (fun v wr=>∃ (k:Nat) (us:List Int),k≤3∧v=.int .i64 k∧(us.length=n∧∀ j,0≤us.getD j 0∧us.getD j 0≤65535)∧Mi w g B h n c us wr∧Ow wr w5.heap.size w6.heap.size (some ⟨gt,0,none⟩) nt ct ts) (fun v _=>(intOf v).toNat)
      case atStart=>exact⟨m7,zs,by omega,rfl,⟨HZL.out,HIM.out⟩,hm7,oT7⟩
      case round =>
        obtain⟨k2,us,hk2,rfl,hus,hmi,oT⟩:=hrel
        have HU:=Lib.hid hus
        clear hus hm7 oT7
        by_cases hk0':0 < k2
        . have oTd:Ow wr.drew w5.heap.size w6.heap.size (some ⟨gt,0,none⟩) nt ct ts:=oT.keep fun _ _ _ _=>rfl
          have hsg:g < w5.heap.size:=by omega
          go_wp2_with fail
          go_region_with (first
            | (go_at_call 23;refine(below_any g B 8 w8 m8.2.1).mono ?_;rintro e w9 ⟨y,hy,rfl,hc9,hg9⟩;have m9:=m8.draw hg9 hc9 hgl;have oT9:=oT8.grown hg9 (fun k e=>by cases e;exact .inl hsg);have q9:=(World.cell?_of_block (a:=⟨gt,jx,none⟩) (hg9.block gt (ow_lt oT8) (fun e=>hgtg (by injection e)))).trans q8)
            | (go_at_call 23;refine(below_any g B (nt:Int) wr.drew hmi.drew.2.1).mono ?_;rintro e w8 ⟨x,hx,rfl,hc8,hg8⟩;obtain⟨x0,x1⟩:=hx.lt (by omega);obtain⟨jx,rfl⟩:∃ j:Nat,x=j:=⟨x.toNat,by omega⟩;have hjx:jx < nt:=(by omega);have m8:=hmi.drew.draw hg8 hc8 hgl;have oT8:=oTd.grown hg8 (fun k e=>by cases e;exact .inl hsg);have q8:=oT8.cell hjx;obtain⟨t,t1,t8,et⟩:=HTP.out jx hjx;rw[et] at q8;have hw1:IntKind.i64.wrap ((t:Int) * 8)=(t:Int) * 8:=IntWalk.i64_in _ (by omega);clear et hx hc8 hg8 hmi))
          all_goals
            obtain⟨y0,y1⟩:=hy.lt (by omega)
            obtain⟨jy,rfl⟩:∃ j:Nat,y=j:=⟨y.toNat,by omega⟩
            have hij:t * 8+jy < n:=by omega
            obtain⟨i,hi⟩:∃ i,i=t * 8+jy:=⟨_,rfl⟩
            have hw2:IntKind.i64.wrap ((t:Int) * 8+(jy:Int))=(i:Int):=by rw[IntWalk.i64_in _ (by omega),hi];omega
            rw[← hi] at hij
            have HI:=Lib.hid hi
            have qz:=m9.1.toI.cell hij
            have fz:=m9.1.free i
            obtain⟨u0,u1⟩:=HU.out.2 i
            have HM9:=Lib.hid (fun (x:Int)=>m9.put (j:=i) x hgl)
            have HT9:=Lib.hid (fun (x:Int)=>oT9.grown (m9.1.set i (.int .i64 x)).2 (fun k e=>by cases e;have:=m9.1.lt;exact .inl (by omega)))
            have HU9:Hid (∀ x:Int,0≤x→x≤65535→(us.set i x).length=n∧∀ j,0≤(us.set i x).getD j 0∧(us.set i x).getD j 0≤65535):=Lib.hid fun x h0 h1=>words_set HU.out h0 h1
            generalize us.getD i 0=u at *
            have n1:(0:Int)≤(i:Int):=by omega
            have n2:(i:Int) < (n:Int):=by omega
            clear hi m8 m9 oT8 oT9 q8 q9 hc9 hg9 oT oTd hy HU
            go_wp2_with fail
            go_roundw
            case rel=>exact⟨k2 - 1,us.set i ((u+32768) % 65536),by omega,by go_num,HU9.out _ (by omega) (by omega),HM9.out _,HT9.out _⟩
            case measure=>simp[intOf];omega
        . go_wp2_with fail
          go_ret
          exact⟨h,n,c,us,by show 0 < us.length;rw[HU.out.1];omega,hn,hnc,rfl,hmi.1,hmi.2.1,hmi.2.2⟩
theorem Mi.row {w0 w:World}{g B h n c:Nat}{zs:List Int}(hi:Mi w0 g B h n c zs w)(hn:n≤600)(hc:n≤c):DrawRow g B w0 (fun _=>True) (.returned (.slice (some ⟨h,0,none⟩) n c)) w :=
  ⟨h,n,c,zs,trivial,hn,hc,rfl,hi.1,hi.2.1,hi.2.2⟩
set_option maxRecDepth 100000 in
set_option maxHeartbeats 2000000 in
theorem draw13_any (g B:Nat)(w:World)(hc:Cur w g B) :
    Calls Tryz.prog 25 #[.pointer (some ⟨g,0,none⟩)] w (DrawRow g B w (fun _=>True)):=by
  have hgl:=hc.lt
  go_enter Tryz.func25,Tryz.ntmps25
  go_wp2_with fail
  refine(drawAny_any g B w hc).mono ?_
  rintro e w1 ⟨h,n,c,ys,_,hn,hnc,rfl,o1,hc1,hg1⟩
  have m1:Mi w g B h n c ys w1:=⟨o1,hc1,hg1⟩
  clear o1 hc1 hg1
  go_wp2_with fail
  refine(once_any g B 2 _ m1.2.1).mono ?_
  rintro e w2 ⟨b2,rfl,hc2,hg2⟩
  have m2:=m1.draw hg2 hc2 hgl
  clear m1
  cases b2
  case' true =>
    go_wp2_with fail
    refine(draw17_any g B _ m2.2.1).mono ?_
    rintro e w3 ⟨h,n,c,ys,_,hn,hnc,rfl,o3,hc3,hg3⟩
    have m3:Mi w g B h n c ys w3:=⟨o3.more m2.2.2.size (Nat.le_refl _),hc3,grown_trans m2.2.2 hg3⟩
    clear o3 hc3 hg3
  case' false =>
    obtain⟨w3,rfl⟩:∃ w3,w3=w2:=⟨_,rfl⟩
    have m3:=m2
  all_goals
    clear m2 hg2 hc2
    go_wp2_with fail
    refine(once_any g B 4 _ m3.2.1).mono ?_
    rintro e w4 ⟨b4,rfl,hc4,hg4⟩
    have m4:=m3.draw hg4 hc4 hgl
    clear m3 hc4 hg4
    cases b4
    . by_cases h8:n < 8
      . have hd:decide ((n:Int) < 8)=true:=by simp;omega
        go_wp2_with fail
        go_ret
        exact m4.row hn hnc
      . have hd:decide ((n:Int) < 8)=false:=by simp;omega
        have qz:=m4.1.toI.cell (j:=3) (by omega)
        have fz:=m4.1.free 3
        have HM:=Lib.hid (m4.put (j:=3) 0 hgl)
        generalize ys.getD 3 0=v at *
        have n3:(3:Int) < (n:Int):=by omega
        clear m4
        go_wp2_with fail
        go_ret
        exact HM.out.row hn hnc
    . go_wp2_with fail
      go_ret
      exact m4.row hn hnc
def Grow0 (w0:World)(g B:Nat)(v:Value)(w:World):Prop:=∃ (h n c:Nat) (ys:List Int),n≤600∧n≤c∧v=.slice (some ⟨h,0,none⟩) n c∧Mi w0 g B h n c ys w
set_option maxRecDepth 100000 in
set_option maxHeartbeats 4000000 in
theorem drawRepaired_any (A:Option Addr)(n c:Nat)(xs:List Int)(w:World)(hr:Rd8 w w.heap.size A n xs)(hn:n≤4096) :
    Calls Tryz.prog 5 #[.slice A n c] w (SomeRow w):=by
  obtain⟨i0,hi0,hz0,hz1,hz2⟩:=info_parts info2
  go_enter Tryz.func5,Tryz.ntmps5
  go_wp2_with fail
  refine(new_any A n c xs w hr hn).mono ?_
  rintro e w1 ⟨g,rfl,hc1,hb1⟩
  have hgl:=hc1.lt
  go_wp2_with fail
  refine(below_any g _ 4 w1 hc1).mono ?_
  rintro e w2 ⟨x,hx,rfl,hc2,hg2⟩
  obtain⟨x0,x1⟩:=hx.lt (by omega)
  have e4:x=0∨x=1∨x=2∨x=3:=by omega
  clear hx x0 x1
  rcases e4 with rfl | rfl | rfl | rfl
  . go_wp2_with fail
    refine(drawMild11_any g _ w2 hc2).mono ?_
    rintro e w3 ⟨h,n3,c3,ys,_,hn3,_,rfl,o3,hc3,hg3⟩
    go_wp2_with fail
    go_ret
    exact⟨_,_,_,ys,⟨hn3,o3.cap⟩,rfl,o3.toI.rd,hb1.trans (cur_under hc1 hb1.size (grown_trans hg2 hg3))⟩
  . go_wp2_with fail
    refine(draw13_any g _ w2 hc2).mono ?_
    rintro e w3 ⟨h,n3,c3,ys,_,hn3,_,rfl,o3,hc3,hg3⟩
    go_wp2_with fail
    go_ret
    exact⟨_,_,_,ys,⟨hn3,o3.cap⟩,rfl,o3.toI.rd,hb1.trans (cur_under hc1 hb1.size (grown_trans hg2 hg3))⟩
  . go_wp2_with fail
    refine(drawAny_any g _ w2 hc2).mono ?_
    rintro e w3 ⟨h,n3,c3,ys,_,hn3,hnc3,rfl,o3,hc3,hg3⟩
    have m3:Mi w1 g _ h n3 c3 ys w3:=⟨o3.more hg2.size (Nat.le_refl _),hc3,grown_trans hg2 hg3⟩
    clear o3 hc3 hg3 hg2 hc2
    go_wp2_with fail
    refine(once_any g _ 4 w3 m3.2.1).mono ?_
    rintro e w4 ⟨b4,rfl,hc4,hg4⟩
    have m4:=m3.draw hg4 hc4 hgl
    clear m3 hc4 hg4
    cases b4
    . go_wp2_with fail
      go_ret
      exact⟨_,_,_,ys,⟨hn3,hnc3⟩,rfl,m4.1.toI.rd,hb1.trans (cur_under hc1 hb1.size m4.2.2)⟩
    . go_wp2_with fail
      go_loopw [4] (fun v wr=>Grow0 w1 g _ v wr) (fun v _=>600 - (match v with | .slice _ n _=>n | _=>0))
      case atStart=>exact⟨h,n3,c3,ys,hn3,hnc3,rfl,m4⟩
      case round =>
        obtain⟨h,m,c,ys,hm,hmc,rfl,mi⟩:=hrel
        clear m4
        go_wp2_with fail
        refine(below_any g _ 3 wr mi.2.1).mono ?_
        rintro e w4 ⟨x,hx,rfl,hc4,hg4⟩
        obtain⟨x0,x1⟩:=hx.lt (by omega)
        have m4:=mi.draw hg4 hc4 hgl
        clear mi hx hc4 hg4
        by_cases hlt:(m:Int) < 512 - 8 * x
        . have hs4:=m4.2.2.size
          have hlo:=m4.1.low
          go_wp2_with (at_builtin;refine wpList_append_v rfl (.tmp 30) (.tmp 31) 24 rfl 2 1 8 _ i0 Tryz.underlying24 hi0 hz0 hz1 hz2 rfl (by omega) (by omega) w1.heap.size w4.heap.size h m c _ rfl (m4.1.grown (World.grownBy_alloc _ _ none) (fun _ h=>by cases h)) ⟨w4.heap.size,0,none⟩ 1 1 (iv [0]) rfl rfl (fun j u hj=>by rw[Addr.add_lit,Nat.zero_add,World.cell?_alloc_new];simpa [iv] using hj) (by simp[iv,Value.oneCell']) (by omega) (by simp;omega) ?_;intro g7 c7 w7 o7 hg7 _ _)
          rw[← iv_append] at o7
          have c5:=m4.2.1.grown (grown_alloc w4 (.cells #[.int .i64 0] 2) none) (by simp)
          have g5:=grown_trans m4.2.2 (grown_alloc w4 (.cells #[.int .i64 0] 2) (some g))
          have m7:Mi w1 g _ g7 (m+1) c7 (ys++[0]) w7:=⟨o7,c5.grown hg7 (fun k e=>by cases e;omega),grown_row g5 hg7 hlo⟩
          have hc7:=o7.cap
          clear o7 hg7 c5 g5 m4
          go_wp2_with fail
          go_roundw
          case rel=>exact⟨g7,m+1,c7,_,by omega,hc7,rfl,m7⟩
          case measure=>simp;omega
        . go_wp2_with fail
          go_ret
          exact⟨_,_,_,ys,⟨hm,hmc⟩,rfl,m4.1.toI.rd,hb1.trans (cur_under hc1 hb1.size m4.2.2)⟩
  . go_wp2_with fail
    refine(drawAny_any g _ w2 hc2).mono ?_
    rintro e w3 ⟨h,n3,c3,ys,_,hn3,_,rfl,o3,hc3,hg3⟩
    go_wp2_with fail
    go_ret
    exact⟨_,_,_,ys,⟨hn3,o3.cap⟩,rfl,o3.toI.rd,hb1.trans (cur_under hc1 hb1.size (grown_trans hg2 hg3))⟩
end Go.Proofs.YtibokhkohanoaabGreatDoor
