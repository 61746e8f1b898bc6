/- The statement FairWithin of layer 1: each line with few changes is within what Spread returns, which is within the spots, no narrower with one change more, and attained at both ends, for all spots, numbers of changes, lines by numbers, spots and ends; the package's table of costs is as the text lays it. -/
import Derived.Test.YtkmdidplmfdikabDoorM8
import Derived.Test.YtkmdidplmfdikabDoorChecked
import Derived.Eval
import Derived.KernelRfl
import Derived.Test.YtkmdidplmfdikabDoorCards
import Derived.Test.YtkmdidplmfdikabDoorTie
import Derived.WalkKit
import Derived.ProofKit
import Derived.OpenShut
import Derived.Deep.DeepHandedRow
import Derived.Lib.LaidTab
set_option linter.all false
section
namespace Go.Proofs.YtkmdidplmfdikabDoor
open Go.Ev
set_option maxRecDepth 100000
set_option linter.unusedSimpArgs false
set_option linter.unusedVariables false
set_option maxHeartbeats 4000000

theorem tEvbV6 :type_of% (And.intro (And.intro (And.intro (And.intro (And.intro (@zSz) (@bs_24)) (And.intro (@bs_35) (@ia_2))) (And.intro (And.intro (@sz_2) (@ia_3)) (And.intro (@sz_3) (And.intro (@ia_5) (@sz_5))))) (And.intro (And.intro (And.intro (@zRv) (@ia_25)) (And.intro (@ia_27) (@zTw))) (And.intro (And.intro (@zTz) (@zTy)) (And.intro (@zSv) (And.intro (@zUw) (@zRw)))))) (And.intro (And.intro (And.intro (And.intro (@zMv) (@zNz)) (And.intro (@zMy) (@zMz))) (And.intro (And.intro (@pb_5) (@pb_7)) (And.intro (@pb_8) (And.intro (@pb_9) (@pb_10))))) (And.intro (And.intro (And.intro (@pb_11) (@pb_12)) (And.intro (@pb_13) (@pb_14))) (And.intro (And.intro (@pb_18) (@wBy)) (And.intro (@wBx) (And.intro (@ze_24) (@zPw))))))):=And.intro (And.intro (And.intro (And.intro (And.intro (@zSz) (@bs_24)) (And.intro (@bs_35) (@ia_2))) (And.intro (And.intro (@sz_2) (@ia_3)) (And.intro (@sz_3) (And.intro (@ia_5) (@sz_5))))) (And.intro (And.intro (And.intro (@zRv) (@ia_25)) (And.intro (@ia_27) (@zTw))) (And.intro (And.intro (@zTz) (@zTy)) (And.intro (@zSv) (And.intro (@zUw) (@zRw)))))) (And.intro (And.intro (And.intro (And.intro (@zMv) (@zNz)) (And.intro (@zMy) (@zMz))) (And.intro (And.intro (@pb_5) (@pb_7)) (And.intro (@pb_8) (And.intro (@pb_9) (@pb_10))))) (And.intro (And.intro (And.intro (@pb_11) (@pb_12)) (And.intro (@pb_13) (@pb_14))) (And.intro (And.intro (@pb_18) (@wBy)) (And.intro (@wBx) (And.intro (@ze_24) (@zPw))))))
theorem wrap_u8 {n:Int} (h:0≤n∧n≤255):IntKind.u8.wrap n=n:=by
  have e1:((2:Int) ^ IntKind.u8.bits)=256:=by decide
  have e3:IntKind.u8.signed=false:=rfl
  unfold IntKind.wrap
  simp only [e1,e3,Bool.false_and,Bool.false_eq_true,if_false]
  omega
theorem b_quo2 {P:Program} {t x y} {m:Int} (hm:0≤m∧m≤255):binE P .quo t x y (.int .u8 m) (.int .u8 2)=some (.int .u8 (m.tdiv 2)):=by
  have hq:0≤m.tdiv 2∧m.tdiv 2≤255:=by rw [Int.tdiv_eq_ediv_of_nonneg hm.1];omega
  show pureVal P (Op.intDiv .quo .u8 m 2)=_
  unfold Op.intDiv
  rw [if_neg (by decide)]
  have e:=yXv (P:=P) (k:=.u8) (n:=IntKind.u8.wrap (m.tdiv 2))
  rw [wrap_u8 hq] at e
  show pureVal P (Sem.pure (.int .u8 (IntKind.u8.wrap (m.tdiv 2))))=_
  rw [wrap_u8 hq]
  exact e
theorem b_rem2 {P:Program} {t x y} {m:Int} : binE P .rem t x y (.int .u8 m) (.int .u8 2)=some (.int .u8 (m.tmod 2)):=by
  show pureVal P (Op.intDiv .rem .u8 m 2)=_
  unfold Op.intDiv
  rw [if_neg (by decide)]
  exact yXv
theorem b_eq8 {P:Program} {t:TypeId} {x y:Operand} {m n:Int} (hu:P.underlying t=some (.int .u8)):binE P .eql t x y (.int .u8 m) (.int .u8 n)=some (.bool (decide (m=n))):=by
  have es:binE P .eql t x y (.int .u8 m) (.int .u8 n)=pureVal P (do eqGuard .eql t x y (.int .u8 m) (.int .u8 n);binOp .eql t (.int .u8 m) (.int .u8 n)):=rfl
  rw [es]
  have e1:pureRun P (eqGuard .eql t x y (.int .u8 m) (.int .u8 n))=some ():=rfl
  have e2:pureRun P (binOp .eql t (.int .u8 m) (.int .u8 n))=some (.bool (m == n)):=by
    show pureRun P (Op.intCmp .eql m n)=_
    rfl
  unfold pureVal
  rw [zMx,e1]
  simp only [Option.bind_some]
  rw [e2,show (m == n)=decide (m=n) from by rw [Bool.eq_iff_iff];simp]
  rfl
theorem ix_22 {q:Pos} {n i:Nat} (hi:i<n):indexAddrE Tryd.prog 22 (.sl q 0 n none 2) (.int .i64 (i:Int))=some (.ptr q (i * 2)):=by
  rw [zSy,zTv];dsimp only;rw [yLz];dsimp only;rw [zZy hi,Nat.zero_add]

theorem spreadX (sp:List (Int × Int)) (turn:Int) (hsp:spotsR sp turn=0) (a:AV) (hca:Cape 2 a) (ch:Int) (hch:0≤ch) (h:H) (wf:Wf h) (ht:TabF h) (L0:List AO) (w:Nat) (hw:w≤h.clock+L0.length) (hs:Sl (X h L0 w) a 2 sp.length (zKv sp)) :
    ∃ (L:List AO) (v:AV) (e:Int),(om Tryd.prog KK).call (.fn 13 [.agg [a,ii turn],ii ch]) (X h L0 w) = .ok (.tup [v,ii e]) (X h (L0++L) w)∧(AV.cells v=[v]∧oneB v=true) ∧
      ((e=0 ∧ ∃ (k:Nat) (R:List (Int × Int)),v = .sl (nx h k) 0 sp.length none 2∧(L0++L)[k]? = some (.cells (zAy (zLz R)) 35)∧R.length=sp.length ∧ ∀ i,i<sp.length→FewR sp ch i (spot R i)) ∨
       (e=17∧v = .nils ∧ ∀ l,InR sp l→ch<Cost cntI l)):=by
  obtain ⟨v,h',e,⟨L,k,R,rfl,rfl,hk,hl,hR⟩|⟨rfl,rfl,hno⟩⟩:=spreadAll sp turn hsp a hca ch hch (X h L0 w) (wf.X hw) (ht.up wf _ _) hs
  · rw [X_X,X_w,nx_X] at e
    exact ⟨L,_,0,e,⟨rfl,rfl⟩,.inl ⟨rfl,L0.length+k,R,rfl,by rw [zLw];exact hk,hl,hR⟩⟩
  · refine ⟨[],.nils,17,by rw [List.append_nil];exact e,⟨rfl,rfl⟩,.inr ⟨rfl,rfl,hno⟩⟩

theorem lawWithin (sp:List (Int × Int)) (turn many_ which_:Int) (bs:List Int) (hm:0≤many_∧many_≤255) (hw:0≤which_∧which_≤255) (hb8 : ∀ n ∈ bs,0≤n∧n≤255) (a b:AV) (hca:Capd a) (h:H) (wf:Wf h) (t:Tab h) (hs:Sl h a 2 sp.length (zKv sp)) (hb:Sl h b 1 bs.length (bs.map u8)) :
    (om Tryd.prog KK).call (.fn 5 [.agg [a,ii turn],u8 many_,b,u8 which_]) h = .ok (.bool true) h:=by
  have ha1:oneB a=true∧AV.cells a=[a]:=by obtain ⟨_,⟨rfl,_⟩|⟨_,_,_,_,_,_,rfl,_⟩⟩:=hs <;> exact ⟨rfl,rfl⟩
  have hlen : ∀ h',lenE Tryd.prog 22 a h'=some (ii (sp.length:Int)):=fun h'=>hs.len yIw
  have hlb : ∀ h',lenE Tryd.prog 27 b h'=some (ii (bs.length:Int)):=fun h'=>hb.len un_27
  have works' : ∀ l w,(om Tryd.prog KK).call (.fn 8 []) (X h l w) = .ok (.bool true) (X h l w):=fun l w=>works _ (t.up wf _ _)
  have hfine : ∀ l w,w≤h.clock+l.length→(om Tryd.prog KK).call (.fn 7 [.agg [a,ii turn]]) (X h l w) = .ok (.bool (decide (spotsR sp turn=0))) (X h l w):=fun l w hw=>fineSpots sp turn a _ (wf.X hw) (hs.up wf _ _)
  by_cases hgo:spotsR sp turn=0∧bs.length≤40
  · obtain ⟨hs0,h40⟩:=hgo
    obtain ⟨n1,n24,hok,hturn⟩:=xRx hs0
    rw [decide_eq_true hs0] at hfine
    have hok' : ∀ r ∈ sp,r.1≤r.2:=fun r hr=>(hok r hr).2.2.1
    have hln:InR sp (lineB sp bs sp.length):=lineB_in bs hok'
    have hll:(lineB sp bs sp.length).length=sp.length:=yRx _ _ _
    have hcm:convE Tryd.prog 5 3 (u8 many_)=some (ii many_):=by rw [c_int un_5 un_3,yNz _ (by omega) (by omega)]
    have hremm : ∀ (x y:Operand),binE Tryd.prog .rem 3 x y (ii many_) (ii ((sp.length:Int)+1))=some (ii (many_.tmod ((sp.length:Int)+1))):=fun x y=>b_rem (by omega)
    have hk:0≤many_.tmod ((sp.length:Int)+1)∧many_.tmod ((sp.length:Int)+1)≤24:=by
      rw [Int.tmod_eq_emod_of_nonneg hm.1]
      have h1:=Int.emod_nonneg many_ (show (sp.length:Int)+1≠0 by omega)
      have h2:=Int.emod_lt_of_pos many_ (show (0:Int)<(sp.length:Int)+1 by omega)
      omega
    generalize many_.tmod ((sp.length:Int)+1)=k at *
    obtain ⟨lv,h1,e1,M1,rfl,hlv⟩:=Line sp (by omega) n24 hok bs h40 hb8 a turn b (X h [.cells (zAy [a,ii turn]) 24] h.clock) (wf.X (by omega)) (hs.up wf _ _) (hb.up wf _ _)
    rw [X_X,X_w] at e1
    have hlv1:=hlv.down
    simp only [List.cons_append,List.nil_append] at e1 hlv1
    generalize hline:lineB sp bs sp.length=line at *
    have hmeas:measR line=((measOf line).1,(measOf line).2,0):=by
      unfold measR
      rw [if_neg (by omega),if_pos (InR.off hok hln)]
    have hch:(measOf line).1=Cost cntI line:=by
      have h0:=cost_meas 0 line
      have h1:=cost_meas 1 line
      rw [Cost_cnt 1 line] at h1
      omega
    have capu:CapU 1 lv:=by
      obtain ⟨_,c,rfl,_,hc⟩:=hlv1
      rcases hc with rfl|rfl
      · exact xYz
      · exact capu_some (Nat.le_refl _)
    have m1:=Measure line lv (by omega) capu (X h (.cells (zAy [a,ii turn]) 24 :: M1) h.clock) (wf.X (by omega)) (by have:=hlv1.sl wf h.clock;rwa [List.length_map] at this)
    rw [hmeas,hch] at m1
    generalize (measOf line).2=be at *
    have hcn:=Cost_cnt_nn line
    obtain ⟨L1,v1,x1,c1,f1,hr1⟩:=spreadX sp turn hs0 a (hca.cape 2) k hk.1 h wf (t.f) (.cells (zAy [a,ii turn]) 24 :: M1) h.clock (by omega) (hs.up wf _ _)
    obtain ⟨L2,v2,x2,c2,f2,hr2⟩:=spreadX sp turn hs0 a (hca.cape 2) (k+1) (by omega) h wf (t.f) (.cells (zAy [a,ii turn]) 24 :: M1++L1) h.clock (by omega) (hs.up wf _ _)
    obtain ⟨L3,v3,x3,c3,f3,hr3⟩:=spreadX sp turn hs0 a (hca.cape 2) (sp.length:Int) (by omega) h wf (t.f) (.cells (zAy [a,ii turn]) 24 :: M1++L1++L2) h.clock (by omega) (hs.up wf _ _)
    obtain ⟨rfl,k3,R3,rfl,hk3,hl3,hR3⟩:x3=0 ∧ ∃ (k3:Nat) (R:List (Int × Int)),v3 = .sl (nx h k3) 0 sp.length none 2∧(.cells (zAy [a,ii turn]) 24 :: M1++L1++L2++L3)[k3]? = some (.cells (zAy (zLz R)) 35)∧R.length=sp.length ∧ ∀ i,i<sp.length→FewR sp (sp.length:Int) i (spot R i):=by
      rcases hr3 with h3|⟨_,_,h3⟩
      · exact h3
      · have:=h3 line hln
        have h4:=xZx line
        omega
    have hR3e:R3=sp:=spots_eq hl3 fun i hi=>few_all hok' (Int.le_refl _) hi (hR3 i hi)
    subst hR3e
    have hrng:=ranges R3 (by omega) (.sl (nx h k3) 0 R3.length none 2) a (X h (.cells (zAy [a,ii turn]) 24 :: M1++L1++L2++L3) h.clock) (wf.X (by omega)) (Sl.new wf (zRy R3) hk3) (hs.up wf _ _)
    simp only [List.cons_append,List.nil_append,List.append_assoc] at c1 c2 c3 hrng hk3 hr1 hr2
    have hlv2:=hlv1.more (L1++(L2++L3))
    simp only [List.cons_append] at hlv2
    have hLine : ∀ i c,line[i]? = some c→Cost cntI line≤k→Few R3 k i c:=fun i c hc hle=>⟨line,hln,hle,hc⟩
    generalize hchg:Cost cntI line=chg at *
    refine zWv (zLv (fn:=Tryd.f5) Tryd.func5 rfl rfl rfl rfl rfl ?_)
    simp only [zKx]
    rcases hr1 with ⟨rfl,k1,R1,rfl,hk1,hl1,hR1⟩|⟨rfl,rfl,hno1⟩
    · obtain ⟨rfl,k2,R2,rfl,hk2,hl2,hR2⟩:x2=0 ∧ ∃ (k2:Nat) (R:List (Int × Int)),v2 = .sl (nx h k2) 0 R3.length none 2∧(AO.cells (zAy [a,ii turn]) 24 :: (M1++(L1++L2)))[k2]? = some (.cells (zAy (zLz R)) 35)∧R.length=R3.length ∧ ∀ i,i<R3.length→FewR R3 (k+1) i (spot R i):=by
        rcases hr2 with h2|⟨_,_,h2⟩
        · exact h2
        · obtain ⟨l,l1,l2,_⟩:=(hR1 0 n1).1
          have:=h2 l l1
          omega
      have hlx : ∀ (id:Pos) (off len esz:Nat) (c:Option Nat) h',lenE Tryd.prog 22 (.sl id off len c esz) h'=some (ii (len:Int)):=fun id off len esz c h'=>by unfold lenE;rw [yIw];rfl
      (repeat' (first
  | (with_reducible first|refine zJz ?_|refine zGw ?_|refine zEw ?_|refine zEx ?_|refine zEv ?_|refine zJy ?_|refine zGv ?_|refine zBw ?_|refine zDx ?_|refine zBv ?_|refine zCx ?_|refine zEz ?_|refine zCw ?_|refine zCz ?_|refine zBz ?_|refine zDv ?_|refine zDy ?_|refine zAx ?_|refine zAv ?_)
  | refine zCv ?_|refine zEy rfl ?_|refine zIw ?_|refine zIv ?_
  | ((first|refine zGx rfl rfl rfl rfl rfl fun K_ hK_=>?_|refine zGy rfl rfl rfl rfl rfl fun K_ hK_=>?_);simp only [zAz,zDz,zFw,↓reduceIte,reduceCtorEq,Nat.reduceEqDiff,Bool.not_true,Bool.not_false];refine hK_ _ ?_;clear hK_ K_)
  | refine zDw (by decide) ?_
  | ((try first|refine zJx rfl rfl rfl ?_|refine zIy rfl rfl ?_|refine zJv rfl rfl rfl ?_|refine zIx rfl rfl ?_);(refine zIz fun Q_ hQ_=>?_;simp (disch:=first|omega|(simp only [List.length_cons,List.length_nil,List.length_append];omega)) only [bb,bp,zKx,↓reduceIte,reduceCtorEq,Nat.reduceEqDiff,Nat.reduceLT,Nat.reduceLeDiff,Nat.reduceAdd,Nat.reduceMul,Nat.reduceSub,Nat.reduceBEq,Int.reduceToNat,cond_true,cond_false,eq_self,beq_self_eq_true,hfine,hlen,hlb,hlx,hcm,hremm,e1,m1,c1,c2,c3,hrng,works',hlv1.flat.1,hlv1.flat.2,ha1.1,ha1.2,zHz wf,zHx wf,zFz wf,zHy wf,zBx wf,tEvbV6,zHw,zQy,zAw wf];first|(refine zCy (Q:=Q_) (fun hp_=>?_) (fun hp_=>?_) <;> first|(exfalso;omega)|(refine hQ_ _ _ ?_;clear hQ_ Q_))|(refine zBy (Q:=Q_) (fun hp_=>?_) (fun hp_=>?_) <;> first|(exfalso;omega)|(refine hQ_ _ _ ?_;clear hQ_ Q_))|(refine hQ_ _ _ ?_;clear hQ_ Q_)))
  | (refine zFv fun K_ hK_=>?_;simp (disch:=omega) only [zFx,zAz,zGz,↓reduceIte,reduceCtorEq,Nat.reduceEqDiff,Nat.reduceLT];refine hK_ _ ?_;clear hK_ K_)))
      have G0:(AO.cells (zAy [a,ii turn]) 24 :: (M1++(L1++(L2++L3))))[0]? = some (.cells (zAy [a,ii turn]) 24):=rfl
      have G1:(AO.cells (zAy [a,ii turn]) 24 :: (M1++(L1++(L2++L3))))[k1]? = some (.cells (zAy (zLz R1)) 35):=by
        have e:AO.cells (zAy [a,ii turn]) 24 :: (M1++(L1++(L2++L3)))=(AO.cells (zAy [a,ii turn]) 24 :: (M1++L1))++(L2++L3):=by simp
        rw [e,List.getElem?_append_left (zHv hk1)];exact hk1
      have G2:(AO.cells (zAy [a,ii turn]) 24 :: (M1++(L1++(L2++L3))))[k2]? = some (.cells (zAy (zLz R2)) 35):=by
        have e:AO.cells (zAy [a,ii turn]) 24 :: (M1++(L1++(L2++L3)))=(AO.cells (zAy [a,ii turn]) 24 :: (M1++(L1++L2)))++L3:=by simp
        rw [e,List.getElem?_append_left (zHv hk2)];exact hk2
      clear e1 m1 c1 c2 c3 hrng hk1 hk2 hk3 hr3 hR3
      generalize AO.cells (zAy [a,ii turn]) 24 :: (M1++(L1++(L2++L3)))=LL at *
      refine zVz (fun (i:Nat) f d h'=>i≤R3.length∧(f 3=u8 which_∧f 4 = .ptr (nx h 0) 0∧f 9=ii (R3.length:Int)∧f 10=ii k∧f 11=lv∧f 12=ii chg∧f 15 = .sl (nx h k1) 0 R3.length none 2∧f 17 = .sl (nx h k2) 0 R3.length none 2)∧f 21=ii (i:Int)∧d=[]∧h'=X h LL h.clock) (fun i=>R3.length - i) ?_ (R3.length+1) 0 (by omega) ?_
      rotate_left 1
      · exact ⟨by omega,⟨by (try simp only [zAz,↓reduceIte,reduceCtorEq,Nat.reduceEqDiff]) <;> rfl,by (try simp only [zAz,↓reduceIte,reduceCtorEq,Nat.reduceEqDiff]) <;> rfl,by (try simp only [zAz,↓reduceIte,reduceCtorEq,Nat.reduceEqDiff]) <;> rfl,by (try simp only [zAz,↓reduceIte,reduceCtorEq,Nat.reduceEqDiff]) <;> rfl,by (try simp only [zAz,↓reduceIte,reduceCtorEq,Nat.reduceEqDiff]) <;> rfl,by (try simp only [zAz,↓reduceIte,reduceCtorEq,Nat.reduceEqDiff]) <;> rfl,by (try simp only [zAz,↓reduceIte,reduceCtorEq,Nat.reduceEqDiff]) <;> rfl,by (try simp only [zAz,↓reduceIte,reduceCtorEq,Nat.reduceEqDiff]) <;> rfl⟩,by (try simp only [zAz,↓reduceIte,reduceCtorEq,Nat.reduceEqDiff]) <;> rfl,rfl,rfl⟩
      rintro i f d h' ⟨hi,⟨g3,g4,g9,g10,g11,g12,g15,g17⟩,g21,rfl,rfl⟩
      have hld : ∀ (kk:Nat) (R:List (Int × Int)) (j:Nat),LL[kk]? = some (.cells (zAy (zLz R)) 35)→j<R.length→(∀ w,load1 (nx h kk) (j * 2) (X h LL w)=some (ii (spot R j).1)) ∧ ∀ w,load1 (nx h kk) (j * 2+1) (X h LL w)=some (ii (spot R j).2):=fun kk R j hg hj=>by
        have p0:=yOy hj (q:=0) (by decide)
        have p1:=yOy hj (q:=1) (by decide)
        rw [zPz hj] at p0 p1
        exact ⟨fun w=>by rw [zHx wf,hg,yBz];exact p0,fun w=>by rw [zHx wf,hg,yBz];exact p1⟩
      by_cases hlt:i<R3.length
      · obtain ⟨id0,off0,hix0,hld0⟩:=hs.at wf hlt yLz
        have hlo : ∀ l w,load1 id0 off0 (X h l w)=some (ii (spot R3 i).1):=fun l w=>by have:=(hld0 l w).1 0 (by decide);rw [Nat.add_zero,(zUx hlt).1,zPz hlt] at this;exact this
        have hhi : ∀ l w,load1 id0 (off0+1) (X h l w)=some (ii (spot R3 i).2):=fun l w=>by have:=(hld0 l w).1 1 (by decide);rw [(zUx hlt).2,zPz hlt] at this;exact this
        obtain ⟨p1,q1⟩:=hld k1 R1 i G1 (by omega)
        obtain ⟨p2,q2⟩:=hld k2 R2 i G2 (by omega)
        have j1:=ix_22 (q:=nx h k1) hlt
        have j2:=ix_22 (q:=nx h k2) hlt
        obtain ⟨fa,fb,fc⟩:=hR1 i hlt
        obtain ⟨ga,gb,gc⟩:=hR2 i hlt
        have ra:=xCy fa
        have rb:=xCy fb
        have rc:=(fc _ fa).2
        have rd:=gc _ (few_anti (by omega) fa)
        have re:=gc _ (few_anti (by omega) fb)
        have hil:i<line.length:=by omega
        have hlc:=List.getElem?_eq_getElem hil
        have hfew:=hLine i _ hlc
        generalize line[i]=y at hlc hfew
        obtain ⟨jl,cl,elv,hjl,_⟩:=hlv2
        have hll2:(line.map ii).length=R3.length:=by rw [List.length_map];exact hll
        rw [hll2] at elv
        have ixl:indexAddrE Tryd.prog 30 lv (.int .i64 (i:Int))=some (.ptr (nx h jl) i):=by
          rw [elv,zSy,zTv];dsimp only;rw [ik_30];dsimp only;rw [zZy hlt,Nat.zero_add,Nat.mul_one]
        have ldl : ∀ w,load1 (nx h jl) i (X h LL w)=some (ii y):=fun w=>by
          rw [zHx wf,hjl,yBz,List.getElem?_map,hlc];rfl
        have b0 : ∀ w,load1 (nx h 0) 0 (X h LL w)=some a:=fun w=>by rw [zHx wf,G0];rfl
        generalize (spot R1 i).1=u1 at *
        generalize (spot R1 i).2=u2 at *
        generalize (spot R2 i).1=w1 at *
        generalize (spot R2 i).2=w2 at *
        generalize (spot R3 i).1=s1 at *
        generalize (spot R3 i).2=s2 at *
        clear hld hld0
        by_cases hck:chg≤k
        · have hy:=fc _ (hfew hck)
          clear hfew fa fb fc ga gb gc
          (repeat' (first
  | (with_reducible first|refine zJz ?_|refine zGw ?_|refine zEw ?_|refine zEx ?_|refine zEv ?_|refine zJy ?_|refine zGv ?_|refine zBw ?_|refine zDx ?_|refine zBv ?_|refine zCx ?_|refine zEz ?_|refine zCw ?_|refine zCz ?_|refine zBz ?_|refine zDv ?_|refine zDy ?_|refine zAx ?_|refine zAv ?_)
  | refine zCv ?_|refine zEy rfl ?_|refine zIw ?_|refine zIv ?_
  | ((first|refine zGx rfl rfl rfl rfl rfl fun K_ hK_=>?_|refine zGy rfl rfl rfl rfl rfl fun K_ hK_=>?_);simp only [zAz,zDz,zFw,↓reduceIte,reduceCtorEq,Nat.reduceEqDiff,Bool.not_true,Bool.not_false];refine hK_ _ ?_;clear hK_ K_)
  | refine zDw (by decide) ?_
  | ((try first|refine zJx rfl rfl rfl ?_|refine zIy rfl rfl ?_|refine zJv rfl rfl rfl ?_|refine zIx rfl rfl ?_);(refine zIz fun Q_ hQ_=>?_;simp (disch:=first|omega|(simp only [List.length_cons,List.length_nil,List.length_append];omega)) only [bb,bp,zKx,↓reduceIte,reduceCtorEq,Nat.reduceEqDiff,Nat.reduceLT,Nat.reduceLeDiff,Nat.reduceAdd,Nat.reduceMul,Nat.reduceSub,Nat.reduceBEq,Int.reduceToNat,cond_true,cond_false,eq_self,beq_self_eq_true,g3,g4,g9,g10,g11,g12,g15,g17,g21,tEvbV6,zHw,zQy,zAw wf];first|(refine zCy (Q:=Q_) (fun hp_=>?_) (fun hp_=>?_) <;> first|(exfalso;omega)|(refine hQ_ _ _ ?_;clear hQ_ Q_))|(refine zBy (Q:=Q_) (fun hp_=>?_) (fun hp_=>?_) <;> first|(exfalso;omega)|(refine hQ_ _ _ ?_;clear hQ_ Q_))|(refine hQ_ _ _ ?_;clear hQ_ Q_)))
  | (refine zFv fun K_ hK_=>?_;simp (disch:=omega) only [zFx,zAz,zGz,↓reduceIte,reduceCtorEq,Nat.reduceEqDiff,Nat.reduceLT];refine hK_ _ ?_;clear hK_ K_)))
          refine zMw [.no,.no,.no,.no,.no,.no,.no,.no,.no,.no,.no,.full,.full,.no,.no,.no,.no,.no,.no,.no,.no,.no,.no,.no,.full,.full,.full,.no,.no,.no,.no,.no,.no,.no,.no,.no,.no,.full,.full,.full,.no,.no,.no,.no,.no,.no,.no,.no,.no,.no,.full,.full,.full,.no,.no,.no,.no,.no,.no,.no,.no,.no,.no,.full,.full,.full,.full,.full,.full,.full,.no,.no,.no,.no,.no,.no,.no,.no,.no,.full,.full,.no,.no,.no,.no,.no,.no,.no,.no,.no,.full,.full,.full,.full] (by kernel_rfl) ?_
          (repeat' (first
  | (with_reducible first|refine zJz ?_|refine zGw ?_|refine zEw ?_|refine zEx ?_|refine zEv ?_|refine zJy ?_|refine zGv ?_|refine zBw ?_|refine zDx ?_|refine zBv ?_|refine zCx ?_|refine zEz ?_|refine zCw ?_|refine zCz ?_|refine zBz ?_|refine zDv ?_|refine zDy ?_|refine zAx ?_|refine zAv ?_)
  | refine zCv ?_|refine zEy rfl ?_|refine zIw ?_|refine zIv ?_
  | ((first|refine zGx rfl rfl rfl rfl rfl fun K_ hK_=>?_|refine zGy rfl rfl rfl rfl rfl fun K_ hK_=>?_);simp only [zAz,zDz,zFw,↓reduceIte,reduceCtorEq,Nat.reduceEqDiff,Bool.not_true,Bool.not_false];refine hK_ _ ?_;clear hK_ K_)
  | refine zDw (by decide) ?_
  | ((try first|refine zJx rfl rfl rfl ?_|refine zIy rfl rfl ?_|refine zJv rfl rfl rfl ?_|refine zIx rfl rfl ?_);(refine zIz fun Q_ hQ_=>?_;simp (disch:=first|omega|(simp only [List.length_cons,List.length_nil,List.length_append];omega)) only [bb,bp,zKx,↓reduceIte,reduceCtorEq,Nat.reduceEqDiff,Nat.reduceLT,Nat.reduceLeDiff,Nat.reduceAdd,Nat.reduceMul,Nat.reduceSub,Nat.reduceBEq,Int.reduceToNat,cond_true,cond_false,eq_self,beq_self_eq_true,g3,g4,g9,g10,g11,g12,g15,g17,g21,b0,hix0,hlo,hhi,p1,q1,p2,q2,j1,j2,ixl,ldl,tEvbV6,zHw,zQy,zAw wf];first|(refine zCy (Q:=Q_) (fun hp_=>?_) (fun hp_=>?_) <;> first|(exfalso;omega)|(refine hQ_ _ _ ?_;clear hQ_ Q_))|(refine zBy (Q:=Q_) (fun hp_=>?_) (fun hp_=>?_) <;> first|(exfalso;omega)|(refine hQ_ _ _ ?_;clear hQ_ Q_))|(refine hQ_ _ _ ?_;clear hQ_ Q_)))
  | (refine zFv fun K_ hK_=>?_;simp (disch:=omega) only [zFx,zAz,zGz,↓reduceIte,reduceCtorEq,Nat.reduceEqDiff,Nat.reduceLT];refine hK_ _ ?_;clear hK_ K_)))
          exact zKw (i+1) (by omega) ⟨hlt,⟨by simp only [zAz,↓reduceIte,reduceCtorEq,Nat.reduceEqDiff];exact g3,by simp only [zAz,↓reduceIte,reduceCtorEq,Nat.reduceEqDiff];exact g4,by simp only [zAz,↓reduceIte,reduceCtorEq,Nat.reduceEqDiff];exact g9,by simp only [zAz,↓reduceIte,reduceCtorEq,Nat.reduceEqDiff];exact g10,by simp only [zAz,↓reduceIte,reduceCtorEq,Nat.reduceEqDiff];exact g11,by simp only [zAz,↓reduceIte,reduceCtorEq,Nat.reduceEqDiff];exact g12,by simp only [zAz,↓reduceIte,reduceCtorEq,Nat.reduceEqDiff];exact g15,by simp only [zAz,↓reduceIte,reduceCtorEq,Nat.reduceEqDiff];exact g17⟩,by simp only [zAz,↓reduceIte,reduceCtorEq,Nat.reduceEqDiff];rfl,rfl,rfl⟩
        · clear hfew fa fb fc ga gb gc
          (repeat' (first
  | (with_reducible first|refine zJz ?_|refine zGw ?_|refine zEw ?_|refine zEx ?_|refine zEv ?_|refine zJy ?_|refine zGv ?_|refine zBw ?_|refine zDx ?_|refine zBv ?_|refine zCx ?_|refine zEz ?_|refine zCw ?_|refine zCz ?_|refine zBz ?_|refine zDv ?_|refine zDy ?_|refine zAx ?_|refine zAv ?_)
  | refine zCv ?_|refine zEy rfl ?_|refine zIw ?_|refine zIv ?_
  | ((first|refine zGx rfl rfl rfl rfl rfl fun K_ hK_=>?_|refine zGy rfl rfl rfl rfl rfl fun K_ hK_=>?_);simp only [zAz,zDz,zFw,↓reduceIte,reduceCtorEq,Nat.reduceEqDiff,Bool.not_true,Bool.not_false];refine hK_ _ ?_;clear hK_ K_)
  | refine zDw (by decide) ?_
  | ((try first|refine zJx rfl rfl rfl ?_|refine zIy rfl rfl ?_|refine zJv rfl rfl rfl ?_|refine zIx rfl rfl ?_);(refine zIz fun Q_ hQ_=>?_;simp (disch:=first|omega|(simp only [List.length_cons,List.length_nil,List.length_append];omega)) only [bb,bp,zKx,↓reduceIte,reduceCtorEq,Nat.reduceEqDiff,Nat.reduceLT,Nat.reduceLeDiff,Nat.reduceAdd,Nat.reduceMul,Nat.reduceSub,Nat.reduceBEq,Int.reduceToNat,cond_true,cond_false,eq_self,beq_self_eq_true,g3,g4,g9,g10,g11,g12,g15,g17,g21,tEvbV6,zHw,zQy,zAw wf];first|(refine zCy (Q:=Q_) (fun hp_=>?_) (fun hp_=>?_) <;> first|(exfalso;omega)|(refine hQ_ _ _ ?_;clear hQ_ Q_))|(refine zBy (Q:=Q_) (fun hp_=>?_) (fun hp_=>?_) <;> first|(exfalso;omega)|(refine hQ_ _ _ ?_;clear hQ_ Q_))|(refine hQ_ _ _ ?_;clear hQ_ Q_)))
  | (refine zFv fun K_ hK_=>?_;simp (disch:=omega) only [zFx,zAz,zGz,↓reduceIte,reduceCtorEq,Nat.reduceEqDiff,Nat.reduceLT];refine hK_ _ ?_;clear hK_ K_)))
          refine zMw [.no,.no,.no,.no,.no,.no,.no,.no,.no,.no,.no,.full,.full,.no,.no,.no,.no,.no,.no,.no,.no,.no,.no,.no,.full,.full,.full,.no,.no,.no,.no,.no,.no,.no,.no,.no,.no,.full,.full,.full,.no,.no,.no,.no,.no,.no,.no,.no,.no,.no,.full,.full,.full,.no,.no,.no,.no,.no,.no,.no,.no,.no,.no,.full,.full,.full,.full,.full,.full,.full,.no,.no,.no,.no,.no,.no,.no,.no,.no,.full,.full,.no,.no,.no,.no,.no,.no,.no,.no,.no,.full,.full,.full,.full] (by kernel_rfl) ?_
          (repeat' (first
  | (with_reducible first|refine zJz ?_|refine zGw ?_|refine zEw ?_|refine zEx ?_|refine zEv ?_|refine zJy ?_|refine zGv ?_|refine zBw ?_|refine zDx ?_|refine zBv ?_|refine zCx ?_|refine zEz ?_|refine zCw ?_|refine zCz ?_|refine zBz ?_|refine zDv ?_|refine zDy ?_|refine zAx ?_|refine zAv ?_)
  | refine zCv ?_|refine zEy rfl ?_|refine zIw ?_|refine zIv ?_
  | ((first|refine zGx rfl rfl rfl rfl rfl fun K_ hK_=>?_|refine zGy rfl rfl rfl rfl rfl fun K_ hK_=>?_);simp only [zAz,zDz,zFw,↓reduceIte,reduceCtorEq,Nat.reduceEqDiff,Bool.not_true,Bool.not_false];refine hK_ _ ?_;clear hK_ K_)
  | refine zDw (by decide) ?_
  | ((try first|refine zJx rfl rfl rfl ?_|refine zIy rfl rfl ?_|refine zJv rfl rfl rfl ?_|refine zIx rfl rfl ?_);(refine zIz fun Q_ hQ_=>?_;simp (disch:=first|omega|(simp only [List.length_cons,List.length_nil,List.length_append];omega)) only [bb,bp,zKx,↓reduceIte,reduceCtorEq,Nat.reduceEqDiff,Nat.reduceLT,Nat.reduceLeDiff,Nat.reduceAdd,Nat.reduceMul,Nat.reduceSub,Nat.reduceBEq,Int.reduceToNat,cond_true,cond_false,eq_self,beq_self_eq_true,g3,g4,g9,g10,g11,g12,g15,g17,g21,b0,hix0,hlo,hhi,p1,q1,p2,q2,j1,j2,ixl,ldl,tEvbV6,zHw,zQy,zAw wf];first|(refine zCy (Q:=Q_) (fun hp_=>?_) (fun hp_=>?_) <;> first|(exfalso;omega)|(refine hQ_ _ _ ?_;clear hQ_ Q_))|(refine zBy (Q:=Q_) (fun hp_=>?_) (fun hp_=>?_) <;> first|(exfalso;omega)|(refine hQ_ _ _ ?_;clear hQ_ Q_))|(refine hQ_ _ _ ?_;clear hQ_ Q_)))
  | (refine zFv fun K_ hK_=>?_;simp (disch:=omega) only [zFx,zAz,zGz,↓reduceIte,reduceCtorEq,Nat.reduceEqDiff,Nat.reduceLT];refine hK_ _ ?_;clear hK_ K_)))
          exact zKw (i+1) (by omega) ⟨hlt,⟨by simp only [zAz,↓reduceIte,reduceCtorEq,Nat.reduceEqDiff];exact g3,by simp only [zAz,↓reduceIte,reduceCtorEq,Nat.reduceEqDiff];exact g4,by simp only [zAz,↓reduceIte,reduceCtorEq,Nat.reduceEqDiff];exact g9,by simp only [zAz,↓reduceIte,reduceCtorEq,Nat.reduceEqDiff];exact g10,by simp only [zAz,↓reduceIte,reduceCtorEq,Nat.reduceEqDiff];exact g11,by simp only [zAz,↓reduceIte,reduceCtorEq,Nat.reduceEqDiff];exact g12,by simp only [zAz,↓reduceIte,reduceCtorEq,Nat.reduceEqDiff];exact g15,by simp only [zAz,↓reduceIte,reduceCtorEq,Nat.reduceEqDiff];exact g17⟩,by simp only [zAz,↓reduceIte,reduceCtorEq,Nat.reduceEqDiff];rfl,rfl,rfl⟩
      · have hie:i=R3.length:=by omega
        subst hie
        have hq2 : ∀ (x y:Operand),binE Tryd.prog .quo 5 x y (u8 which_) (.int .u8 2)=some (.int .u8 (which_.tdiv 2)):=fun x y=>b_quo2 hw
        have hr2' : ∀ (x y:Operand),binE Tryd.prog .rem 5 x y (u8 which_) (.int .u8 2)=some (.int .u8 (which_.tmod 2)):=fun x y=>b_rem2
        have he8 : ∀ (x y:Operand),binE Tryd.prog .eql 5 x y (.int .u8 (which_.tmod 2)) (.int .u8 1)=some (.bool (decide (which_.tmod 2=1))):=fun x y=>b_eq8 un_5
        have hqb:0≤which_.tdiv 2∧which_.tdiv 2≤127:=by rw [Int.tdiv_eq_ediv_of_nonneg hw.1];omega
        have hcq:convE Tryd.prog 5 3 (.int .u8 (which_.tdiv 2))=some (ii (which_.tdiv 2)):=by rw [c_int un_5 un_3,yNz _ (by omega) (by omega)]
        have hrq : ∀ (x y:Operand),binE Tryd.prog .rem 3 x y (ii (which_.tdiv 2)) (ii (R3.length:Int))=some (ii ((which_.tdiv 2).tmod (R3.length:Int))):=fun x y=>b_rem (by omega)
        have hat:0≤(which_.tdiv 2).tmod (R3.length:Int)∧(which_.tdiv 2).tmod (R3.length:Int)<(R3.length:Int):=by
          rw [Int.tmod_eq_emod_of_nonneg hqb.1]
          exact ⟨Int.emod_nonneg _ (by omega),Int.emod_lt_of_pos _ (by omega)⟩
        generalize (which_.tdiv 2).tmod (R3.length:Int)=q at *
        obtain ⟨j,rfl⟩ : ∃ j:Nat,q=(j:Int):=⟨q.toNat,by omega⟩
        have hj:j<R3.length:=by omega
        have jx:=ix_22 (q:=nx h k1) hj
        obtain ⟨p1,q1⟩:=hld k1 R1 j G1 (by omega)
        obtain ⟨fa,fb,fc⟩:=hR1 j hj
        have b0 : ∀ w,load1 (nx h 0) 0 (X h LL w)=some a:=fun w=>by rw [zHx wf,G0];rfl
        have gv : ∀ F,(LL++F)[0]? = some (.cells (zAy [a,ii turn]) 24):=fun F=>by rw [List.getElem?_append_left (zHv G0)];exact G0
        have hcape2 : ∀ id,Cape 2 (.sl id 0 R3.length none 2):=fun id=>(xYz (m:=2)).2
        have main : ∀ en:Int,Few R3 k j en → ∃ (L4:List AO) (k4:Nat),(om Tryd.prog KK).call (.fn 13 [.agg [.sl (nx h (LL.length+1)) 0 R3.length none 2,ii turn],ii k]) (X h (LL++[.cells (zAy []) 35,.cells (zAy (zLz (R3.set j (en,en)))) 35,.cells (zAy [.sl (nx h (LL.length+1)) 0 R3.length none 2,ii turn]) 24]) h.clock) = .ok (.tup [.sl (nx h k4) 0 R3.length none 2,ii 0]) (X h (LL++(.cells (zAy []) 35 :: .cells (zAy (zLz (R3.set j (en,en)))) 35 :: .cells (zAy [.sl (nx h (LL.length+1)) 0 R3.length none 2,ii turn]) 24 :: L4)) h.clock) ∧
            (∀ w,loadAgg (nx h k4) (j * 2) (some 2) (X h (LL++(.cells (zAy []) 35 :: .cells (zAy (zLz (R3.set j (en,en)))) 35 :: .cells (zAy [.sl (nx h (LL.length+1)) 0 R3.length none 2,ii turn]) 24 :: L4)) w)=some (.agg [ii en,ii en])) ∧
            (∀ w,loadAgg (nx h (LL.length+1)) (j * 2) (some 2) (X h (LL++(.cells (zAy []) 35 :: .cells (zAy (zLz (R3.set j (en,en)))) 35 :: .cells (zAy [.sl (nx h (LL.length+1)) 0 R3.length none 2,ii turn]) 24 :: L4)) w)=some (.agg [ii en,ii en])):=fun en hen=>by
          have hin:=xCy hen
          have hsj:spot (R3.set j (en,en)) j=(en,en):=by unfold spot;simp [List.getD,hj]
          have hsn : ∀ i,i≠j→spot (R3.set j (en,en)) i=spot R3 i:=fun i hi=>by unfold spot;simp only [List.getD];rw [List.getElem?_set_ne (by omega)]
          have hlset:(R3.set j (en,en)).length=R3.length:=List.length_set
          have hokj:=hok _ (List.getElem_mem hj)
          rw [zPz hj] at hokj
          obtain ⟨⟨o1,o2⟩,⟨o3,o4⟩,o5,o6⟩:=hokj
          have hv':spotsR (R3.set j (en,en)) turn=0:=spotsR_of (by omega) (by omega) (fun r hr=>by
            rcases List.mem_or_eq_of_mem_set hr with h1|h1
            · exact hok r h1
            · rw [h1];exact ⟨⟨by show -1000000≤en;omega,by show en≤1000000;omega⟩,⟨by show -1000000≤en;omega,by show en≤1000000;omega⟩,Int.le_refl _,by show en - en≤4;omega⟩) hturn
          have hfew':Few (R3.set j (en,en)) k j en:=by
            obtain ⟨l,l1,l2,l3⟩:=hen
            refine ⟨l,inR_of (by rw [hlset];exact l1.length) fun i c hc=>?_,l2,l3⟩
            by_cases e:i=j
            · subst e
              rw [l3] at hc
              rw [hsj,Option.some.inj hc];exact ⟨Int.le_refl _,Int.le_refl _⟩
            · rw [hsn i e];exact xHz l1 hc
          obtain ⟨L4,v4,x4,c4,f4,hr4⟩:=spreadX (R3.set j (en,en)) turn hv' (.sl (nx h (LL.length+1)) 0 R3.length none 2) (hcape2 _) k hk.1 h wf t.f (LL++[.cells (zAy []) 35,.cells (zAy (zLz (R3.set j (en,en)))) 35,.cells (zAy [.sl (nx h (LL.length+1)) 0 R3.length none 2,ii turn]) 24]) h.clock (by omega) (by
            rw [hlset]
            exact Sl.new wf (by rw [zRy,hlset]) (by rw [zLw];rfl))
          obtain ⟨rfl,k4,R4,rfl,hk4,hl4,hR4⟩:x4=0 ∧ ∃ (k4:Nat) (R:List (Int × Int)),v4 = .sl (nx h k4) 0 (R3.set j (en,en)).length none 2∧(LL++[AO.cells (zAy []) 35,.cells (zAy (zLz (R3.set j (en,en)))) 35,.cells (zAy [.sl (nx h (LL.length+1)) 0 R3.length none 2,ii turn]) 24]++L4)[k4]? = some (.cells (zAy (zLz R)) 35)∧R.length=(R3.set j (en,en)).length ∧ ∀ i,i<(R3.set j (en,en)).length→FewR (R3.set j (en,en)) k i (spot R i):=by
            rcases hr4 with h4|⟨_,_,h4⟩
            · exact h4
            · obtain ⟨l,l1,l2,_⟩:=hfew'
              have:=h4 l l1
              omega
          rw [hlset] at c4 hl4
          have hr:=hR4 j (by omega)
          have hx1:=xCy hr.1
          have hx2:=xCy hr.2.1
          rw [hsj] at hx1 hx2
          have hR4j:spot R4 j=(en,en):=Prod.ext (by show (spot R4 j).1=en;dsimp only at hx1;omega) (by show (spot R4 j).2=en;dsimp only at hx2;omega)
          simp only [List.append_assoc,List.cons_append,List.nil_append] at c4 hk4
          refine ⟨L4,k4,c4,fun w=>?_,fun w=>?_⟩
          · rw [zFz wf,hk4,zOx (by decide),if_pos (by rw [zRy];omega),yAv (by omega),zPz (by omega),hR4j]
          · rw [zFz wf,zLw]
            show aggAt (some (.cells (zAy (zLz (R3.set j (en,en)))) 35)) (j * 2) 2=_
            rw [zOx (by decide),if_pos (by rw [zRy];omega),yAv (by omega),zPz (by omega),hsj]
        have hsrc : ∀ l w,srcCells (X h l w) 2 (reszT Tryd.prog 22 a)=some (R3.length,zKv R3):=fun l w=>(hs.up wf l w).srcE (P:=Tryd.prog) (hca.cape 2) yIw zRw
        have rs22 : ∀ (id:Pos) (off len c esz:Nat),reszT Tryd.prog 22 (.sl id off len (some c) esz) = .sl id off len (some c) 2:=fun id off len c esz=>yAx yIw zRw
        have a1 : ∀ w,appendE Tryd.prog 22 (.sl (nx h LL.length) 0 0 (some 0) 2) (reszT Tryd.prog 22 a) (X h (LL++[.cells (zAy []) 35]) w) = .ok (.sl (nx h (LL.length+1)) 0 R3.length none 2) (X h (LL++[.cells (zAy []) 35,.cells (zAy (zLz R3)) 35]) w):=fun w=>by
          have:=yZz (P:=Tryd.prog) (l:=LL++[.cells (zAy []) 35]) (k:=LL.length) (w:=w) (t:=22) (old:=[]) (e':=35) wf yIw zRw el_35 (x:=reszT Tryd.prog 22 a) (n:=R3.length) (new:=zKv R3) (by omega) (by omega) (by decide) (by rw [zNx];rfl) (hsrc _ _) (zRy R3)
          simpa only [List.length_append,List.length_cons,List.length_nil,List.append_assoc,List.cons_append,List.nil_append,Nat.zero_add] using this
        have jy:=ix_22 (q:=nx h (LL.length+1)) hj
        have hst : ∀ en w,writeCells (nx h (LL.length+1)) (j * 2) [ii en,ii en] (X h (LL++[.cells (zAy []) 35,.cells (zAy (zLz R3)) 35,.cells (zAy [.sl (nx h (LL.length+1)) 0 R3.length none 2,ii turn]) 24]) w)=some (X h (LL++[.cells (zAy []) 35,.cells (zAy (zLz (R3.set j (en,en)))) 35,.cells (zAy [.sl (nx h (LL.length+1)) 0 R3.length none 2,ii turn]) 24]) (min (h.clock+(LL.length+1)) w)):=fun en w=>by
          rw [zBx wf,zLw]
          show (match writeAt (some (.cells (zAy (zLz R3)) 35)) (j * 2) [ii en,ii en] with|some o=>_|none=>_)=_
          rw [zUz,if_pos (by rw [zRy,List.length_cons,List.length_cons,List.length_nil];omega),xBy _ _ _ _ hj]
          show some (X h ((LL++_).set (LL.length+1) _) _)=_
          rw [zOv]
          rfl
        have hst0 : ∀ w,writeCells (nx h (LL.length+2)) 0 [.sl (nx h (LL.length+1)) 0 R3.length none 2,ii turn] (X h (LL++[.cells (zAy []) 35,.cells (zAy (zLz R3)) 35,.cells (zAy [.nils,.int .i64 0]) 24]) w)=some (X h (LL++[.cells (zAy []) 35,.cells (zAy (zLz R3)) 35,.cells (zAy [.sl (nx h (LL.length+1)) 0 R3.length none 2,ii turn]) 24]) (min (h.clock+(LL.length+2)) w)):=fun w=>by
          rw [zBx wf,zLw]
          show some (X h ((LL++_).set (LL.length+2) _) _)=_
          rw [zOv]
          rfl
        by_cases hone:which_.tmod 2=1
        · rw [decide_eq_true hone] at he8
          obtain ⟨L4,k4,c4,l4a,l4b⟩:=main _ fb
          have hst':=hst (spot R1 j).2
          have jz:=ix_22 (q:=nx h k4) hj
          generalize (spot R1 j).2=en at *
          (repeat' (first
  | (with_reducible first|refine zJz ?_|refine zGw ?_|refine zEw ?_|refine zEx ?_|refine zEv ?_|refine zJy ?_|refine zGv ?_|refine zBw ?_|refine zDx ?_|refine zBv ?_|refine zCx ?_|refine zEz ?_|refine zCw ?_|refine zCz ?_|refine zBz ?_|refine zDv ?_|refine zDy ?_|refine zAx ?_|refine zAv ?_)
  | refine zCv ?_|refine zEy rfl ?_|refine zIw ?_|refine zIv ?_
  | ((first|refine zGx rfl rfl rfl rfl rfl fun K_ hK_=>?_|refine zGy rfl rfl rfl rfl rfl fun K_ hK_=>?_);simp only [zAz,zDz,zFw,↓reduceIte,reduceCtorEq,Nat.reduceEqDiff,Bool.not_true,Bool.not_false];refine hK_ _ ?_;clear hK_ K_)
  | refine zDw (by decide) ?_
  | ((try first|refine zJx rfl rfl rfl ?_|refine zIy rfl rfl ?_|refine zJv rfl rfl rfl ?_|refine zIx rfl rfl ?_);(refine zIz fun Q_ hQ_=>?_;simp (disch:=first|omega|(simp only [List.length_cons,List.length_nil,List.length_append];omega)) only [bb,bp,zKx,↓reduceIte,reduceCtorEq,Nat.reduceEqDiff,Nat.reduceLT,Nat.reduceLeDiff,Nat.reduceAdd,Nat.reduceMul,Nat.reduceSub,Nat.reduceBEq,Int.reduceToNat,cond_true,cond_false,eq_self,beq_self_eq_true,g3,g4,g9,g10,g11,g12,g15,g17,g21,hq2,hr2',he8,hcq,hrq,jx,p1,q1,hlx,tEvbV6,zHw,zQy,zAw wf];first|(refine zCy (Q:=Q_) (fun hp_=>?_) (fun hp_=>?_) <;> first|(exfalso;omega)|(refine hQ_ _ _ ?_;clear hQ_ Q_))|(refine zBy (Q:=Q_) (fun hp_=>?_) (fun hp_=>?_) <;> first|(exfalso;omega)|(refine hQ_ _ _ ?_;clear hQ_ Q_))|(refine hQ_ _ _ ?_;clear hQ_ Q_)))
  | (refine zFv fun K_ hK_=>?_;simp (disch:=omega) only [zFx,zAz,zGz,↓reduceIte,reduceCtorEq,Nat.reduceEqDiff,Nat.reduceLT];refine hK_ _ ?_;clear hK_ K_)))
          refine zMw [.no,.no,.no,.no,.no,.no,.no,.no,.full] (by kernel_rfl) ?_
          (repeat' (first
  | (with_reducible first|refine zJz ?_|refine zGw ?_|refine zEw ?_|refine zEx ?_|refine zEv ?_|refine zJy ?_|refine zGv ?_|refine zBw ?_|refine zDx ?_|refine zBv ?_|refine zCx ?_|refine zEz ?_|refine zCw ?_|refine zCz ?_|refine zBz ?_|refine zDv ?_|refine zDy ?_|refine zAx ?_|refine zAv ?_)
  | refine zCv ?_|refine zEy rfl ?_|refine zIw ?_|refine zIv ?_
  | ((first|refine zGx rfl rfl rfl rfl rfl fun K_ hK_=>?_|refine zGy rfl rfl rfl rfl rfl fun K_ hK_=>?_);simp only [zAz,zDz,zFw,↓reduceIte,reduceCtorEq,Nat.reduceEqDiff,Bool.not_true,Bool.not_false];refine hK_ _ ?_;clear hK_ K_)
  | refine zDw (by decide) ?_
  | ((try first|refine zJx rfl rfl rfl ?_|refine zIy rfl rfl ?_|refine zJv rfl rfl rfl ?_|refine zIx rfl rfl ?_);(refine zIz fun Q_ hQ_=>?_;simp (disch:=first|omega|(simp only [List.length_cons,List.length_nil,List.length_append];omega)) only [bb,bp,zKx,↓reduceIte,reduceCtorEq,Nat.reduceEqDiff,Nat.reduceLT,Nat.reduceLeDiff,Nat.reduceAdd,Nat.reduceMul,Nat.reduceSub,Nat.reduceBEq,Int.reduceToNat,cond_true,cond_false,eq_self,beq_self_eq_true,g3,g4,g9,g10,g11,g12,g15,g17,g21,gv,a1,rs22,jy,hst',hst0,c4,ha1.1,ha1.2,zHz wf,zHx wf,zFz wf,zHy wf,tEvbV6,zHw,zQy,zAw wf];first|(refine zCy (Q:=Q_) (fun hp_=>?_) (fun hp_=>?_) <;> first|(exfalso;omega)|(refine hQ_ _ _ ?_;clear hQ_ Q_))|(refine zBy (Q:=Q_) (fun hp_=>?_) (fun hp_=>?_) <;> first|(exfalso;omega)|(refine hQ_ _ _ ?_;clear hQ_ Q_))|(refine hQ_ _ _ ?_;clear hQ_ Q_)))
  | (refine zFv fun K_ hK_=>?_;simp (disch:=omega) only [zFx,zAz,zGz,↓reduceIte,reduceCtorEq,Nat.reduceEqDiff,Nat.reduceLT];refine hK_ _ ?_;clear hK_ K_)))
          refine zMw [.full,.full,.full,.full,.full,.no,.full,.full,.full,.no,.no,.no,.no,.no,.no,.no,.no,.no,.full,.full,.full,.full,.full,.full] (by kernel_rfl) ?_
          (repeat' (first
  | (with_reducible first|refine zJz ?_|refine zGw ?_|refine zEw ?_|refine zEx ?_|refine zEv ?_|refine zJy ?_|refine zGv ?_|refine zBw ?_|refine zDx ?_|refine zBv ?_|refine zCx ?_|refine zEz ?_|refine zCw ?_|refine zCz ?_|refine zBz ?_|refine zDv ?_|refine zDy ?_|refine zAx ?_|refine zAv ?_)
  | refine zCv ?_|refine zEy rfl ?_|refine zIw ?_|refine zIv ?_
  | ((first|refine zGx rfl rfl rfl rfl rfl fun K_ hK_=>?_|refine zGy rfl rfl rfl rfl rfl fun K_ hK_=>?_);simp only [zAz,zDz,zFw,↓reduceIte,reduceCtorEq,Nat.reduceEqDiff,Bool.not_true,Bool.not_false];refine hK_ _ ?_;clear hK_ K_)
  | refine zDw (by decide) ?_
  | ((try first|refine zJx rfl rfl rfl ?_|refine zIy rfl rfl ?_|refine zJv rfl rfl rfl ?_|refine zIx rfl rfl ?_);(refine zIz fun Q_ hQ_=>?_;simp (disch:=first|omega|(simp only [List.length_cons,List.length_nil,List.length_append];omega)) only [bb,bp,zKx,↓reduceIte,reduceCtorEq,Nat.reduceEqDiff,Nat.reduceLT,Nat.reduceLeDiff,Nat.reduceAdd,Nat.reduceMul,Nat.reduceSub,Nat.reduceBEq,Int.reduceToNat,cond_true,cond_false,eq_self,beq_self_eq_true,g3,g4,g9,g10,g11,g12,g15,g17,g21,hlx,jy,jz,l4a,l4b,eql51,works',zHx wf,tEvbV6,zHw,zQy,zAw wf];first|(refine zCy (Q:=Q_) (fun hp_=>?_) (fun hp_=>?_) <;> first|(exfalso;omega)|(refine hQ_ _ _ ?_;clear hQ_ Q_))|(refine zBy (Q:=Q_) (fun hp_=>?_) (fun hp_=>?_) <;> first|(exfalso;omega)|(refine hQ_ _ _ ?_;clear hQ_ Q_))|(refine hQ_ _ _ ?_;clear hQ_ Q_)))
  | (refine zFv fun K_ hK_=>?_;simp (disch:=omega) only [zFx,zAz,zGz,↓reduceIte,reduceCtorEq,Nat.reduceEqDiff,Nat.reduceLT];refine hK_ _ ?_;clear hK_ K_)))
          (refine zJw _ _ rfl (ret1 (by decide)) ?_;simp only [zAz,↓reduceIte,reduceCtorEq,Nat.reduceEqDiff];refine zLx rfl (by omega) ?_)
          exact ⟨rfl,rfl⟩
        · rw [decide_eq_false hone] at he8
          obtain ⟨L4,k4,c4,l4a,l4b⟩:=main _ fa
          have hst':=hst (spot R1 j).1
          have jz:=ix_22 (q:=nx h k4) hj
          generalize (spot R1 j).1=en at *
          (repeat' (first
  | (with_reducible first|refine zJz ?_|refine zGw ?_|refine zEw ?_|refine zEx ?_|refine zEv ?_|refine zJy ?_|refine zGv ?_|refine zBw ?_|refine zDx ?_|refine zBv ?_|refine zCx ?_|refine zEz ?_|refine zCw ?_|refine zCz ?_|refine zBz ?_|refine zDv ?_|refine zDy ?_|refine zAx ?_|refine zAv ?_)
  | refine zCv ?_|refine zEy rfl ?_|refine zIw ?_|refine zIv ?_
  | ((first|refine zGx rfl rfl rfl rfl rfl fun K_ hK_=>?_|refine zGy rfl rfl rfl rfl rfl fun K_ hK_=>?_);simp only [zAz,zDz,zFw,↓reduceIte,reduceCtorEq,Nat.reduceEqDiff,Bool.not_true,Bool.not_false];refine hK_ _ ?_;clear hK_ K_)
  | refine zDw (by decide) ?_
  | ((try first|refine zJx rfl rfl rfl ?_|refine zIy rfl rfl ?_|refine zJv rfl rfl rfl ?_|refine zIx rfl rfl ?_);(refine zIz fun Q_ hQ_=>?_;simp (disch:=first|omega|(simp only [List.length_cons,List.length_nil,List.length_append];omega)) only [bb,bp,zKx,↓reduceIte,reduceCtorEq,Nat.reduceEqDiff,Nat.reduceLT,Nat.reduceLeDiff,Nat.reduceAdd,Nat.reduceMul,Nat.reduceSub,Nat.reduceBEq,Int.reduceToNat,cond_true,cond_false,eq_self,beq_self_eq_true,g3,g4,g9,g10,g11,g12,g15,g17,g21,hq2,hr2',he8,hcq,hrq,jx,p1,q1,hlx,tEvbV6,zHw,zQy,zAw wf];first|(refine zCy (Q:=Q_) (fun hp_=>?_) (fun hp_=>?_) <;> first|(exfalso;omega)|(refine hQ_ _ _ ?_;clear hQ_ Q_))|(refine zBy (Q:=Q_) (fun hp_=>?_) (fun hp_=>?_) <;> first|(exfalso;omega)|(refine hQ_ _ _ ?_;clear hQ_ Q_))|(refine hQ_ _ _ ?_;clear hQ_ Q_)))
  | (refine zFv fun K_ hK_=>?_;simp (disch:=omega) only [zFx,zAz,zGz,↓reduceIte,reduceCtorEq,Nat.reduceEqDiff,Nat.reduceLT];refine hK_ _ ?_;clear hK_ K_)))
          refine zMw [.no,.no,.no,.no,.no,.no,.no,.no,.full] (by kernel_rfl) ?_
          (repeat' (first
  | (with_reducible first|refine zJz ?_|refine zGw ?_|refine zEw ?_|refine zEx ?_|refine zEv ?_|refine zJy ?_|refine zGv ?_|refine zBw ?_|refine zDx ?_|refine zBv ?_|refine zCx ?_|refine zEz ?_|refine zCw ?_|refine zCz ?_|refine zBz ?_|refine zDv ?_|refine zDy ?_|refine zAx ?_|refine zAv ?_)
  | refine zCv ?_|refine zEy rfl ?_|refine zIw ?_|refine zIv ?_
  | ((first|refine zGx rfl rfl rfl rfl rfl fun K_ hK_=>?_|refine zGy rfl rfl rfl rfl rfl fun K_ hK_=>?_);simp only [zAz,zDz,zFw,↓reduceIte,reduceCtorEq,Nat.reduceEqDiff,Bool.not_true,Bool.not_false];refine hK_ _ ?_;clear hK_ K_)
  | refine zDw (by decide) ?_
  | ((try first|refine zJx rfl rfl rfl ?_|refine zIy rfl rfl ?_|refine zJv rfl rfl rfl ?_|refine zIx rfl rfl ?_);(refine zIz fun Q_ hQ_=>?_;simp (disch:=first|omega|(simp only [List.length_cons,List.length_nil,List.length_append];omega)) only [bb,bp,zKx,↓reduceIte,reduceCtorEq,Nat.reduceEqDiff,Nat.reduceLT,Nat.reduceLeDiff,Nat.reduceAdd,Nat.reduceMul,Nat.reduceSub,Nat.reduceBEq,Int.reduceToNat,cond_true,cond_false,eq_self,beq_self_eq_true,g3,g4,g9,g10,g11,g12,g15,g17,g21,gv,a1,rs22,jy,hst',hst0,c4,ha1.1,ha1.2,zHz wf,zHx wf,zFz wf,zHy wf,tEvbV6,zHw,zQy,zAw wf];first|(refine zCy (Q:=Q_) (fun hp_=>?_) (fun hp_=>?_) <;> first|(exfalso;omega)|(refine hQ_ _ _ ?_;clear hQ_ Q_))|(refine zBy (Q:=Q_) (fun hp_=>?_) (fun hp_=>?_) <;> first|(exfalso;omega)|(refine hQ_ _ _ ?_;clear hQ_ Q_))|(refine hQ_ _ _ ?_;clear hQ_ Q_)))
  | (refine zFv fun K_ hK_=>?_;simp (disch:=omega) only [zFx,zAz,zGz,↓reduceIte,reduceCtorEq,Nat.reduceEqDiff,Nat.reduceLT];refine hK_ _ ?_;clear hK_ K_)))
          refine zMw [.full,.full,.full,.full,.full,.no,.full,.full,.full,.no,.no,.no,.no,.no,.no,.no,.no,.no,.full,.full,.full,.full,.full,.full] (by kernel_rfl) ?_
          (repeat' (first
  | (with_reducible first|refine zJz ?_|refine zGw ?_|refine zEw ?_|refine zEx ?_|refine zEv ?_|refine zJy ?_|refine zGv ?_|refine zBw ?_|refine zDx ?_|refine zBv ?_|refine zCx ?_|refine zEz ?_|refine zCw ?_|refine zCz ?_|refine zBz ?_|refine zDv ?_|refine zDy ?_|refine zAx ?_|refine zAv ?_)
  | refine zCv ?_|refine zEy rfl ?_|refine zIw ?_|refine zIv ?_
  | ((first|refine zGx rfl rfl rfl rfl rfl fun K_ hK_=>?_|refine zGy rfl rfl rfl rfl rfl fun K_ hK_=>?_);simp only [zAz,zDz,zFw,↓reduceIte,reduceCtorEq,Nat.reduceEqDiff,Bool.not_true,Bool.not_false];refine hK_ _ ?_;clear hK_ K_)
  | refine zDw (by decide) ?_
  | ((try first|refine zJx rfl rfl rfl ?_|refine zIy rfl rfl ?_|refine zJv rfl rfl rfl ?_|refine zIx rfl rfl ?_);(refine zIz fun Q_ hQ_=>?_;simp (disch:=first|omega|(simp only [List.length_cons,List.length_nil,List.length_append];omega)) only [bb,bp,zKx,↓reduceIte,reduceCtorEq,Nat.reduceEqDiff,Nat.reduceLT,Nat.reduceLeDiff,Nat.reduceAdd,Nat.reduceMul,Nat.reduceSub,Nat.reduceBEq,Int.reduceToNat,cond_true,cond_false,eq_self,beq_self_eq_true,g3,g4,g9,g10,g11,g12,g15,g17,g21,hlx,jy,jz,l4a,l4b,eql51,works',zHx wf,tEvbV6,zHw,zQy,zAw wf];first|(refine zCy (Q:=Q_) (fun hp_=>?_) (fun hp_=>?_) <;> first|(exfalso;omega)|(refine hQ_ _ _ ?_;clear hQ_ Q_))|(refine zBy (Q:=Q_) (fun hp_=>?_) (fun hp_=>?_) <;> first|(exfalso;omega)|(refine hQ_ _ _ ?_;clear hQ_ Q_))|(refine hQ_ _ _ ?_;clear hQ_ Q_)))
  | (refine zFv fun K_ hK_=>?_;simp (disch:=omega) only [zFx,zAz,zGz,↓reduceIte,reduceCtorEq,Nat.reduceEqDiff,Nat.reduceLT];refine hK_ _ ?_;clear hK_ K_)))
          (refine zJw _ _ rfl (ret1 (by decide)) ?_;simp only [zAz,↓reduceIte,reduceCtorEq,Nat.reduceEqDiff];refine zLx rfl (by omega) ?_)
          exact ⟨rfl,rfl⟩
    · have hcl:=hno1 line hln
      rw [hchg] at hcl
      have hn0 : ∀ h',lenE Tryd.prog 22 .nils h'=some (.int .i64 0):=fun h'=>(Sl.nil h' 2).len yIw
      rcases hr2 with ⟨rfl,k2,R2,rfl,hk2,hl2,hR2⟩|⟨rfl,rfl,hno2⟩
      · (repeat' (first
  | (with_reducible first|refine zJz ?_|refine zGw ?_|refine zEw ?_|refine zEx ?_|refine zEv ?_|refine zJy ?_|refine zGv ?_|refine zBw ?_|refine zDx ?_|refine zBv ?_|refine zCx ?_|refine zEz ?_|refine zCw ?_|refine zCz ?_|refine zBz ?_|refine zDv ?_|refine zDy ?_|refine zAx ?_|refine zAv ?_)
  | refine zCv ?_|refine zEy rfl ?_|refine zIw ?_|refine zIv ?_
  | ((first|refine zGx rfl rfl rfl rfl rfl fun K_ hK_=>?_|refine zGy rfl rfl rfl rfl rfl fun K_ hK_=>?_);simp only [zAz,zDz,zFw,↓reduceIte,reduceCtorEq,Nat.reduceEqDiff,Bool.not_true,Bool.not_false];refine hK_ _ ?_;clear hK_ K_)
  | refine zDw (by decide) ?_
  | ((try first|refine zJx rfl rfl rfl ?_|refine zIy rfl rfl ?_|refine zJv rfl rfl rfl ?_|refine zIx rfl rfl ?_);(refine zIz fun Q_ hQ_=>?_;simp (disch:=first|omega|(simp only [List.length_cons,List.length_nil,List.length_append];omega)) only [bb,bp,zKx,↓reduceIte,reduceCtorEq,Nat.reduceEqDiff,Nat.reduceLT,Nat.reduceLeDiff,Nat.reduceAdd,Nat.reduceMul,Nat.reduceSub,Nat.reduceBEq,Int.reduceToNat,cond_true,cond_false,eq_self,beq_self_eq_true,hfine,hlen,hlb,hn0,hcm,hremm,e1,m1,c1,c2,c3,hrng,works',hlv1.flat.1,hlv1.flat.2,ha1.1,ha1.2,zHz wf,zHx wf,zFz wf,zHy wf,zBx wf,tEvbV6,zHw,zQy,zAw wf];first|(refine zCy (Q:=Q_) (fun hp_=>?_) (fun hp_=>?_) <;> first|(exfalso;omega)|(refine hQ_ _ _ ?_;clear hQ_ Q_))|(refine zBy (Q:=Q_) (fun hp_=>?_) (fun hp_=>?_) <;> first|(exfalso;omega)|(refine hQ_ _ _ ?_;clear hQ_ Q_))|(refine hQ_ _ _ ?_;clear hQ_ Q_)))
  | (refine zFv fun K_ hK_=>?_;simp (disch:=omega) only [zFx,zAz,zGz,↓reduceIte,reduceCtorEq,Nat.reduceEqDiff,Nat.reduceLT];refine hK_ _ ?_;clear hK_ K_)))
        (refine zJw _ _ rfl (ret1 (by decide)) ?_;simp only [zAz,↓reduceIte,reduceCtorEq,Nat.reduceEqDiff];refine zLx rfl (by omega) ?_)
        exact ⟨rfl,rfl⟩
      · (repeat' (first
  | (with_reducible first|refine zJz ?_|refine zGw ?_|refine zEw ?_|refine zEx ?_|refine zEv ?_|refine zJy ?_|refine zGv ?_|refine zBw ?_|refine zDx ?_|refine zBv ?_|refine zCx ?_|refine zEz ?_|refine zCw ?_|refine zCz ?_|refine zBz ?_|refine zDv ?_|refine zDy ?_|refine zAx ?_|refine zAv ?_)
  | refine zCv ?_|refine zEy rfl ?_|refine zIw ?_|refine zIv ?_
  | ((first|refine zGx rfl rfl rfl rfl rfl fun K_ hK_=>?_|refine zGy rfl rfl rfl rfl rfl fun K_ hK_=>?_);simp only [zAz,zDz,zFw,↓reduceIte,reduceCtorEq,Nat.reduceEqDiff,Bool.not_true,Bool.not_false];refine hK_ _ ?_;clear hK_ K_)
  | refine zDw (by decide) ?_
  | ((try first|refine zJx rfl rfl rfl ?_|refine zIy rfl rfl ?_|refine zJv rfl rfl rfl ?_|refine zIx rfl rfl ?_);(refine zIz fun Q_ hQ_=>?_;simp (disch:=first|omega|(simp only [List.length_cons,List.length_nil,List.length_append];omega)) only [bb,bp,zKx,↓reduceIte,reduceCtorEq,Nat.reduceEqDiff,Nat.reduceLT,Nat.reduceLeDiff,Nat.reduceAdd,Nat.reduceMul,Nat.reduceSub,Nat.reduceBEq,Int.reduceToNat,cond_true,cond_false,eq_self,beq_self_eq_true,hfine,hlen,hlb,hn0,hcm,hremm,e1,m1,c1,c2,c3,hrng,works',hlv1.flat.1,hlv1.flat.2,ha1.1,ha1.2,zHz wf,zHx wf,zFz wf,zHy wf,zBx wf,tEvbV6,zHw,zQy,zAw wf];first|(refine zCy (Q:=Q_) (fun hp_=>?_) (fun hp_=>?_) <;> first|(exfalso;omega)|(refine hQ_ _ _ ?_;clear hQ_ Q_))|(refine zBy (Q:=Q_) (fun hp_=>?_) (fun hp_=>?_) <;> first|(exfalso;omega)|(refine hQ_ _ _ ?_;clear hQ_ Q_))|(refine hQ_ _ _ ?_;clear hQ_ Q_)))
  | (refine zFv fun K_ hK_=>?_;simp (disch:=omega) only [zFx,zAz,zGz,↓reduceIte,reduceCtorEq,Nat.reduceEqDiff,Nat.reduceLT];refine hK_ _ ?_;clear hK_ K_)))
        (refine zJw _ _ rfl (ret1 (by decide)) ?_;simp only [zAz,↓reduceIte,reduceCtorEq,Nat.reduceEqDiff];refine zLx rfl (by omega) ?_)
        exact ⟨rfl,rfl⟩
  · refine zWv (zLv (fn:=Tryd.f5) Tryd.func5 rfl rfl rfl rfl rfl ?_)
    simp only [zKx]
    by_cases hs0:spotsR sp turn=0
    · rw [decide_eq_true hs0] at hfine
      (repeat' (first
  | (with_reducible first|refine zJz ?_|refine zGw ?_|refine zEw ?_|refine zEx ?_|refine zEv ?_|refine zJy ?_|refine zGv ?_|refine zBw ?_|refine zDx ?_|refine zBv ?_|refine zCx ?_|refine zEz ?_|refine zCw ?_|refine zCz ?_|refine zBz ?_|refine zDv ?_|refine zDy ?_|refine zAx ?_|refine zAv ?_)
  | refine zCv ?_|refine zEy rfl ?_|refine zIw ?_|refine zIv ?_
  | ((first|refine zGx rfl rfl rfl rfl rfl fun K_ hK_=>?_|refine zGy rfl rfl rfl rfl rfl fun K_ hK_=>?_);simp only [zAz,zDz,zFw,↓reduceIte,reduceCtorEq,Nat.reduceEqDiff,Bool.not_true,Bool.not_false];refine hK_ _ ?_;clear hK_ K_)
  | refine zDw (by decide) ?_
  | ((try first|refine zJx rfl rfl rfl ?_|refine zIy rfl rfl ?_|refine zJv rfl rfl rfl ?_|refine zIx rfl rfl ?_);(refine zIz fun Q_ hQ_=>?_;simp (disch:=first|omega|(simp only [List.length_cons,List.length_nil,List.length_append];omega)) only [bb,bp,zKx,↓reduceIte,reduceCtorEq,Nat.reduceEqDiff,Nat.reduceLT,Nat.reduceLeDiff,Nat.reduceAdd,Nat.reduceMul,Nat.reduceSub,Nat.reduceBEq,Int.reduceToNat,cond_true,cond_false,eq_self,beq_self_eq_true,hfine,hlen,hlb,works',ha1.1,ha1.2,zHz wf,zHx wf,zFz wf,zHy wf,zBx wf,tEvbV6,zHw,zQy,zAw wf];first|(refine zCy (Q:=Q_) (fun hp_=>?_) (fun hp_=>?_) <;> first|(exfalso;omega)|(refine hQ_ _ _ ?_;clear hQ_ Q_))|(refine zBy (Q:=Q_) (fun hp_=>?_) (fun hp_=>?_) <;> first|(exfalso;omega)|(refine hQ_ _ _ ?_;clear hQ_ Q_))|(refine hQ_ _ _ ?_;clear hQ_ Q_)))
  | (refine zFv fun K_ hK_=>?_;simp (disch:=omega) only [zFx,zAz,zGz,↓reduceIte,reduceCtorEq,Nat.reduceEqDiff,Nat.reduceLT];refine hK_ _ ?_;clear hK_ K_)))
      all_goals first|(exfalso;omega)|skip
      all_goals (refine zJw _ _ rfl (ret1 (by decide)) ?_;simp only [zAz,↓reduceIte,reduceCtorEq,Nat.reduceEqDiff];refine zLx rfl (by omega) ?_)
      all_goals exact ⟨rfl,rfl⟩
    · rw [decide_eq_false hs0] at hfine
      (repeat' (first
  | (with_reducible first|refine zJz ?_|refine zGw ?_|refine zEw ?_|refine zEx ?_|refine zEv ?_|refine zJy ?_|refine zGv ?_|refine zBw ?_|refine zDx ?_|refine zBv ?_|refine zCx ?_|refine zEz ?_|refine zCw ?_|refine zCz ?_|refine zBz ?_|refine zDv ?_|refine zDy ?_|refine zAx ?_|refine zAv ?_)
  | refine zCv ?_|refine zEy rfl ?_|refine zIw ?_|refine zIv ?_
  | ((first|refine zGx rfl rfl rfl rfl rfl fun K_ hK_=>?_|refine zGy rfl rfl rfl rfl rfl fun K_ hK_=>?_);simp only [zAz,zDz,zFw,↓reduceIte,reduceCtorEq,Nat.reduceEqDiff,Bool.not_true,Bool.not_false];refine hK_ _ ?_;clear hK_ K_)
  | refine zDw (by decide) ?_
  | ((try first|refine zJx rfl rfl rfl ?_|refine zIy rfl rfl ?_|refine zJv rfl rfl rfl ?_|refine zIx rfl rfl ?_);(refine zIz fun Q_ hQ_=>?_;simp (disch:=first|omega|(simp only [List.length_cons,List.length_nil,List.length_append];omega)) only [bb,bp,zKx,↓reduceIte,reduceCtorEq,Nat.reduceEqDiff,Nat.reduceLT,Nat.reduceLeDiff,Nat.reduceAdd,Nat.reduceMul,Nat.reduceSub,Nat.reduceBEq,Int.reduceToNat,cond_true,cond_false,eq_self,beq_self_eq_true,hfine,hlen,hlb,works',ha1.1,ha1.2,zHz wf,zHx wf,zFz wf,zHy wf,zBx wf,tEvbV6,zHw,zQy,zAw wf];first|(refine zCy (Q:=Q_) (fun hp_=>?_) (fun hp_=>?_) <;> first|(exfalso;omega)|(refine hQ_ _ _ ?_;clear hQ_ Q_))|(refine zBy (Q:=Q_) (fun hp_=>?_) (fun hp_=>?_) <;> first|(exfalso;omega)|(refine hQ_ _ _ ?_;clear hQ_ Q_))|(refine hQ_ _ _ ?_;clear hQ_ Q_)))
  | (refine zFv fun K_ hK_=>?_;simp (disch:=omega) only [zFx,zAz,zGz,↓reduceIte,reduceCtorEq,Nat.reduceEqDiff,Nat.reduceLT];refine hK_ _ ?_;clear hK_ K_)))
      (refine zJw _ _ rfl (ret1 (by decide)) ?_;simp only [zAz,↓reduceIte,reduceCtorEq,Nat.reduceEqDiff];refine zLx rfl (by omega) ?_)
      exact ⟨rfl,rfl⟩
end Go.Proofs.YtkmdidplmfdikabDoor
end

section
namespace Go.Proofs.YtkmdidplmfdikabDoor
open Go.Ev
theorem mixed :Tryd.prog.follows .mixedOrders=true:=Checked.mixed Tryd.checked
theorem xCv {n:Nat} {c:Con} (h:chk c ((evc Tryd.prog [] n).call (.fn c.g c.args) (smallH c.tb))=true):ConOK Tryd.prog c:=
  con_run (P:=Tryd.prog) mixed (cons:=[]) (fun _ h=>by cases h) (n:=n) (c:=c) h
end Go.Proofs.YtkmdidplmfdikabDoor
end

section

namespace Go.Proofs.YtkmdidplmfdikabDoor
open Go.Ev
noncomputable def cS0 :Con:=⟨13,[(.agg [(.sl (.i (.o (.o (.o (.o (.o .e)))))) 0 5 (some 5) 2),(.int .i64 100)]),(.int .i64 0)],[(.e,[(.int .i64 1099511627776),(.int .i64 1099511627776),(.int .i64 1099511627776)]),((.i (.o (.o (.o (.o (.o .e)))))),[(.int .i64 0),(.int .i64 0),(.int .i64 2),(.int .i64 3),(.int .i64 4),(.int .i64 4),(.int .i64 5),(.int .i64 7),(.int .i64 10),(.int .i64 10)])],(.tup [(.sl (.o (.o (.i (.o (.o (.o (.o .e))))))) 0 5 none 2),(.int .i64 0)]),[((.o (.o (.i (.o (.o (.o (.o .e))))))),[(.int .i64 0),(.int .i64 0),(.int .i64 2),(.int .i64 2),(.int .i64 4),(.int .i64 4),(.int .i64 6),(.int .i64 7),(.int .i64 10),(.int .i64 10)],35)]⟩
set_option maxRecDepth 100000
set_option maxHeartbeats 0
theorem cS0_run :chk cS0 ((evc Tryd.prog [] 100000).call (.fn cS0.g cS0.args) (smallH cS0.tb))=true:=by kernel_rfl
theorem cS0_ok :ConOK Tryd.prog cS0:=xCv (n:=100000) (c:=cS0) cS0_run
end Go.Proofs.YtkmdidplmfdikabDoor
end

section

namespace Go.Proofs.YtkmdidplmfdikabDoor
open Go.Ev
noncomputable def cF1 :Con:=⟨9,[(.agg [(.sl (.i (.o (.o (.o (.o (.o .e)))))) 0 5 (some 5) 2),(.int .i64 100)])],[(.e,[(.int .i64 1099511627776),(.int .i64 1099511627776),(.int .i64 1099511627776)]),((.i (.o (.o (.o (.o (.o .e)))))),[(.int .i64 0),(.int .i64 0),(.int .i64 2),(.int .i64 3),(.int .i64 4),(.int .i64 4),(.int .i64 5),(.int .i64 7),(.int .i64 10),(.int .i64 10)])],(.tup [(.sl (.i (.o (.o (.o (.o (.i (.o (.i .e)))))))) 0 5 none 1),(.int .i64 1),(.int .i64 0)]),[((.i (.o (.o (.o (.o (.i (.o (.i .e)))))))),[(.int .i64 0),(.int .i64 2),(.int .i64 4),(.int .i64 7),(.int .i64 10)],2)]⟩
set_option maxRecDepth 100000
set_option maxHeartbeats 0
theorem cF1_run :chk cF1 ((evc Tryd.prog [] 100000).call (.fn cF1.g cF1.args) (smallH cF1.tb))=true:=by kernel_rfl
theorem cF1_ok :ConOK Tryd.prog cF1:=xCv (n:=100000) (c:=cF1) cF1_run
end Go.Proofs.YtkmdidplmfdikabDoor
end

section

namespace Go.Proofs.YtkmdidplmfdikabDoor
open Go.Ev
noncomputable def cL :Con:=⟨19,[(.agg [(.sl (.i (.o (.o (.o (.o (.o .e)))))) 0 5 (some 5) 2),(.int .i64 100)])],[(.e,[(.int .i64 1099511627776),(.int .i64 1099511627776),(.int .i64 1099511627776)]),((.i (.o (.o (.o (.o (.o .e)))))),[(.int .i64 0),(.int .i64 0),(.int .i64 2),(.int .i64 3),(.int .i64 4),(.int .i64 4),(.int .i64 5),(.int .i64 7),(.int .i64 10),(.int .i64 10)])],(.tup [(.sl (.i (.i (.o (.i (.i (.i (.i (.i .e)))))))) 0 30 none 1),(.int .i64 0)]),[((.i (.i (.o (.i (.i (.i (.i (.i .e)))))))),[(.int .i64 0),(.int .i64 1099511627776),(.int .i64 1099511627776),(.int .i64 0),(.int .i64 1099511627776),(.int .i64 1099511627776),(.int .i64 0),(.int .i64 1099511627776),(.int .i64 1099511627776),(.int .i64 1099511627776),(.int .i64 1099511627776),(.int .i64 2),(.int .i64 1099511627776),(.int .i64 1099511627776),(.int .i64 1),(.int .i64 0),(.int .i64 103),(.int .i64 1099511627776),(.int .i64 1099511627776),(.int .i64 1),(.int .i64 1099511627776),(.int .i64 1099511627776),(.int .i64 105),(.int .i64 1099511627776),(.int .i64 1099511627776),(.int .i64 2),(.int .i64 1099511627776),(.int .i64 1099511627776),(.int .i64 1),(.int .i64 1099511627776)],2)]⟩
set_option maxRecDepth 100000
set_option maxHeartbeats 0
theorem cL_run :chk cL ((evc Tryd.prog [] 100000).call (.fn cL.g cL.args) (smallH cL.tb))=true:=by kernel_rfl
theorem cL_ok :ConOK Tryd.prog cL:=xCv (n:=100000) (c:=cL) cL_run
end Go.Proofs.YtkmdidplmfdikabDoor
end

section

namespace Go.Proofs.YtkmdidplmfdikabDoor
open Go.Ev
noncomputable def cC1 :Con:=⟨16,[(.agg [(.sl (.i (.o (.o (.o (.o (.o .e)))))) 0 5 (some 5) 2),(.int .i64 100)]),(.sl (.o (.i (.o (.o (.o (.o .e)))))) 0 30 none 1)],[(.e,[(.int .i64 1099511627776),(.int .i64 1099511627776),(.int .i64 1099511627776)]),((.i (.o (.o (.o (.o (.o .e)))))),[(.int .i64 0),(.int .i64 0),(.int .i64 2),(.int .i64 3),(.int .i64 4),(.int .i64 4),(.int .i64 5),(.int .i64 7),(.int .i64 10),(.int .i64 10)]),((.o (.i (.o (.o (.o (.o .e)))))),[(.int .i64 0),(.int .i64 1099511627776),(.int .i64 1099511627776),(.int .i64 0),(.int .i64 1099511627776),(.int .i64 1099511627776),(.int .i64 0),(.int .i64 1099511627776),(.int .i64 1099511627776),(.int .i64 1099511627776),(.int .i64 1099511627776),(.int .i64 2),(.int .i64 1099511627776),(.int .i64 1099511627776),(.int .i64 1),(.int .i64 0),(.int .i64 103),(.int .i64 1099511627776),(.int .i64 1099511627776),(.int .i64 1),(.int .i64 1099511627776),(.int .i64 1099511627776),(.int .i64 105),(.int .i64 1099511627776),(.int .i64 1099511627776),(.int .i64 2),(.int .i64 1099511627776),(.int .i64 1099511627776),(.int .i64 1),(.int .i64 1099511627776)])],(.tup [(.int .i64 1),(.int .i64 0)]),[]⟩
set_option maxRecDepth 100000
set_option maxHeartbeats 0
theorem cC1_run :chk cC1 ((evc Tryd.prog [] 100000).call (.fn cC1.g cC1.args) (smallH cC1.tb))=true:=by kernel_rfl
theorem cC1_ok :ConOK Tryd.prog cC1:=xCv (n:=100000) (c:=cC1) cC1_run
end Go.Proofs.YtkmdidplmfdikabDoor
end

section
namespace Go.Proofs.YtkmdidplmfdikabDoor
open Go.Ev
set_option maxRecDepth 100000
set_option maxHeartbeats 0
theorem cW_run :chk cW ((evc Tryd.prog [cS0,cF1,cL,cC1] 100000).call (.fn cW.g cW.args) (smallH cW.tb))=true:=by kernel_rfl
theorem cW_ok :ConOK Tryd.prog cW:=con_run (P:=Tryd.prog) mixed (cons:=[cS0,cF1,cL,cC1]) (n:=100000) (c:=cW) (fun _ h=>by
  simp only [List.mem_cons,List.not_mem_nil,or_false] at h
  rcases h with rfl|rfl|rfl|rfl
  · exact cS0_ok
  · exact cF1_ok
  · exact cL_ok
  · exact cC1_ok) cW_run
end Go.Proofs.YtkmdidplmfdikabDoor
end

section
namespace Go.Ev
open Go.ChangeShapes Go.WideShapes Go.ChangeAt Go.RowKit Go.Deep
section
variable {H:Type} {enc:TypeId × Value→H} {P:Program} {r:Reach} {bs:Nat}

end
end Go.Ev
end

section
namespace Go.Ev
open Go.ChangeShapes Go.WideShapes Go.ChangeAt Go.RowKit
section
variable {H:Type} {enc:TypeId × Value→H} {P:Program} {r:Reach} {bs:Nat}
theorem open_u8s {W:World} {t e:TypeId} {v:Value} {fuel:Nat} {x:DataW H × List MemPlace} (hu:P.underlying t=some (.slice e)) (he:P.underlying e=some (.int .u8)) (hc:P.cellsOf e=1)
    (hval:Cell.okWide P W r bs t v) (h:DataW.trod enc P W 0 (fun _=>true) true fuel t [v]=some x) :
    ∃ (xs:List Int) (b:AV),VR (startWR W) b v∧Sl (startW W) b 1 xs.length (xs.map fun n=>.int .u8 n) ∧ ∀ n ∈ xs,0≤n∧n≤255:=by
  rcases xEx hu hval with rfl|⟨b,off,len,cap,rfl,hlc,hex⟩
  · exact ⟨[],.nils,.nils,Sl.nil _ _,fun n hn=>by cases hn⟩
  · rcases open_ints hu he hc h with ⟨h0,_⟩|⟨a,len',cap',zs,h0,_,_,_,hz,_,hcell,hwf⟩
    · cases h0
    · cases h0
      simp only [if_true] at hz
      have hlen:(zs.take len).length=len:=by rw [List.length_take];omega
      refine ⟨zs.take len,.sl (posN b) off len (some cap) 0,startW_arg (xUx hex) hlc,?_,fun n hn=>?_⟩
      · rw [hlen]
        refine startW_sl hex (by rw [List.length_map,hlen];omega) (fun k hk=>⟨.int .u8 (zs.getD k 0),?_,?_⟩)
        · rw [← add_at];exact hcell k (by omega)
        · rw [show absV (NW W) (.int .u8 (zs.getD k 0))=some (.int .u8 (zs.getD k 0)) from rfl,List.getElem?_map,List.getElem?_take_of_lt (by omega),List.getElem?_eq_getElem (by omega)]
          simp [show k<zs.length by omega]
      · have:=hwf n (List.mem_of_mem_take hn)
        unfold Lit.wf at this
        rw [Bool.and_eq_true] at this
        exact ⟨of_decide_eq_true this.1,of_decide_eq_true this.2⟩
end
end Go.Ev
end

section
namespace Go.Proofs.YtkmdidplmfdikabDoor.fairWithin
open Go.ChangeShapes Go.WideShapes Go.ChangeAt Go.RowKit Go.Ev
set_option maxRecDepth 100000
set_option maxHeartbeats 0

theorem own : ownKnob Tryd.prog.godebug = none := by kernel_rfl
theorem laidOut : laidOutB Tryd.prog = true := by kernel_rfl
theorem gTab : Tryd.prog.globalNamed "tumblehome/fair.none" = some 0 := by kernel_rfl
theorem gTabType : (Tryd.prog.globals[0]?).map (·.type) = some 95 := by kernel_rfl
theorem cells95 : Tryd.prog.cellsOf 95 = 3 := by kernel_rfl
theorem cells2 : Tryd.prog.cellsOf 2 = 1 := by kernel_rfl
theorem cells22 : Tryd.prog.cellsOf 22 = 1 := by kernel_rfl
theorem cells24 : Tryd.prog.cellsOf 24 = 2 := by kernel_rfl
theorem cells35 : Tryd.prog.cellsOf 35 = 2 := by kernel_rfl
theorem types24 : Tryd.prog.cellTypes Tryd.prog.depth 24 = some [22, 2] := by kernel_rfl
theorem under24 : ∃ f0 f1 : Field, Tryd.prog.underlying 24 = some (.struct #[f0, f1]) ∧ f0.offset = 0 ∧ f1.offset = 1 ∧ f0.type = 22 ∧ f1.type = 2 := ⟨_, _, Tryd.underlying24, rfl, rfl, rfl, rfl⟩
theorem under35 : ∃ f0 f1 : Field, Tryd.prog.underlying 35 = some (.struct #[f0, f1]) ∧ f0.offset = 0 ∧ f1.offset = 1 ∧ f0.type = 2 ∧ f1.type = 2 := ⟨_, _, Tryd.underlying35, rfl, rfl, rfl, rfl⟩

theorem table {W : World} (h : laidMetH Tryd.prog Rows.fairWithinRow.laid W) : Lib.TabIs Tryd.prog W "tumblehome/fair.none" .i64 [1099511627776, 1099511627776, 1099511627776] :=
  Lib.tabIs_of_head (rest := []) gTab gTabType Tryd.underlying95 Tryd.underlying2 cells2 cells95 h
theorem tab {W : World} (h : laidMetH Tryd.prog Rows.fairWithinRow.laid W) : Tab (startW W) := by
  have t := table h
  have c0 : W.cell? ⟨0, 0, none⟩ = some (.int .i64 1099511627776) := t.cell gTab 0 (by decide)
  have c1 : W.cell? ⟨0, 1, none⟩ = some (.int .i64 1099511627776) := t.cell gTab 1 (by decide)
  have c2 : W.cell? ⟨0, 2, none⟩ = some (.int .i64 1099511627776) := t.cell gTab 2 (by decide)
  obtain ⟨c, e, f, h0, g0⟩ := yUw c0
  obtain ⟨_, _, _, h1, g1⟩ := yUw c1
  obtain ⟨_, _, _, h2, g2⟩ := yUw c2
  rw [h0] at h1 h2
  cases h1
  cases h2
  exact ⟨_, xIx h0, by show (c[0]?).bind _ = _; rw [g0]; rfl, by show (c[1]?).bind _ = _; rw [g1]; rfl, by show (c[2]?).bind _ = _; rw [g2]; rfl⟩

theorem cells5 : Tryd.prog.cellsOf 5 = 1 := by kernel_rfl
theorem okWideU8 {W : World} {t : TypeId} {v : Value} {r : Reach} {bs : Nat} (hu : Tryd.prog.underlying t = some (.int .u8)) (h : Cell.okWide Tryd.prog W r bs t v) : ∃ n, v = .int .u8 n ∧ 0 ≤ n ∧ n ≤ 255 := by
  unfold Cell.okWide at h
  rw [hu] at h
  have h' : Cell.ok Tryd.prog W r bs t v := by cases v <;> exact h
  unfold Cell.ok at h'
  rw [hu] at h'
  cases v with
  | int k' n =>
    obtain ⟨rfl, h1, h2⟩ := h'
    exact ⟨n, rfl, h1, h2⟩
  | _ => exact h'.elim

theorem trodAll_four {H : Type} {enc : TypeId × Value → H} {P : Program} {w : World} {base : Nat} {spare : Nat → Bool} {held : Bool} {t0 t1 t2 t3 : TypeId} {args : Array Value} {ds : List (DataW H)} {ps : List MemPlace} (h : DataW.TrodAll enc P w base spare held [t0, t1, t2, t3] args.toList ds ps) :
    ∃ v0 v1 v2 v3 d0 d1 d2 d3 p0 p2, args = #[v0, v1, v2, v3] ∧ ds = [d0, d1, d2, d3] ∧ DataW.Trod enc P w base spare held t0 v0 d0 p0 ∧ DataW.Trod enc P w base spare held t2 v2 d2 p2 := by
  obtain ⟨v0, vs, d0, ds', p, q, hargs, rfl, rfl, hd0, hrest⟩ := trodAll_cons h
  obtain ⟨v1, vs', d1, ds'', p', q', rfl, rfl, rfl, hd1, hrest'⟩ := trodAll_cons hrest
  obtain ⟨v2, vs2, d2, ds2, p2, q2, rfl, rfl, rfl, hd2, hrest2⟩ := trodAll_cons hrest'
  obtain ⟨v3, vs3, d3, ds3, p3, q3, rfl, rfl, rfl, hd3, hrest3⟩ := trodAll_cons hrest2
  obtain ⟨rfl, rfl, rfl⟩ := trodAll_nil hrest3
  exact ⟨v0, v1, v2, v3, d0, d1, d2, d3, _, _, by cases args; simp_all, rfl, hd0, hd2⟩

theorem contract (H : Type) (enc : TypeId × Value → H) (W : World) (base : Nat) (args : Array Value) (ds gs : List (DataW H)) (before : List MemPlace) (hval : ∀ (j : Nat) t v, Tryd.f5.params[j]? = some t → args[j]? = some v → Value.okWide Tryd.prog W .any base t v)
    (hW : DataW.Whole enc Tryd.prog Tryd.f5.params.toList Rows.fairWithinSpec.vars false W args.toList ds gs before) (hL : laidMetH Tryd.prog Rows.fairWithinRow.laid W) :
    Calls Tryd.prog 5 args W fun e W' => ∃ v, e = .returned v ∧ Rows.fairWithinSpec.post enc Tryd.prog Tryd.f5 false true false false W args v W' := by
  have hW' := hW
  obtain ⟨p, q, hA0, hV, rfl, hfz, hnd⟩ := hW
  have hA : DataW.TrodAll enc Tryd.prog W 0 (fun _ => true) true Tryd.f5.params.toList args.toList ds p := hA0
  rw [Tryd.params5] at hA hval
  obtain ⟨v0, v1, v2, v3, d0, d1, d2, d3, p0, p3, rfl, rfl, ⟨n0, h0⟩, ⟨n4, h4⟩⟩ := trodAll_four hA
  obtain ⟨f0, f1, hu, o0, o1, t0, t1⟩ := under24
  obtain ⟨g0, g1, hg, go0, go1, gt0, gt1⟩ := under35
  obtain ⟨u, w, n, y, z, rfl, k0, k1, r0, r1⟩ := open_two hu cells24 o0 o1 t0 t1 cells22 cells2 types24 (hval 0 24 v0 rfl rfl) h0
  obtain ⟨turn, hz, _⟩ := DataW.trod_int Tryd.underlying2 r1
  cases hz
  obtain ⟨sp, a, va, ca, sa⟩ := open_pairs Tryd.underlying22 hg cells35 go0 go1 gt0 gt1 Tryd.underlying2 cells2 k0 r0
  obtain ⟨many_, hz, hmn⟩ := okWideU8 Tryd.underlying5 (yYz (P := Tryd.prog) Tryd.underlying5 (fun _ e => by cases e) (fun _ _ e => by cases e) (hval 1 5 v1 rfl rfl))
  subst hz
  obtain ⟨which_, hz, hwh⟩ := okWideU8 Tryd.underlying5 (yYz (P := Tryd.prog) Tryd.underlying5 (fun _ e => by cases e) (fun _ _ e => by cases e) (hval 3 5 v3 rfl rfl))
  subst hz
  have kb := yYz (P := Tryd.prog) Tryd.underlying27 (fun _ e => by cases e) (fun _ _ e => by cases e) (hval 2 27 v2 rfl rfl)
  rw [slice_cells Tryd.underlying27 kb] at h4
  obtain ⟨bys, b, vb, sb, hby⟩ := open_u8s Tryd.underlying27 Tryd.underlying5 cells5 kb h4
  have walk := lawWithin sp turn many_ which_ bys hmn hwh hby a b ca (startW W) (startW_wf W) (tab hL) sa sb
  have hargs : VL (startWR W) [.agg [a, .int .i64 turn], .int .u8 many_, b, .int .u8 which_] (#[.agg #[u, .int .i64 turn], .int .u8 many_, v2, .int .u8 which_] : Array Value).toList :=
    .cons _ _ _ _ (.agg _ _ (.cons _ _ _ _ va (.cons _ _ _ _ (.int _ _) .nil))) (.cons _ _ _ _ (.int _ _) (.cons _ _ _ _ vb (.cons _ _ _ _ (.int _ _) .nil)))
  refine (startW_true (P := Tryd.prog) mixed (K := KK) (fun c hc => by
    have : c = cW := List.mem_singleton.1 hc
    rw [this]; exact cW_ok) walk hargs).mono fun e W' ⟨he, hgr, hs⟩ => ?_
  subst he
  refine ⟨_, rfl, law_post laidOut (by
    rw [Tryd.params5]
    intro t ht
    rcases List.mem_cons.1 ht with rfl | ht
    · exact ⟨by kernel_rfl, of_decide_eq_true (by kernel_rfl)⟩
    rcases List.mem_cons.1 ht with rfl | ht
    · exact ⟨by kernel_rfl, of_decide_eq_true (by kernel_rfl)⟩
    rcases List.mem_cons.1 ht with rfl | ht
    · exact ⟨by kernel_rfl, of_decide_eq_true (by kernel_rfl)⟩
    rcases List.mem_cons.1 ht with rfl | ht
    · exact ⟨by kernel_rfl, of_decide_eq_true (by kernel_rfl)⟩
    cases ht) rfl (by kernel_rfl) Tryd.underlying4 (fun gs' ⟨q', hq⟩ => ?_) hW' hgr hs⟩
  obtain ⟨rfl, _⟩ := trodVars_none hq
  exact ⟨rfl, rfl, rfl⟩

noncomputable def laidWorld (os : Os) : World :=
  { World.holding Tryd.prog os ⟨#[], #[], []⟩ with heap := (World.holding Tryd.prog os ⟨#[], #[], []⟩).heap.modify 0 fun
      | .cells _ t frozen => .cells #[.int .i64 1099511627776, .int .i64 1099511627776, .int .i64 1099511627776] t frozen
      | o => o }
noncomputable def args0 : Array Value := #[.agg #[.slice none 0 0, .int .i64 0], .int .u8 0, .slice none 0 0, .int .u8 0]
theorem laid_met (os : Os) : laidMet Tryd.prog Rows.fairWithinRow.laid ((laidWorld os).forCall (fun _ _ => 0) ⟨#[], args0, []⟩).memory :=
  laidMet_of_run' 8 (by kernel_rfl) (by kernel_rfl)
theorem reads (os : Os) {H : Type} (enc : TypeId × Value → H) : ∃ places, DataW.whole enc Tryd.prog ((laidWorld os).forCall (fun _ _ => 0) ⟨#[], args0, []⟩).memory Tryd.f5.params.toList Rows.fairWithinSpec.vars false args0.toList 8 = some ([.agg [.nil, .lit (.int .i64 0)], .lit (.int .u8 0), .nil, .lit (.int .u8 0)], [], places) :=
  ⟨[], by kernel_rfl⟩

theorem lifted (os : Os) (started : os.Started) (H : Type) (enc : TypeId × Value → H) (F : Stop.Interp) :
    ReturnsInHanded {} Tryd.checked os 5 .any ((OpenSpec.ofChange Rows.fairWithinSpec).preRow enc Tryd.prog Tryd.f5 Rows.fairWithinRow.domain false Rows.fairWithinRow.laid) (((OpenSpec.ofChange Rows.fairWithinSpec).at F).post enc Tryd.prog Tryd.f5 false true false false) := by
  obtain ⟨places, hx⟩ := reads os enc
  refine returnsInHanded_of_row (C := Tryd.checked) (s := OpenSpec.ofChange Rows.fairWithinSpec) own started (by kernel_rfl) Tryd.func5
    (witness_row_at (enc := enc) (C := Tryd.checked) false (laidWorld os) args0 rfl (by kernel_rfl) (by kernel_rfl) (by kernel_rfl)
      (OpenSpec.preRow_of_cond 8 hx (by kernel_rfl) (fun k hk => by cases hk) (by kernel_rfl) (laid_met os))) ?_
  intro W base args ds gs before hval hW _ _ _ hL _ _
  exact contract H enc W base args ds gs before hval hW hL

theorem said : Rows.FairWithinSaid :=
  OpenClaim.holds_of_cond 5 Tryd.f5 rfl rfl rfl rfl rfl rfl rfl ⟨rfl, rfl, rfl, rfl, rfl⟩ rfl rfl rfl rfl rfl (by kernel_rfl) Tryd.func5 (by kernel_rfl)
    (of_decide_eq_true (by kernel_rfl)) (by unfold Func.isWrapper; first | (rw [if_pos (by decide +kernel)]; kernel_rfl) | (rw [if_neg (by decide +kernel)]; exact ⟨rfl, rfl⟩))
    (fun os started H enc _ F => by rw [OpenClaim.pre_eq_preRow]; exact lifted os started H enc F)

theorem stand24 : Tryd.pinned.checked.prog.wantsStandIn 24 = false := by kernel_rfl
theorem stand5 : Tryd.pinned.checked.prog.wantsStandIn 5 = false := by kernel_rfl
theorem stand27 : Tryd.pinned.checked.prog.wantsStandIn 27 = false := by kernel_rfl
theorem plain (f : FuncId) (fn : Func) (hf : Tryd.pinned.checked.prog.funcNamed "tumblehome/tumblehomelaw01.FairWithin" = some f) (hfn : Tryd.pinned.checked.prog.funcs[f]? = some fn) :
    false = Tryd.pinned.checked.prog.looks [] ∧ ∀ (j : Nat) t, fn.params[j]? = some t → Tryd.pinned.checked.prog.wantsStandIn t = false := by
  obtain rfl : f = 5 := Option.some.inj ((show Tryd.prog.funcNamed "tumblehome/tumblehomelaw01.FairWithin" = some 5 by kernel_rfl).symm.trans hf) |>.symm
  obtain rfl : fn = Tryd.f5 := (Option.some.inj (Tryd.func5.symm.trans hfn)).symm
  refine ⟨by kernel_rfl, fun j t ht => ?_⟩
  rw [Tryd.params5] at ht
  match j, ht with
  | 0, ht =>
    have e : t = 24 := by simpa using ht.symm
    rw [e]
    exact stand24
  | 1, ht =>
    have e : t = 5 := by simpa using ht.symm
    rw [e]
    exact stand5
  | 2, ht =>
    have e : t = 27 := by simpa using ht.symm
    rw [e]
    exact stand27
  | 3, ht =>
    have e : t = 5 := by simpa using ht.symm
    rw [e]
    exact stand5
  | j + 4, ht => simp at ht

theorem card : Rows.FairWithinCardSaid :=
  Claim7.holds_tied_plain_at .later [] _ _ _ _ said (fun _ h => by cases h) (by kernel_rfl) (fun _ h => by cases h) fairWithin_row_tie rfl ⟨rfl, rfl⟩ (by kernel_rfl) rfl plain (by kernel_rfl)
end Go.Proofs.YtkmdidplmfdikabDoor.fairWithin
end
