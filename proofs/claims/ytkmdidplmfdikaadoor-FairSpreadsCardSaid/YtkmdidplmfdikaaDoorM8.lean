/- The statement FairSpreads of layer 1: where lines with at most so many changes can go is what the definition says, or the error, for all spots and all numbers of changes; the package's table of costs is as the text lays it. -/
import Derived.Test.YtkmdidplmfdikaaDoorM7
import Derived.Test.YtkmdidplmfdikaaDoorChecked
import Derived.Eval
import Derived.KernelRfl
import Derived.Test.YtkmdidplmfdikaaDoorCards
import Derived.Test.YtkmdidplmfdikaaDoorTie
import Derived.WalkKit
import Derived.ProofKit
import Derived.OpenShut
import Derived.Deep.DeepHandedRow
import Derived.Lib.LaidTab
set_option linter.all false
section
namespace Go.Proofs.YtkmdidplmfdikaaDoor
open Go.Ev
set_option maxRecDepth 100000
set_option linter.unusedSimpArgs false
set_option linter.unusedVariables false
set_option maxHeartbeats 4000000

theorem tEvT22 :type_of% (And.intro (And.intro (And.intro (And.intro (And.intro (@zSv) (And.intro (@xNy) (@bs_64))) (And.intro (And.intro (@bs_67) (@ia_2)) (And.intro (@sz_2) (@ze_2)))) (And.intro (And.intro (@ia_3) (And.intro (@sz_3) (@ze_3))) (And.intro (And.intro (@zSy) (@ia_4)) (And.intro (@sz_4) (@ze_4))))) (And.intro (And.intro (And.intro (@zTx) (And.intro (@zRx) (@zOv))) (And.intro (And.intro (@zVw) (@zUv)) (And.intro (@zVx) (@zZv)))) (And.intro (And.intro (And.intro (@zZw) (@ze_64)) (And.intro (@yLy) (@yKz))) (And.intro (And.intro (@wAy) (@zSx)) (And.intro (@zSz) (@zSw)))))) (And.intro (And.intro (And.intro (And.intro (@zXv) (And.intro (@zUz) (@ia_93))) (And.intro (And.intro (@sz_93) (@ze_93)) (And.intro (@ia_69) (@ia_95)))) (And.intro (And.intro (And.intro (@zXy) (@zXz)) (And.intro (@zRz) (@zLw))) (And.intro (And.intro (@zLx) (@zOw)) (And.intro (@zOx) (@zOy))))) (And.intro (And.intro (And.intro (@zOz) (And.intro (@zMy) (@zMz))) (And.intro (And.intro (@yKv) (@yCy)) (And.intro (@pb_39) (@xMy)))) (And.intro (And.intro (And.intro (@pb_53) (@pb_54)) (And.intro (@pb_55) (@pb_56))) (And.intro (And.intro (@pb_57) (@pb_58)) (And.intro (@pb_59) (@xNz))))))):=And.intro (And.intro (And.intro (And.intro (And.intro (@zSv) (And.intro (@xNy) (@bs_64))) (And.intro (And.intro (@bs_67) (@ia_2)) (And.intro (@sz_2) (@ze_2)))) (And.intro (And.intro (@ia_3) (And.intro (@sz_3) (@ze_3))) (And.intro (And.intro (@zSy) (@ia_4)) (And.intro (@sz_4) (@ze_4))))) (And.intro (And.intro (And.intro (@zTx) (And.intro (@zRx) (@zOv))) (And.intro (And.intro (@zVw) (@zUv)) (And.intro (@zVx) (@zZv)))) (And.intro (And.intro (And.intro (@zZw) (@ze_64)) (And.intro (@yLy) (@yKz))) (And.intro (And.intro (@wAy) (@zSx)) (And.intro (@zSz) (@zSw)))))) (And.intro (And.intro (And.intro (And.intro (@zXv) (And.intro (@zUz) (@ia_93))) (And.intro (And.intro (@sz_93) (@ze_93)) (And.intro (@ia_69) (@ia_95)))) (And.intro (And.intro (And.intro (@zXy) (@zXz)) (And.intro (@zRz) (@zLw))) (And.intro (And.intro (@zLx) (@zOw)) (And.intro (@zOx) (@zOy))))) (And.intro (And.intro (And.intro (@zOz) (And.intro (@zMy) (@zMz))) (And.intro (And.intro (@yKv) (@yCy)) (And.intro (@pb_39) (@xMy)))) (And.intro (And.intro (And.intro (@pb_53) (@pb_54)) (And.intro (@pb_55) (@pb_56))) (And.intro (And.intro (@pb_57) (@pb_58)) (And.intro (@pb_59) (@xNz))))))
def Few (sp:List (Int × Int)) (ch:Int) (i:Nat) (y:Int):Prop:=∃ l,InR sp l∧Cost cntI l≤ch∧l[i]? = some y
def FewR (sp:List (Int × Int)) (ch:Int) (i:Nat) (r:Int × Int):Prop:=Few sp ch i r.1∧Few sp ch i r.2 ∧ ∀ y,Few sp ch i y→r.1≤y∧y≤r.2
def offS (x:Stt) (i:Nat):Int:=if i=x.i then x.b else x.a
def mark1 (sp:List (Int × Int)) (ch:Int) (i:Nat) (ms:List Bool) (p:Stt × Int):List Bool:=if p.2+dueS cntI sp p.1≤ch then ms.set (offS p.1 i - (spot sp i).1).toNat true else ms
theorem mark1_len {sp:List (Int × Int)} {ch:Int} {i:Nat} {ms:List Bool} {p:Stt × Int} : (mark1 sp ch i ms p).length=ms.length:=by unfold mark1;split <;> simp
theorem xUw {sp:List (Int × Int)} {ch:Int} {i:Nat} : ∀ (ps:List (Stt × Int)) (ms:List Bool),(ps.foldl (mark1 sp ch i) ms).length=ms.length
  | [],_=>rfl
  | p :: ps,ms=>by rw [List.foldl_cons,xUw ps,mark1_len]
theorem marks_mem {sp:List (Int × Int)} {ch:Int} {i j:Nat} : ∀ (ps:List (Stt × Int)) (ms:List Bool),j<ms.length→((ps.foldl (mark1 sp ch i) ms)[j]? = some true ↔ ms[j]? = some true ∨ ∃ p,p ∈ ps∧p.2+dueS cntI sp p.1≤ch∧(offS p.1 i - (spot sp i).1).toNat=j)
  | [],ms,_=>by simp
  | p :: ps,ms,hj=>by
    rw [List.foldl_cons,marks_mem ps _ (by rw [mark1_len];exact hj)]
    have h1:(mark1 sp ch i ms p)[j]? = some true ↔ ms[j]? = some true∨p.2+dueS cntI sp p.1≤ch∧(offS p.1 i - (spot sp i).1).toNat=j:=by
      unfold mark1
      by_cases hc:p.2+dueS cntI sp p.1≤ch
      · rw [if_pos hc]
        by_cases e:(offS p.1 i - (spot sp i).1).toNat=j
        · subst e
          rw [List.getElem?_set_self hj]
          simp [hc]
        · rw [List.getElem?_set_ne e]
          simp [e]
      · rw [if_neg hc];simp [hc]
    rw [h1]
    constructor
    · rintro ((h|h)|⟨q,hq,h⟩)
      · exact .inl h
      · exact .inr ⟨p,by simp,h⟩
      · exact .inr ⟨q,by simp [hq],h⟩
    · rintro (h|⟨q,hq,h⟩)
      · exact .inl (.inl h)
      · rcases List.mem_cons.1 hq with rfl|hq
        · exact .inl (.inr h)
        · exact .inr ⟨q,hq,h⟩
def marksAt (sp:List (Int × Int)) (ch:Int) (i:Nat):List Bool:=(reachL sp (max i 1) (paidT cntI sp)).foldl (mark1 sp ch i) (List.replicate 5 false)
theorem off_ok {sp:List (Int × Int)} (hsp:SpotsOK sp) {x:Stt} (hx:x.Ok sp) {i:Nat} (hi:x.i=max i 1):(spot sp i).1≤offS x i∧offS x i≤(spot sp i).2:=by
  obtain ⟨_,h3,h4,_⟩:=hx
  unfold offS
  by_cases e:i=x.i
  · rw [if_pos e,e];exact h4
  · rw [if_neg e]
    have:i=x.i - 1:=by omega
    rw [this];exact h3
theorem cnt_le (A:AV) (turn:Int) : ∀ (a b s c:Int),Off a→Off b→Off c→0≤cntI a b s c∧cntI a b s c≤5000000:=(countStep A turn).le
theorem marksAt_iff {sp:List (Int × Int)} (hsp:SpotsOK sp) {ch:Int} {i:Nat} (hi:i<sp.length) {j:Nat} (hj:j<5):(marksAt sp ch i)[j]? = some true ↔ Few sp ch i ((spot sp i).1+(j:Int)):=by
  have n2:=hsp.n2
  have P:=PD.last (pf:=cntI) hsp (cnt_le .nils 0)
  unfold marksAt
  rw [marks_mem _ _ (by simpa using hj)]
  have h0 : ¬ (List.replicate 5 false)[j]? = some true:=by
    rw [List.getElem?_replicate,if_pos hj];simp
  have hm1:1≤max i 1∧max i 1<sp.length:=by omega
  constructor
  · rintro (h|⟨p,hp,hc,he⟩)
    · exact absurd h h0
    · obtain ⟨k1,k2,k3,k4,k5⟩:=yFw P.wt hm1 hp
      have hr:=off_ok hsp k1 k2
      have k3':tb sp (paidT cntI sp) p.1=p.2:=k3.symm
      obtain ⟨l,l1,l2,l3,l4⟩:=through_ex hsp (cnt_le .nils 0) P k1 (by rw [k3'];exact k5)
      refine ⟨l,l1,?_,?_⟩
      · rw [l4,k3'];exact hc
      · rw [← he,show (spot sp i).1+((offS p.1 i - (spot sp i).1).toNat:Int)=offS p.1 i by omega]
        unfold offS
        by_cases e:i=p.1.i
        · rw [if_pos e,e];exact l3
        · rw [if_neg e]
          have:i=p.1.i - 1:=by omega
          rw [this];exact l2
  · rintro ⟨l,l1,l2,l3⟩
    right
    obtain ⟨x,x1,x2,x3,x4,x5,x6⟩:=through_le hsp (cnt_le .nils 0) P l1 hm1
    have hx:=P.reach hsp x1 (by omega) x5
    rw [x2] at hx
    refine ⟨_,hx,by show tb sp (paidT cntI sp) x+dueS cntI sp x≤ch;omega,?_⟩
    have:offS x i=(spot sp i).1+(j:Int):=by
      unfold offS
      by_cases e:i=x.i
      · rw [if_pos e]
        rw [show max i 1=i by omega,l3] at x4
        exact (Option.some.inj x4).symm
      · rw [if_neg e]
        rw [show max i 1 - 1=i by omega,l3] at x3
        exact (Option.some.inj x3).symm
    show (offS x i - _).toNat=j
    omega
theorem few_in {sp:List (Int × Int)} {ch:Int} {i:Nat} {y:Int} (h:Few sp ch i y):(spot sp i).1≤y∧y≤(spot sp i).2:=by
  obtain ⟨l,l1,_,l3⟩:=h
  exact xVx l1 l3
noncomputable def EB (E:List AO) (im:Nat) (ms:List Bool):List AO:=E.set im (.cells (zAy (ms.map bb')) 4)
theorem zZx (E:List AO) (im:Nat) (ms:List Bool):(EB E im ms).length=E.length:=List.length_set
theorem EB_self {E:List AO} {im:Nat} (h:im<E.length) (ms:List Bool):(EB E im ms)[im]? = some (.cells (zAy (ms.map bb')) 4):=List.getElem?_set_self h
theorem yPz {E:List AO} {im j:Nat} (h:im≠j) (ms:List Bool):(EB E im ms)[j]? = E[j]?:=List.getElem?_set_ne h
theorem xLy {E:List AO} {im:Nat} (h:im<E.length) (ms:List Bool) (F:List AO):EB E im ms++F=EB (E++F) im ms:=(List.set_append_left _ _ h).symm
theorem EB_set {E:List AO} {im j:Nat} (h:im≠j) (ms:List Bool) (o:AO):(EB E im ms).set j o=EB (E.set j o) im ms:=List.set_comm _ _ h
theorem EB_put (E:List AO) (im:Nat) (ms ms':List Bool):(EB E im ms).set im (.cells (zAy (ms'.map bb')) 4)=EB E im ms':=List.set_set _
theorem bi_clear {P:Program} {t:TypeId} {ty:TypeId} {x:AV} {h:H} : builtinE P .clear [t] ty [x] h=clearE P t x h:=rfl
theorem ix_93 {q:Pos} {n i:Nat} {c:Option Nat} (hi:i<n):indexAddrE Tryd.prog 93 (.sl q 0 n c 1) (.int .i64 (i:Int))=some (.ptr q i):=by
  rw [zQv,zTy];dsimp only;rw [ik_93];dsimp only;rw [zYw hi,Nat.zero_add,Nat.mul_one]
theorem fst_lt {ms:List Bool} {j:Nat} (h:ms[j]? = some true):fst' ms<ms.length:=by
  unfold fst'
  exact List.findIdx_lt_length_of_exists ⟨true,List.mem_of_getElem? h,rfl⟩
theorem yMv (sp:List (Int × Int)) (k:Nat) (x y:Int) (hk:k<sp.length):splice (zMx sp) (k * 2) [ii x,ii y]=zMx (sp.set k (x,y)):=by
  induction sp generalizing k with
  | nil=>simp at hk
  | cons r R ih=>
    cases k with
    | zero=>simp [zMx,yFz]
    | succ k=>
      have:=ih k (by simpa using hk)
      have e:(k+1) * 2=k * 2+1+1:=by omega
      rw [e]
      simp only [yFz,zMx,List.set_cons_succ,List.flatMap_cons,List.cons_append,List.nil_append,List.take_succ_cons,List.length_cons,List.length_nil,Nat.zero_add] at this ⊢
      rw [show k * 2+1+1+(1+1)=k * 2+(1+1)+1+1 from by omega,List.drop_succ_cons,List.drop_succ_cons,this]
theorem spread2 (sp:List (Int × Int)) (hsp:SpotsOK sp) (a:AV) (hca:Cape 2 a) (turn:Int) (hturn:0≤turn∧turn≤1000000) (ch:Int) (hch:0≤ch) (h:H) (wf:Wf h) (ht:TabF h) (hs:Sl h a 2 sp.length (zLy sp)) :
    WV ((om Tryd.prog KK).call (.fn 25 [.agg [a,ii turn],ii ch]) h) fun v h'=>(∃ (L:List AO) (k:Nat) (R:List (Int × Int)),v = .tup [.sl (nx h k) 0 sp.length none 2,ii 0]∧h'=X h L h.w∧L[k]? = some (.cells (zAy (zMx R)) 51)∧R.length=sp.length ∧ ∀ i,i<sp.length→FewR sp ch i (spot R i)) ∨
      (v = .tup [.nils,ii 17]∧h'=h ∧ ∀ l,InR sp l→ch<Cost cntI l):=by
  have n2:=hsp.n2
  have n24:=hsp.n24
  have hR0:spotsR sp turn=0:=by
    unfold spotsR;rw [if_neg (by omega),if_pos ⟨hsp.ok,hturn⟩]
  have S:=countStep a turn
  have hlen : ∀ h',lenE Tryd.prog 22 a h'=some (ii (sp.length:Int)):=fun h'=>hs.len yWv
  have ha1:oneB a=true∧AV.cells a=[a]:=by obtain ⟨_,⟨rfl,_⟩|⟨_,_,_,_,_,_,rfl,_⟩⟩:=hs <;> exact ⟨rfl,rfl⟩
  have hCS : ∀ l w,w≤h.clock+l.length→(om Tryd.prog KK).call (.fn 14 [.agg [a,ii turn]]) (X h l w) = .ok (ii 0) (X h l w):=fun l w hw=>by
    have:=CheckSpots sp turn a (by omega) _ (wf.X hw) (hs.up wf _ _)
    rw [hR0] at this;exact this
  have hcl:=clone sp (by omega) a hca (X h [.cells (zAy [a,ii turn]) 24,.cells (zAy [ii ch]) 3] h.clock) (wf.X (by omega)) (hs.up wf _ _)
  rw [X_X,nx_X,X_w] at hcl
  simp only [List.length_cons,List.length_nil,Nat.reduceAdd,List.cons_append,List.nil_append] at hcl
  obtain ⟨vp,hp',ep,Lp,kp,rfl,rfl,hkp⟩:=paid S sp hsp a turn (X h [.cells (zAy [a,ii turn]) 24,.cells (zAy [ii ch]) 3,.cells (zAy []) 51,.cells (zAy (zLy sp)) 51,.cells (zAy [a,ii turn]) 64] (h.clock+5)) (wf.X (by simp only [List.length_cons,List.length_nil];omega)) (ht.up wf _ _) (hs.up wf _ _)
  rw [X_X,nx_X,X_w] at ep
  simp only [List.length_cons,List.length_nil,Nat.reduceAdd,List.cons_append,List.nil_append] at ep
  obtain ⟨vd,hd',ed,Ld,kd,Td,rfl,rfl,hkd,hTdl,hTdb,hTd⟩:=due S sp hsp a turn (X h (.cells (zAy [a,ii turn]) 24 :: .cells (zAy [ii ch]) 3 :: .cells (zAy []) 51 :: .cells (zAy (zLy sp)) 51 :: .cells (zAy [a,ii turn]) 64 :: Lp) (h.clock+(Lp.length+5))) (wf.X (by simp only [List.length_cons];omega)) (ht.up wf _ _) (hs.up wf _ _)
  rw [X_X,nx_X,X_w] at ed
  simp only [List.length_cons,List.length_nil,Nat.reduceAdd,List.cons_append,List.nil_append] at ed
  refine zKv (fn:=Tryd.f25) Tryd.func25 rfl rfl rfl rfl rfl ?_
  simp only [zKx]
  unfold prv at ep ed
  (repeat' (first
  | (with_reducible first|refine zJz ?_|refine zGw ?_|refine zEw ?_|refine zEx ?_|refine zEv ?_|refine zJy ?_|refine zGv ?_|refine zBw ?_|refine zDx ?_|refine zBv ?_|refine zCx ?_|refine zEz ?_|refine zCw ?_|refine zCz ?_|refine zBz ?_|refine zDv ?_|refine zDy ?_|refine zAx ?_|refine zAv ?_)
  | refine zCv ?_|refine zEy rfl ?_|refine zIx ?_|refine zIv ?_
  | ((first|refine zGx rfl rfl rfl rfl rfl fun K_ hK_=>?_|refine zGy rfl rfl rfl rfl rfl fun K_ hK_=>?_);simp only [zAz,zDz,zFw,↓reduceIte,reduceCtorEq,Nat.reduceEqDiff,Bool.not_true,Bool.not_false];refine hK_ _ ?_;clear hK_ K_)
  | refine zDw (by decide) ?_
  | ((try first|refine zJx rfl rfl rfl ?_|refine zIy rfl rfl ?_|refine zJw rfl rfl rfl ?_|refine zIw rfl rfl ?_);(refine zIz fun Q_ hQ_=>?_;simp (disch:=first|omega|(simp only [List.length_cons,List.length_nil,List.length_append];omega)) only [bb,bp,zKx,↓reduceIte,reduceCtorEq,Nat.reduceEqDiff,Nat.reduceLT,Nat.reduceLeDiff,Nat.reduceAdd,Nat.reduceMul,Nat.reduceSub,Nat.reduceBEq,Int.reduceToNat,cond_true,cond_false,eq_self,beq_self_eq_true,hCS,hlen,hcl,ha1.1,ha1.2,zHz wf,zHx wf,zFz wf,zHy wf,zBx wf,zFy,tEvT22,zHw,zNv,zAw wf];first|(refine zCy (Q:=Q_) (fun hp_=>?_) (fun hp_=>?_) <;> first|(exfalso;omega)|(refine hQ_ _ _ ?_;clear hQ_ Q_))|(refine zBy (Q:=Q_) (fun hp_=>?_) (fun hp_=>?_) <;> first|(exfalso;omega)|(refine hQ_ _ _ ?_;clear hQ_ Q_))|(refine hQ_ _ _ ?_;clear hQ_ Q_)))
  | (refine zFv fun K_ hK_=>?_;simp (disch:=omega) only [zFx,zAz,zGz,↓reduceIte,reduceCtorEq,Nat.reduceEqDiff,Nat.reduceLT];refine hK_ _ ?_;clear hK_ K_)))
  refine zNw [.no,.no,.no,.no,.no,.no,.no,.no,.no,.no,.full,.full] (by kernel_rfl) ?_
  have hms : ∀ l w,makeSliceE Tryd.prog 93 (.int .i64 5) (.int .i64 5) (X h l w) = .ok (.sl (nx h l.length) 0 5 (some 5) 1) (X h (l++[.cells (zAy (List.replicate 5 (.bool false))) 4]) w):=fun l w=>makeSlice_X (n:=5) wf un_93 sz_4 el_4 (by decide) (by decide) rfl
  (repeat' (first
  | (with_reducible first|refine zJz ?_|refine zGw ?_|refine zEw ?_|refine zEx ?_|refine zEv ?_|refine zJy ?_|refine zGv ?_|refine zBw ?_|refine zDx ?_|refine zBv ?_|refine zCx ?_|refine zEz ?_|refine zCw ?_|refine zCz ?_|refine zBz ?_|refine zDv ?_|refine zDy ?_|refine zAx ?_|refine zAv ?_)
  | refine zCv ?_|refine zEy rfl ?_|refine zIx ?_|refine zIv ?_
  | ((first|refine zGx rfl rfl rfl rfl rfl fun K_ hK_=>?_|refine zGy rfl rfl rfl rfl rfl fun K_ hK_=>?_);simp only [zAz,zDz,zFw,↓reduceIte,reduceCtorEq,Nat.reduceEqDiff,Bool.not_true,Bool.not_false];refine hK_ _ ?_;clear hK_ K_)
  | refine zDw (by decide) ?_
  | ((try first|refine zJx rfl rfl rfl ?_|refine zIy rfl rfl ?_|refine zJw rfl rfl rfl ?_|refine zIw rfl rfl ?_);(refine zIz fun Q_ hQ_=>?_;simp (disch:=first|omega|(simp only [List.length_cons,List.length_nil,List.length_append];omega)) only [bb,bp,zKx,↓reduceIte,reduceCtorEq,Nat.reduceEqDiff,Nat.reduceLT,Nat.reduceLeDiff,Nat.reduceAdd,Nat.reduceMul,Nat.reduceSub,Nat.reduceBEq,Int.reduceToNat,cond_true,cond_false,eq_self,beq_self_eq_true,ep,ed,hms,hlen,ha1.1,ha1.2,zHz wf,zHx wf,zFz wf,zHy wf,zBx wf,zFy,tEvT22,zHw,zNv,zAw wf];first|(refine zCy (Q:=Q_) (fun hp_=>?_) (fun hp_=>?_) <;> first|(exfalso;omega)|(refine hQ_ _ _ ?_;clear hQ_ Q_))|(refine zBy (Q:=Q_) (fun hp_=>?_) (fun hp_=>?_) <;> first|(exfalso;omega)|(refine hQ_ _ _ ?_;clear hQ_ Q_))|(refine hQ_ _ _ ?_;clear hQ_ Q_)))
  | (refine zFv fun K_ hK_=>?_;simp (disch:=omega) only [zFx,zAz,zGz,↓reduceIte,reduceCtorEq,Nat.reduceEqDiff,Nat.reduceLT];refine hK_ _ ?_;clear hK_ K_)))
  have hkpl:=zHv hkp
  have hkdl:=zHv hkd
  obtain ⟨E0,hE0⟩ : ∃ E0,E0=AO.cells (zAy [a,ii turn]) 24 :: .cells (zAy [ii ch]) 3 :: .cells (zAy []) 51 :: .cells (zAy (zLy sp)) 51 :: .cells (zAy [a,ii turn]) 64 :: (Lp++(Ld++[.cells (zAy [a,ii turn,.sl (nx h (5+kp)) 0 (sp.length - 1) (some (sp.length - 1)) 75]) 67,.cells (zAy [a,ii turn,.sl (nx h (Lp.length+1+1+1+1+1+kd)) 0 (sp.length - 1) (some (sp.length - 1)) 75]) 67,.cells (zAy (List.replicate 5 (.bool false))) 4,.cells (zAy [.sl (nx h (Lp.length+(Ld.length+2)+1+1+1+1+1)) 0 5 (some 5) 1]) 93])):=⟨_,rfl⟩
  have z0:E0[0]? = some (.cells (zAy [a,ii turn]) 24):=by rw [hE0];rfl
  have z1:E0[1]? = some (.cells (zAy [ii ch]) 3):=by rw [hE0];rfl
  have z3:E0[3]? = some (.cells (zAy (zMx sp)) 51):=by rw [hE0];rfl
  have zkp:E0[5+kp]? = some (.cells (zAy ((paidT cntI sp).map ii)) 112):=by
    rw [hE0,show 5+kp=kp+1+1+1+1+1 by omega]
    simp only [List.getElem?_cons_succ]
    rw [List.getElem?_append_left hkpl];exact hkp
  have zkd:E0[Lp.length+1+1+1+1+1+kd]? = some (.cells (zAy (Td.map ii)) 112):=by
    rw [hE0,show Lp.length+1+1+1+1+1+kd=Lp.length+kd+1+1+1+1+1 by omega]
    simp only [List.getElem?_cons_succ,zLv]
    rw [List.getElem?_append_left hkdl];exact hkd
  have z9:E0[Lp.length+Ld.length+1+1+1+1+1]? = some (.cells (zAy [a,ii turn,.sl (nx h (5+kp)) 0 (sp.length - 1) (some (sp.length - 1)) 75]) 67):=by
    rw [hE0];simp only [List.getElem?_cons_succ,zLv,zPx,List.getElem?_cons_zero]
  have z10:E0[Lp.length+(Ld.length+1)+1+1+1+1+1]? = some (.cells (zAy [a,ii turn,.sl (nx h (Lp.length+1+1+1+1+1+kd)) 0 (sp.length - 1) (some (sp.length - 1)) 75]) 67):=by
    rw [hE0];simp only [List.getElem?_cons_succ,zLv,zPx,List.getElem?_cons_zero]
  have zm:E0[Lp.length+(Ld.length+2)+1+1+1+1+1]? = some (.cells (zAy ((List.replicate 5 false).map bb')) 4):=by
    rw [hE0];simp only [List.getElem?_cons_succ,zLv,zPx,List.getElem?_cons_zero];rfl
  have z11:E0[Lp.length+(Ld.length+3)+1+1+1+1+1]? = some (.cells (zAy [.sl (nx h (Lp.length+(Ld.length+2)+1+1+1+1+1)) 0 5 (some 5) 1]) 93):=by
    rw [hE0];simp only [List.getElem?_cons_succ,zLv,zPx,List.getElem?_cons_zero]
  rw [← hE0]
  clear hE0 hkp hkd ep ed hcl hms
  generalize hkpe:5+kp=ikp at *
  generalize hkde:Lp.length+1+1+1+1+1+kd=ikd at *
  generalize h11:Lp.length+(Ld.length+3)+1+1+1+1+1=i11 at *
  generalize hm:Lp.length+(Ld.length+2)+1+1+1+1+1=im at *
  generalize h10:Lp.length+(Ld.length+1)+1+1+1+1+1=i10 at *
  generalize h9:Lp.length+Ld.length+1+1+1+1+1=i9 at *
  refine zTv (fun (k:Nat) f d h'=>k≤sp.length∧(f 2 = .ptr (nx h 0) 0∧f 3 = .ptr (nx h 1) 0∧f 7 = .sl (nx h 3) 0 sp.length none 2∧f 9 = .ptr (nx h i9) 0∧f 10 = .ptr (nx h i10) 0∧f 11 = .ptr (nx h i11) 0∧f 43=a∧f 44=ii (sp.length:Int))∧f 45=ii (k:Int) ∧ ∃ (E:List AO) (w:Nat) (ks:List Nat) (R:List (Int × Int)) (ms:List Bool),d=ks.map (nx h)∧h'=X h E w∧(E[0]? = some (.cells (zAy [a,ii turn]) 24)∧E[1]? = some (.cells (zAy [ii ch]) 3)∧E[3]? = some (.cells (zAy (zMx R)) 51)∧E[ikp]? = some (.cells (zAy ((paidT cntI sp).map ii)) 112)∧E[ikd]? = some (.cells (zAy (Td.map ii)) 112)∧E[i9]? = some (.cells (zAy [a,ii turn,.sl (nx h ikp) 0 (sp.length - 1) (some (sp.length - 1)) 75]) 67)∧E[i10]? = some (.cells (zAy [a,ii turn,.sl (nx h ikd) 0 (sp.length - 1) (some (sp.length - 1)) 75]) 67)∧E[im]? = some (.cells (zAy (ms.map bb')) 4)∧E[i11]? = some (.cells (zAy [.sl (nx h im) 0 5 (some 5) 1]) 93))∧(R.length=sp.length ∧ ∀ j,j<k→FewR sp ch j (spot R j))∧ms.length=5∧ks.Nodup∧(∀ j ∈ ks,E[j]? = some .dfr)∧h.clock≤w∧w≤h.clock+E.length) (fun k=>sp.length - k) ?_ (sp.length+1) 0 (by omega) ?_
  rotate_left 1
  · exact ⟨by omega,⟨by simp only [zAz,↓reduceIte,reduceCtorEq,Nat.reduceEqDiff],by simp only [zAz,↓reduceIte,reduceCtorEq,Nat.reduceEqDiff],by simp only [zAz,↓reduceIte,reduceCtorEq,Nat.reduceEqDiff],by simp only [zAz,↓reduceIte,reduceCtorEq,Nat.reduceEqDiff],by simp only [zAz,↓reduceIte,reduceCtorEq,Nat.reduceEqDiff],by simp only [zAz,↓reduceIte,reduceCtorEq,Nat.reduceEqDiff],by simp only [zAz,↓reduceIte,reduceCtorEq,Nat.reduceEqDiff],by simp only [zAz,↓reduceIte,reduceCtorEq,Nat.reduceEqDiff]⟩,by (try simp only [zAz,↓reduceIte,reduceCtorEq,Nat.reduceEqDiff]) <;> rfl,E0,_,[],sp,List.replicate 5 false,rfl,rfl,⟨z0,z1,z3,zkp,zkd,z9,z10,zm,z11⟩,⟨rfl,fun j hj=>absurd hj (Nat.not_lt_zero _)⟩,rfl,by simp,fun j hj=>by simp at hj,Nat.le_refl _,by omega⟩
  clear z0 z1 z3 zkp zkd z9 z10 zm z11
  rintro k f d h' ⟨hk,⟨g2,g3,g7,g9,g10,g11,g43,g44⟩,g45,E,w,ks,R,ms,rfl,rfl,⟨z0,z1,z3,zkp,zkd,z9,z10,zm,z11⟩,⟨hRl,hR⟩,hml,hks,hkd,hw1,hw2⟩
  have l0:=zHv z0
  have l11:=zHv z11
  by_cases hlt:k<sp.length
  · obtain ⟨id0,off0,hix0,hld0⟩:=hs.at wf hlt yLz
    have hr0 : ∀ l w,loadAgg id0 off0 (some 2) (X h l w)=some (.agg [ii (spot sp k).1,ii (spot sp k).2]):=fun l w=>by rw [(hld0 l w).2,zXx hlt,zQy hlt]
    obtain ⟨⟨o1,o2⟩,⟨o3,o4⟩,o5,o6⟩:=hsp.at hlt
    have q11 : ∀ F,(E++F)[i11]? = some (.cells (zAy [.sl (nx h im) 0 5 (some 5) 1]) 93):=fun F=>by rw [List.getElem?_append_left l11];exact z11
    have hclr : ∀ (F:List AO) w,clearE Tryd.prog 93 (.sl (nx h im) 0 5 (some 5) 1) (X h (E++F) w) = .ok (.tup []) (X h (EB (E++F) im (List.replicate 5 false)) (min (h.clock+im) w)):=fun F w=>by
      rw [clear5 wf (cs:=ms.map bb') (by rw [List.getElem?_append_left (zHv zm)];exact zm) (by rw [List.length_map,hml])]
      unfold EB
      rw [List.map_replicate]
    obtain ⟨F1,hF1⟩ : ∃ F1,F1=E++[AO.cells (zAy [.int .i64 (k:Int)]) 3,.cells (zAy [ii (spot sp k).1,ii (spot sp k).2]) 51]:=⟨_,rfl⟩
    have Fl:F1.length=E.length+2:=by rw [hF1];simp only [List.length_append,List.length_cons,List.length_nil]
    have FE : ∀ (j:Nat) ob,E[j]? = some ob→F1[j]? = some ob:=fun j ob hg=>by rw [hF1,List.getElem?_append_left (zHv hg)];exact hg
    have Fk:F1[E.length]? = some (.cells (zAy [ii (k:Int)]) 3):=by rw [hF1,zPx];rfl
    have Fr:F1[E.length+1]? = some (.cells (zAy [ii (spot sp k).1,ii (spot sp k).2]) 51):=by rw [hF1,zLv];rfl
    have lim:=zHv zm
    have n9:i9≠im:=fun e=>by rw [e,zm] at z9;injection z9 with z9;injection z9 with _ z9;exact absurd z9 (by decide)
    have hmx:max (k:Int) 1=((max k 1:Nat):Int):=by omega
    have hkm:1≤max k 1∧max k 1<sp.length:=by omega
    have hclr' : ∀ w,clearE Tryd.prog 93 (.sl (nx h im) 0 5 (some 5) 1) (X h (E++[AO.cells (zAy [.int .i64 (k:Int)]) 3,.cells (zAy [ii (spot sp k).1,ii (spot sp k).2]) 51]) w) = .ok (.tup []) (X h (EB F1 im (List.replicate 5 false)) (min (h.clock+im) w)):=fun w=>by rw [hF1];exact hclr _ w
    have r9:(EB F1 im (List.replicate 5 false))[i9]? = some (.cells (zAy [a,ii turn,.sl (nx h ikp) 0 (sp.length - 1) (some (sp.length - 1)) 75]) 67):=by rw [yPz (by omega)];exact FE _ _ z9
    have r12:(EB F1 im (List.replicate 5 false))[E.length]? = some (.cells (zAy [ii (k:Int)]) 3):=by rw [yPz (by omega)];exact Fk
    have hrd:=reached a turn ((max k 1:Nat):Int) (nx h ikp) (sp.length - 1) h wf (EB F1 im (List.replicate 5 false)) (min (h.clock+im) (min (h.clock+(E.length+1)) (min (h.clock+E.length) w))) (by rw [zZx];omega)
    rw [zZx] at hrd
    unfold prv at hrd
    (repeat' (first
  | (with_reducible first|refine zJz ?_|refine zGw ?_|refine zEw ?_|refine zEx ?_|refine zEv ?_|refine zJy ?_|refine zGv ?_|refine zBw ?_|refine zDx ?_|refine zBv ?_|refine zCx ?_|refine zEz ?_|refine zCw ?_|refine zCz ?_|refine zBz ?_|refine zDv ?_|refine zDy ?_|refine zAx ?_|refine zAv ?_)
  | refine zCv ?_|refine zEy rfl ?_|refine zIx ?_|refine zIv ?_
  | ((first|refine zGx rfl rfl rfl rfl rfl fun K_ hK_=>?_|refine zGy rfl rfl rfl rfl rfl fun K_ hK_=>?_);simp only [zAz,zDz,zFw,↓reduceIte,reduceCtorEq,Nat.reduceEqDiff,Bool.not_true,Bool.not_false];refine hK_ _ ?_;clear hK_ K_)
  | refine zDw (by decide) ?_
  | ((try first|refine zJx rfl rfl rfl ?_|refine zIy rfl rfl ?_|refine zJw rfl rfl rfl ?_|refine zIw rfl rfl ?_);(refine zIz fun Q_ hQ_=>?_;simp (disch:=first|omega|(simp only [List.length_cons,List.length_nil,List.length_append];omega)) only [bb,bp,zKx,↓reduceIte,reduceCtorEq,Nat.reduceEqDiff,Nat.reduceLT,Nat.reduceLeDiff,Nat.reduceAdd,Nat.reduceMul,Nat.reduceSub,Nat.reduceBEq,Int.reduceToNat,cond_true,cond_false,eq_self,beq_self_eq_true,g2,g3,g7,g9,g10,g11,g43,g44,g45,hix0,hr0,q11,bi_clear,hclr',r9,r12,hmx,hrd,zHz wf,zHx wf,zFz wf,zHy wf,zBx wf,tEvT22,zHw,zNv,zAw wf];first|(refine zCy (Q:=Q_) (fun hp_=>?_) (fun hp_=>?_) <;> first|(exfalso;omega)|(refine hQ_ _ _ ?_;clear hQ_ Q_))|(refine zBy (Q:=Q_) (fun hp_=>?_) (fun hp_=>?_) <;> first|(exfalso;omega)|(refine hQ_ _ _ ?_;clear hQ_ Q_))|(refine hQ_ _ _ ?_;clear hQ_ Q_)))
  | (refine zFv fun K_ hK_=>?_;simp (disch:=omega) only [zFx,zAz,zGz,↓reduceIte,reduceCtorEq,Nat.reduceEqDiff,Nat.reduceLT];refine hK_ _ ?_;clear hK_ K_)))
    generalize hwB:min (h.clock+im) (min (h.clock+(E.length+1)) (min (h.clock+E.length) w))=wB
    have hwB1:h.clock≤wB∧wB≤h.clock+E.length:=by omega
    rw [xLy (by omega)]
    refine yDx wf rfl (zFx (by decide)) fun o ho=>?_
    simp only [zAz,↓reduceIte,reduceCtorEq,Nat.reduceEqDiff] at ho ⊢
    rw [zZx,xLy (by rw [List.length_append];omega)]
    simp only [List.length_append,List.length_cons,List.length_nil,List.append_assoc,List.cons_append,List.nil_append,Nat.zero_add,Nat.reduceAdd]
    obtain ⟨E2,hE2⟩ : ∃ E2,E2=F1++[AO.cells (zAy [a,ii turn,.sl (nx h ikp) 0 (sp.length - 1) (some (sp.length - 1)) 75]) 67,.cells (zAy [ii ((max k 1:Nat):Int)]) 3,.dfr,o]:=⟨_,rfl⟩
    rw [← hE2]
    have El:E2.length=F1.length+4:=by rw [hE2];simp only [List.length_append,List.length_cons,List.length_nil]
    have Ed:E2[F1.length+2]? = some .dfr:=by rw [hE2,zLv];rfl
    have Eo:E2[F1.length+2+1]? = some o:=by rw [hE2,Nat.add_assoc,zLv];rfl
    have Erp:E2[F1.length]? = some (.cells (zAy [a,ii turn,.sl (nx h ikp) 0 (sp.length - 1) (some (sp.length - 1)) 75]) 67):=by rw [hE2,zPx];rfl
    have Eri:E2[F1.length+1]? = some (.cells (zAy [ii ((max k 1:Nat):Int)]) 3):=by rw [hE2,zLv];rfl
    have EF : ∀ (j:Nat) ob,F1[j]? = some ob→E2[j]? = some ob:=fun j ob hg=>by rw [hE2,List.getElem?_append_left (zHv hg)];exact hg
    have P:=PD.last (pf:=cntI) hsp (cnt_le .nils 0)
    have hne:=P.ne hsp (i:=max k 1) ⟨hkm.1,by omega,hkm.2⟩
    have nkp:ikp≠im:=fun e=>by rw [e,zm] at zkp;injection zkp with zkp;injection zkp with _ zkp;exact absurd zkp (by decide)
    have nkd:ikd≠im:=fun e=>by rw [e,zm] at zkd;injection zkd with zkd;injection zkd with _ zkd;exact absurd zkd (by decide)
    have n10:i10≠im:=fun e=>by rw [e,zm] at z10;injection z10 with z10;injection z10 with _ z10;exact absurd z10 (by decide)
    have n11:i11≠im:=fun e=>by rw [e,zm] at z11;injection z11 with z11;injection z11 with _ z11;exact absurd z11 (by decide)
    have n0:0≠im:=fun e=>by rw [← e,z0] at zm;injection zm with zm;injection zm with _ zm;exact absurd zm (by decide)
    have n1':1≠im:=fun e=>by rw [← e,z1] at zm;injection zm with zm;injection zm with _ zm;exact absurd zm (by decide)
    have n3:3≠im:=fun e=>by rw [← e,z3] at zm;injection zm with zm;injection zm with _ zm;exact absurd zm (by decide)
    clear hE2 hrd hclr hclr' r9 r12
    refine WV.mono (reached1 (nx h F1.length) (nx h (F1.length+1)) (nx h ikp) a (max k 1) sp hsp hkm (paidT cntI sp) P.wt.len hne (nx h (F1.length+2+1)) _ (fun m hx=>∃ w0,hx=X h (EB E2 im (((reachL sp (max k 1) (paidT cntI sp)).take m).foldl (mark1 sp ch k) (List.replicate 5 false))) w0∧w0≤h.clock+E2.length) (fun _=>False) h.clock (fun _=>h.clock+E2.length) (h.clock+E2.length) (by simp only [X_w];omega) (by simp only [X_w,zQz,zZx];omega) (fun _=>by simp only [zQz,zZx];omega) (by simp only [zQz,zZx];omega) ?_ (fun _ h=>h.elim) ?_ ⟨wB,by rw [List.take_zero];rfl,by omega⟩ ?_) ?_
    · rintro m hx ⟨w0,rfl,hw0⟩
      refine ⟨RcIn.of wf (turn:=turn) (by rw [zZx];exact hw0) ?_ ?_ hs ht,Same.X (by simp only [zZx])⟩
      · rw [yPz (by omega)];exact Erp
      · rw [yPz (by omega)];exact Eri
    · rintro m x hx hbx J w1 ⟨w0,rfl,hw0⟩ hlo hw
      unfold ylds at hx
      rw [List.getElem?_map] at hx
      obtain ⟨p,hp1,rfl⟩:=Option.map_eq_some_iff.1 hx
      have hm:=zHv hp1
      have hpm:(reachL sp (max k 1) (paidT cntI sp))[m]=p:=by rw [List.getElem?_eq_getElem hm] at hp1;exact Option.some.inj hp1
      obtain ⟨pok,pi,_,pn0,pn1⟩:=yFw P.wt hkm (List.mem_of_getElem? hp1)
      have hnext:((reachL sp (max k 1) (paidT cntI sp)).take (m+1)).foldl (mark1 sp ch k) (List.replicate 5 false)=mark1 sp ch k (((reachL sp (max k 1) (paidT cntI sp)).take m).foldl (mark1 sp ch k) (List.replicate 5 false)) p:=by
        rw [List.take_succ_eq_append_getElem hm,hpm,List.foldl_append];rfl
      rw [hnext]
      have hMl:(((reachL sp (max k 1) (paidT cntI sp)).take m).foldl (mark1 sp ch k) (List.replicate 5 false)).length=5:=by rw [xUw];simp
      generalize ((reachL sp (max k 1) (paidT cntI sp)).take m).foldl (mark1 sp ch k) (List.replicate 5 false)=Tm at *
      have hw':w1≤h.clock+E2.length+J.length:=by simp only [zQz,zZx] at hw;omega
      rw [X_X,xLy (by omega)]
      refine yJx wf (k:=F1.length+2+1) (o:=o) (by rw [yPz (by omega),List.getElem?_append_left (by omega)];exact Eo) ho (setParams2 rfl rfl) ?_
      obtain ⟨⟨x,n⟩,rfl⟩ : ∃ q:Stt × Int,q=p:=⟨p,rfl⟩
      dsimp only at pok pi pn0 pn1 ⊢
      have hdx:=dueS_in S hsp pok
      have hox:=off_ok hsp pok pi
      have hfar:farI=1099511627776:=rfl
      have hn0:(EB (E2++J) im Tm).length=F1.length+(J.length+4):=by rw [zZx,List.length_append];omega
      unfold stv
      (repeat' (first
  | (with_reducible first|refine zJz ?_|refine zGw ?_|refine zEw ?_|refine zEx ?_|refine zEv ?_|refine zJy ?_|refine zGv ?_|refine zBw ?_|refine zDx ?_|refine zBv ?_|refine zCx ?_|refine zEz ?_|refine zCw ?_|refine zCz ?_|refine zBz ?_|refine zDv ?_|refine zDy ?_|refine zAx ?_|refine zAv ?_)
  | refine zCv ?_|refine zEy rfl ?_|refine zIx ?_|refine zIv ?_
  | ((first|refine zGx rfl rfl rfl rfl rfl fun K_ hK_=>?_|refine zGy rfl rfl rfl rfl rfl fun K_ hK_=>?_);simp only [zAz,zDz,zFw,↓reduceIte,reduceCtorEq,Nat.reduceEqDiff,Bool.not_true,Bool.not_false];refine hK_ _ ?_;clear hK_ K_)
  | refine zDw (by decide) ?_
  | ((try first|refine zJx rfl rfl rfl ?_|refine zIy rfl rfl ?_|refine zJw rfl rfl rfl ?_|refine zIw rfl rfl ?_);(refine zIz fun Q_ hQ_=>?_;simp (disch:=first|omega|(simp only [List.length_cons,List.length_nil,List.length_append];omega)) only [bb,bp,zKx,↓reduceIte,reduceCtorEq,Nat.reduceEqDiff,Nat.reduceLT,Nat.reduceLeDiff,Nat.reduceAdd,Nat.reduceMul,Nat.reduceSub,Nat.reduceBEq,Int.reduceToNat,cond_true,cond_false,eq_self,beq_self_eq_true,zHz wf,zHx wf,zFz wf,zHy wf,zBx wf,zFy,tEvT22,zHw,zNv,zAw wf];first|(refine zCy (Q:=Q_) (fun hp_=>?_) (fun hp_=>?_) <;> first|(exfalso;omega)|(refine hQ_ _ _ ?_;clear hQ_ Q_))|(refine zBy (Q:=Q_) (fun hp_=>?_) (fun hp_=>?_) <;> first|(exfalso;omega)|(refine hQ_ _ _ ?_;clear hQ_ Q_))|(refine hQ_ _ _ ?_;clear hQ_ Q_)))
  | (refine zFv fun K_ hK_=>?_;simp (disch:=omega) only [zFx,zAz,zGz,↓reduceIte,reduceCtorEq,Nat.reduceEqDiff,Nat.reduceLT];refine hK_ _ ?_;clear hK_ K_)))
      rw [hn0]
      refine yVz wf (k:=F1.length+2+1) (o:=o) (by rw [List.getElem?_append_left (by omega),yPz (by omega),List.getElem?_append_left (by omega)];exact Eo) ho fun o' ho'=>?_
      rw [List.set_append_left _ _ (by omega),EB_set (by omega)]
      obtain ⟨F,hF⟩ : ∃ F,F=(E2++J).set (F1.length+2+1) o':=⟨_,rfl⟩
      rw [← hF]
      have Fl2:F.length=F1.length+(J.length+4):=by rw [hF,List.length_set,List.length_append];omega
      have FF : ∀ (j:Nat) ob,F1[j]? = some ob→F[j]? = some ob:=fun j ob hg=>by
        have:=zHv hg
        rw [hF,List.getElem?_set_ne (by omega),List.getElem?_append_left (by omega)];exact EF j ob hg
      have Fo:F[F1.length+2+1]? = some o':=by rw [hF,List.getElem?_set_self (by rw [List.length_append];omega)]
      have bl:(EB F im Tm).length=F1.length+(J.length+4):=by rw [zZx,Fl2]
      have bg : ∀ (j:Nat) ob (R:List AO),j≠im→F1[j]? = some ob→(EB F im Tm++R)[j]? = some ob:=fun j ob R hj hg=>by
        have:=zHv hg
        rw [List.getElem?_append_left (by omega),yPz (by omega)];exact FF j ob hg
      have b1 : ∀ R,(EB F im Tm++R)[1]? = some (.cells (zAy [ii ch]) 3):=fun R=>bg _ _ R (by omega) (FE _ _ z1)
      have b10 : ∀ R,(EB F im Tm++R)[i10]? = some (.cells (zAy [a,ii turn,.sl (nx h ikd) 0 (sp.length - 1) (some (sp.length - 1)) 75]) 67):=fun R=>bg _ _ R n10 (FE _ _ z10)
      have b11 : ∀ R,(EB F im Tm++R)[i11]? = some (.cells (zAy [.sl (nx h im) 0 5 (some 5) 1]) 93):=fun R=>bg _ _ R n11 (FE _ _ z11)
      have b12 : ∀ R,(EB F im Tm++R)[E.length]? = some (.cells (zAy [ii (k:Int)]) 3):=fun R=>bg _ _ R (by omega) Fk
      have b13 : ∀ R,(EB F im Tm++R)[E.length+1]? = some (.cells (zAy [ii (spot sp k).1,ii (spot sp k).2]) 51):=fun R=>bg _ _ R (by omega) Fr
      have bx : ∀ ob R,(EB F im Tm++ob :: R)[F1.length+(J.length+4)]? = some ob:=fun ob R=>by rw [← bl,zPx];rfl
      have hat : ∀ R w,w≤h.clock+((EB F im Tm).length+R.length)→(om Tryd.prog KK).call (.fn 43 [prv a turn (nx h ikd) (sp.length - 1),stv x]) (X h (EB F im Tm++R) w) = .ok (ii (dueS cntI sp x)) (X h (EB F im Tm++R) w):=fun R w hw=>by
        rw [← hTd x pok]
        exact at_ sp hsp a turn (nx h ikd) Td hTdl x pok _ (wf.X (by rw [List.length_append];exact hw)) (hs.up wf _ _) (TabIn.of wf (bg _ _ R nkd (FE _ _ zkd)))
      have hoff : ∀ R w,w≤h.clock+((EB F im Tm).length+R.length)→(om Tryd.prog KK).call (.fn 57 [stv x,ii (k:Int)]) (X h (EB F im Tm++R) w) = .ok (ii (offS x k)) (X h (EB F im Tm++R) w):=fun R w hw=>offset x k _ (wf.X (by rw [List.length_append];exact hw))
      have hsum : ∀ (ob:AO) w,w≤h.clock+((EB F im Tm).length+2)→(om Tryd.prog KK).call (.fn 36 [.sl (nx h ((EB F im Tm).length+1)) 0 2 (some 2) 1]) (X h (EB F im Tm++[ob,.cells (zAy [ii n,ii (dueS cntI sp x)]) 2]) w) = .ok (ii (n+dueS cntI sp x)) (X h (EB F im Tm++[ob,.cells (zAy [ii n,ii (dueS cntI sp x)]) 2]) w):=fun ob w hw=>sum2 wf (by rw [zLv];rfl) (by rw [List.length_append];simp only [List.length_cons,List.length_nil];omega) (by omega) (by omega)
      have hat1:=fun ob w hw=>hat [ob] w hw
      have hoff1:=fun ob1 ob2 w hw=>hoff [ob1,ob2] w hw
      unfold stv prv at hat1
      unfold stv at hoff1
      have hXe : ∀ T' R w',X h (EB ((E2++J)++R) im T') w'=X (X h (EB E2 im T') h.clock) (J++R) w':=fun T' R w'=>by
        rw [X_X,xLy (by omega),List.append_assoc]
      have hFb : ∀ ob:AO,ob=o→F.set (F1.length+2+1) ob=E2++J:=fun ob he=>by
        rw [he,hF,List.set_set,set_same (show (E2++J)[F1.length+2+1]? = some o by rw [List.getElem?_append_left (by omega)];exact Eo)]
      by_cases hc:n+dueS cntI sp x≤ch
      · have hm1:mark1 sp ch k Tm (x,n)=Tm.set (offS x k - (spot sp k).1).toNat true:=by unfold mark1;rw [if_pos hc]
        rw [hm1]
        have hje:offS x k - (spot sp k).1=(((offS x k - (spot sp k).1).toNat:Nat):Int):=by omega
        have hj5:(offS x k - (spot sp k).1).toNat<5:=by omega
        have hixm:=ix_93 (q:=nx h im) (c:=some 5) hj5
        have hst : ∀ (R:List AO) w,store1 (nx h im) (offS x k - (spot sp k).1).toNat (.bool true) (X h (EB F im Tm++R) w)=some (X h (EB F im (Tm.set (offS x k - (spot sp k).1).toNat true)++R) (min (h.clock+im) w)):=fun R w=>by
          rw [zHy wf,List.getElem?_append_left (by omega),EB_self (by omega),yEz,if_pos (by rw [List.length_map,hMl];exact hj5)]
          show some (X h ((EB F im Tm++R).set im _) _)=_
          rw [List.set_append_left _ _ (by omega)]
          rw [show (Tm.map bb').set (offS x k - (spot sp k).1).toNat (.bool true)=(Tm.set (offS x k - (spot sp k).1).toNat true).map bb' from by rw [List.map_set],EB_put]
        generalize hjv:(offS x k - (spot sp k).1).toNat=jv at *
        generalize offS x k=ox at *
        generalize dueS cntI sp x=dx at *
        (repeat' (first
  | (with_reducible first|refine zJz ?_|refine zGw ?_|refine zEw ?_|refine zEx ?_|refine zEv ?_|refine zJy ?_|refine zGv ?_|refine zBw ?_|refine zDx ?_|refine zBv ?_|refine zCx ?_|refine zEz ?_|refine zCw ?_|refine zCz ?_|refine zBz ?_|refine zDv ?_|refine zDy ?_|refine zAx ?_|refine zAv ?_)
  | refine zCv ?_|refine zEy rfl ?_|refine zIx ?_|refine zIv ?_
  | ((first|refine zGx rfl rfl rfl rfl rfl fun K_ hK_=>?_|refine zGy rfl rfl rfl rfl rfl fun K_ hK_=>?_);simp only [zAz,zDz,zFw,↓reduceIte,reduceCtorEq,Nat.reduceEqDiff,Bool.not_true,Bool.not_false];refine hK_ _ ?_;clear hK_ K_)
  | refine zDw (by decide) ?_
  | ((try first|refine zJx rfl rfl rfl ?_|refine zIy rfl rfl ?_|refine zJw rfl rfl rfl ?_|refine zIw rfl rfl ?_);(refine zIz fun Q_ hQ_=>?_;simp (disch:=first|omega|(simp only [List.length_cons,List.length_nil,List.length_append];omega)) only [bb,bp,zKx,↓reduceIte,reduceCtorEq,Nat.reduceEqDiff,Nat.reduceLT,Nat.reduceLeDiff,Nat.reduceAdd,Nat.reduceMul,Nat.reduceSub,Nat.reduceBEq,Int.reduceToNat,cond_true,cond_false,eq_self,beq_self_eq_true,g2,g3,g7,g9,g10,g11,g43,g44,g45,tEvT22,zHw,zNv,zAw wf];first|(refine zCy (Q:=Q_) (fun hp_=>?_) (fun hp_=>?_) <;> first|(exfalso;omega)|(refine hQ_ _ _ ?_;clear hQ_ Q_))|(refine zBy (Q:=Q_) (fun hp_=>?_) (fun hp_=>?_) <;> first|(exfalso;omega)|(refine hQ_ _ _ ?_;clear hQ_ Q_))|(refine hQ_ _ _ ?_;clear hQ_ Q_)))
  | (refine zFv fun K_ hK_=>?_;simp (disch:=omega) only [zFx,zAz,zGz,↓reduceIte,reduceCtorEq,Nat.reduceEqDiff,Nat.reduceLT];refine hK_ _ ?_;clear hK_ K_)))
        refine zNw [.no,.no,.no,.no,.no,.no,.no,.full] (by kernel_rfl) ?_
        (repeat' (first
  | (with_reducible first|refine zJz ?_|refine zGw ?_|refine zEw ?_|refine zEx ?_|refine zEv ?_|refine zJy ?_|refine zGv ?_|refine zBw ?_|refine zDx ?_|refine zBv ?_|refine zCx ?_|refine zEz ?_|refine zCw ?_|refine zCz ?_|refine zBz ?_|refine zDv ?_|refine zDy ?_|refine zAx ?_|refine zAv ?_)
  | refine zCv ?_|refine zEy rfl ?_|refine zIx ?_|refine zIv ?_
  | ((first|refine zGx rfl rfl rfl rfl rfl fun K_ hK_=>?_|refine zGy rfl rfl rfl rfl rfl fun K_ hK_=>?_);simp only [zAz,zDz,zFw,↓reduceIte,reduceCtorEq,Nat.reduceEqDiff,Bool.not_true,Bool.not_false];refine hK_ _ ?_;clear hK_ K_)
  | refine zDw (by decide) ?_
  | ((try first|refine zJx rfl rfl rfl ?_|refine zIy rfl rfl ?_|refine zJw rfl rfl rfl ?_|refine zIw rfl rfl ?_);(refine zIz fun Q_ hQ_=>?_;simp (disch:=first|omega|(simp only [List.length_cons,List.length_nil,List.length_append];omega)) only [bb,bp,zKx,↓reduceIte,reduceCtorEq,Nat.reduceEqDiff,Nat.reduceLT,Nat.reduceLeDiff,Nat.reduceAdd,Nat.reduceMul,Nat.reduceSub,Nat.reduceBEq,Int.reduceToNat,cond_true,cond_false,eq_self,beq_self_eq_true,g2,g3,g7,g9,g10,g11,g43,g44,g45,b1,b10,bx,hat1,hsum,zHz wf,zHx wf,zFz wf,tEvT22,zHw,zNv,zAw wf];first|(refine zCy (Q:=Q_) (fun hp_=>?_) (fun hp_=>?_) <;> first|(exfalso;omega)|(refine hQ_ _ _ ?_;clear hQ_ Q_))|(refine zBy (Q:=Q_) (fun hp_=>?_) (fun hp_=>?_) <;> first|(exfalso;omega)|(refine hQ_ _ _ ?_;clear hQ_ Q_))|(refine hQ_ _ _ ?_;clear hQ_ Q_)))
  | (refine zFv fun K_ hK_=>?_;simp (disch:=omega) only [zFx,zAz,zGz,↓reduceIte,reduceCtorEq,Nat.reduceEqDiff,Nat.reduceLT];refine hK_ _ ?_;clear hK_ K_)))
        refine zNw [.no,.no,.no,.no,.no,.no,.no,.full,.full] (by kernel_rfl) ?_
        (repeat' (first
  | (with_reducible first|refine zJz ?_|refine zGw ?_|refine zEw ?_|refine zEx ?_|refine zEv ?_|refine zJy ?_|refine zGv ?_|refine zBw ?_|refine zDx ?_|refine zBv ?_|refine zCx ?_|refine zEz ?_|refine zCw ?_|refine zCz ?_|refine zBz ?_|refine zDv ?_|refine zDy ?_|refine zAx ?_|refine zAv ?_)
  | refine zCv ?_|refine zEy rfl ?_|refine zIx ?_|refine zIv ?_
  | ((first|refine zGx rfl rfl rfl rfl rfl fun K_ hK_=>?_|refine zGy rfl rfl rfl rfl rfl fun K_ hK_=>?_);simp only [zAz,zDz,zFw,↓reduceIte,reduceCtorEq,Nat.reduceEqDiff,Bool.not_true,Bool.not_false];refine hK_ _ ?_;clear hK_ K_)
  | refine zDw (by decide) ?_
  | ((try first|refine zJx rfl rfl rfl ?_|refine zIy rfl rfl ?_|refine zJw rfl rfl rfl ?_|refine zIw rfl rfl ?_);(refine zIz fun Q_ hQ_=>?_;simp (disch:=first|omega|(simp only [List.length_cons,List.length_nil,List.length_append];omega)) only [bb,bp,zKx,↓reduceIte,reduceCtorEq,Nat.reduceEqDiff,Nat.reduceLT,Nat.reduceLeDiff,Nat.reduceAdd,Nat.reduceMul,Nat.reduceSub,Nat.reduceBEq,Int.reduceToNat,cond_true,cond_false,eq_self,beq_self_eq_true,g2,g3,g7,g9,g10,g11,g43,g44,g45,b11,b12,b13,bx,hoff1,hje,hixm,hst,zHz wf,zHx wf,zFz wf,tEvT22,zHw,zNv,zAw wf];first|(refine zCy (Q:=Q_) (fun hp_=>?_) (fun hp_=>?_) <;> first|(exfalso;omega)|(refine hQ_ _ _ ?_;clear hQ_ Q_))|(refine zBy (Q:=Q_) (fun hp_=>?_) (fun hp_=>?_) <;> first|(exfalso;omega)|(refine hQ_ _ _ ?_;clear hQ_ Q_))|(refine hQ_ _ _ ?_;clear hQ_ Q_)))
  | (refine zFv fun K_ hK_=>?_;simp (disch:=omega) only [zFx,zAz,zGz,↓reduceIte,reduceCtorEq,Nat.reduceEqDiff,Nat.reduceLT];refine hK_ _ ?_;clear hK_ K_)))
        refine yHv wf (k:=F1.length+2+1) (o:=o') (by rw [List.getElem?_append_left (by rw [zZx];omega),yPz (by omega)];exact Fo) ho' ?_
        rw [List.set_append_left _ _ (by rw [zZx];omega),EB_set (by omega),hFb _ ho.symm,xLy (by rw [List.length_append];omega),hXe]
        exact ⟨_,_,_,rfl,Same.X (by simp only [zZx]),by omega,by omega,.inl ⟨rfl,by omega,h.clock,rfl,by omega⟩⟩
      · have hm1:mark1 sp ch k Tm (x,n)=Tm:=by unfold mark1;rw [if_neg hc]
        rw [hm1]
        generalize dueS cntI sp x=dx at *
        (repeat' (first
  | (with_reducible first|refine zJz ?_|refine zGw ?_|refine zEw ?_|refine zEx ?_|refine zEv ?_|refine zJy ?_|refine zGv ?_|refine zBw ?_|refine zDx ?_|refine zBv ?_|refine zCx ?_|refine zEz ?_|refine zCw ?_|refine zCz ?_|refine zBz ?_|refine zDv ?_|refine zDy ?_|refine zAx ?_|refine zAv ?_)
  | refine zCv ?_|refine zEy rfl ?_|refine zIx ?_|refine zIv ?_
  | ((first|refine zGx rfl rfl rfl rfl rfl fun K_ hK_=>?_|refine zGy rfl rfl rfl rfl rfl fun K_ hK_=>?_);simp only [zAz,zDz,zFw,↓reduceIte,reduceCtorEq,Nat.reduceEqDiff,Bool.not_true,Bool.not_false];refine hK_ _ ?_;clear hK_ K_)
  | refine zDw (by decide) ?_
  | ((try first|refine zJx rfl rfl rfl ?_|refine zIy rfl rfl ?_|refine zJw rfl rfl rfl ?_|refine zIw rfl rfl ?_);(refine zIz fun Q_ hQ_=>?_;simp (disch:=first|omega|(simp only [List.length_cons,List.length_nil,List.length_append];omega)) only [bb,bp,zKx,↓reduceIte,reduceCtorEq,Nat.reduceEqDiff,Nat.reduceLT,Nat.reduceLeDiff,Nat.reduceAdd,Nat.reduceMul,Nat.reduceSub,Nat.reduceBEq,Int.reduceToNat,cond_true,cond_false,eq_self,beq_self_eq_true,g2,g3,g7,g9,g10,g11,g43,g44,g45,tEvT22,zHw,zNv,zAw wf];first|(refine zCy (Q:=Q_) (fun hp_=>?_) (fun hp_=>?_) <;> first|(exfalso;omega)|(refine hQ_ _ _ ?_;clear hQ_ Q_))|(refine zBy (Q:=Q_) (fun hp_=>?_) (fun hp_=>?_) <;> first|(exfalso;omega)|(refine hQ_ _ _ ?_;clear hQ_ Q_))|(refine hQ_ _ _ ?_;clear hQ_ Q_)))
  | (refine zFv fun K_ hK_=>?_;simp (disch:=omega) only [zFx,zAz,zGz,↓reduceIte,reduceCtorEq,Nat.reduceEqDiff,Nat.reduceLT];refine hK_ _ ?_;clear hK_ K_)))
        refine zNw [.no,.no,.no,.no,.no,.no,.no,.full] (by kernel_rfl) ?_
        (repeat' (first
  | (with_reducible first|refine zJz ?_|refine zGw ?_|refine zEw ?_|refine zEx ?_|refine zEv ?_|refine zJy ?_|refine zGv ?_|refine zBw ?_|refine zDx ?_|refine zBv ?_|refine zCx ?_|refine zEz ?_|refine zCw ?_|refine zCz ?_|refine zBz ?_|refine zDv ?_|refine zDy ?_|refine zAx ?_|refine zAv ?_)
  | refine zCv ?_|refine zEy rfl ?_|refine zIx ?_|refine zIv ?_
  | ((first|refine zGx rfl rfl rfl rfl rfl fun K_ hK_=>?_|refine zGy rfl rfl rfl rfl rfl fun K_ hK_=>?_);simp only [zAz,zDz,zFw,↓reduceIte,reduceCtorEq,Nat.reduceEqDiff,Bool.not_true,Bool.not_false];refine hK_ _ ?_;clear hK_ K_)
  | refine zDw (by decide) ?_
  | ((try first|refine zJx rfl rfl rfl ?_|refine zIy rfl rfl ?_|refine zJw rfl rfl rfl ?_|refine zIw rfl rfl ?_);(refine zIz fun Q_ hQ_=>?_;simp (disch:=first|omega|(simp only [List.length_cons,List.length_nil,List.length_append];omega)) only [bb,bp,zKx,↓reduceIte,reduceCtorEq,Nat.reduceEqDiff,Nat.reduceLT,Nat.reduceLeDiff,Nat.reduceAdd,Nat.reduceMul,Nat.reduceSub,Nat.reduceBEq,Int.reduceToNat,cond_true,cond_false,eq_self,beq_self_eq_true,g2,g3,g7,g9,g10,g11,g43,g44,g45,b1,b10,bx,hat1,hsum,zHz wf,zHx wf,zFz wf,tEvT22,zHw,zNv,zAw wf];first|(refine zCy (Q:=Q_) (fun hp_=>?_) (fun hp_=>?_) <;> first|(exfalso;omega)|(refine hQ_ _ _ ?_;clear hQ_ Q_))|(refine zBy (Q:=Q_) (fun hp_=>?_) (fun hp_=>?_) <;> first|(exfalso;omega)|(refine hQ_ _ _ ?_;clear hQ_ Q_))|(refine hQ_ _ _ ?_;clear hQ_ Q_)))
  | (refine zFv fun K_ hK_=>?_;simp (disch:=omega) only [zFx,zAz,zGz,↓reduceIte,reduceCtorEq,Nat.reduceEqDiff,Nat.reduceLT];refine hK_ _ ?_;clear hK_ K_)))
        refine yHv wf (k:=F1.length+2+1) (o:=o') (by rw [List.getElem?_append_left (by rw [zZx];omega),yPz (by omega)];exact Fo) ho' ?_
        rw [List.set_append_left _ _ (by rw [zZx];omega),EB_set (by omega),hFb _ ho.symm,xLy (by rw [List.length_append];omega),hXe]
        exact ⟨_,_,_,rfl,Same.X (by simp only [zZx]),by omega,by omega,.inl ⟨rfl,by omega,h.clock,rfl,by omega⟩⟩
    · intro J w'
      rw [X_X,xLy (by omega),zFz wf,yPz (by omega),List.getElem?_append_left (by have:=zHv (EF _ _ (FE _ _ zkp));omega),EF _ _ (FE _ _ zkp),zPv (by decide),if_pos (by
        rw [List.length_map,P.wt.len]
        have:=Nat.mul_le_mul_right 75 (show max k 1 - 1+1≤sp.length - 1 by omega)
        omega)]
      unfold rowT
      rw [List.map_take,List.map_drop]
    · rintro v h' ⟨hz,J3,w3,rfl,hsz,hlo3,hw3,⟨⟨w2,rfl,hw2'⟩,hc3⟩|⟨hF,_⟩⟩
      rotate_left 1
      · exact hF.elim
      have hyl:(ylds (reachL sp (max k 1) (paidT cntI sp))).length=(reachL sp (max k 1) (paidT cntI sp)).length:=by unfold ylds;rw [List.length_map]
      rw [hyl,List.take_length]
      rw [hyl] at hc3
      have hc0:=hc3 0 hne
      have hmk:(reachL sp (max k 1) (paidT cntI sp)).foldl (mark1 sp ch k) (List.replicate 5 false)=marksAt sp ch k:=rfl
      rw [hmk]
      simp only [X_w] at hw3
      rw [X_X,xLy (by omega)]
      refine zYv wf (k:=F1.length+2+1) (o:=o) (by rw [yPz (by omega),List.getElem?_append_left (by omega)];exact Eo) ho (by decide) fun o6 ho6=>?_
      rw [EB_set (by omega)]
      obtain ⟨L2,hL2⟩ : ∃ L2,L2=(E2++J3).set (F1.length+2+1) o6:=⟨_,rfl⟩
      rw [← hL2]
      have l2:L2.length=F1.length+4+J3.length:=by rw [hL2,List.length_set,List.length_append,El]
      have keep : ∀ (j:Nat) ob,j≠F1.length+2+1→E2[j]? = some ob→L2[j]? = some ob:=fun j ob hj hg=>by rw [hL2,List.getElem?_set_ne (by omega),List.getElem?_append_left (zHv hg)];exact hg
      have keepF : ∀ (j:Nat) ob,F1[j]? = some ob→L2[j]? = some ob:=fun j ob hg=>keep j ob (by have:=zHv hg;omega) (EF j ob hg)
      have keepE : ∀ (j:Nat) ob,E[j]? = some ob→L2[j]? = some ob:=fun j ob hg=>keepF j ob (FE j ob hg)
      clear hL2
      have hMl:(marksAt sp ch k).length=5:=by unfold marksAt;rw [xUw];simp
      have hMi:=fun j hj=>marksAt_iff hsp (ch:=ch) (i:=k) hlt (j:=j) hj
      generalize marksAt sp ch k=MS at *
      have lim2:im<L2.length:=by omega
      have hwC : ∀ l:List AO,h.clock≤min (h.clock+(F1.length+2+1)) w3:=fun _=>by omega
      generalize hwCe:min (h.clock+(F1.length+2+1)) w3=wC
      have hwC1:h.clock≤wC∧wC≤h.clock+(F1.length+3):=by omega
      have hsl : ∀ w,Sl (X h (EB L2 im MS) w) (.sl (nx h im) 0 5 (some 5) 1) 1 MS.length (MS.map bb'):=fun w=>by
        rw [hMl];exact Sl.new wf (by rw [List.length_map,hMl]) (EB_self lim2 MS)
      have hcon:=contains MS (by omega) (.sl (nx h im) 0 5 (some 5) 1) (X h (EB L2 im MS) wC) (wf.X (by rw [zZx];omega)) (hsl wC)
      rw [hMl] at hcon
      have y11:(EB L2 im MS)[i11]? = some (.cells (zAy [.sl (nx h im) 0 5 (some 5) 1]) 93):=by rw [yPz (by omega)];exact keepE _ _ z11
      have y12:(EB L2 im MS)[E.length]? = some (.cells (zAy [ii (k:Int)]) 3):=by rw [yPz (by omega)];exact keepF _ _ Fk
      have y13:(EB L2 im MS)[E.length+1]? = some (.cells (zAy [ii (spot sp k).1,ii (spot sp k).2]) 51):=by rw [yPz (by omega)];exact keepF _ _ Fr
      have hfewj : ∀ y,Few sp ch k y → ∃ j:Nat,j<5∧MS[j]? = some true∧y=(spot sp k).1+(j:Int):=fun y hy=>by
        obtain ⟨v1,v2⟩:=few_in hy
        have hj:(y - (spot sp k).1).toNat<5:=by omega
        have hye:y=(spot sp k).1+((y - (spot sp k).1).toNat:Int):=by omega
        exact ⟨_,hj,(hMi _ hj).2 (by rw [← hye];exact hy),hye⟩
      have hebl:(EB L2 im MS).length=L2.length:=zZx _ _ _
      have hdfr : ∀ j ∈ (F1.length+2) :: ks,L2[j]? = some .dfr:=fun j hj=>by
        rcases List.mem_cons.1 hj with rfl|hj
        · exact keep _ _ (by omega) Ed
        · exact keepE _ _ (hkd j hj)
      have hnod:((F1.length+2) :: ks).Nodup:=by
        rw [List.nodup_cons]
        exact ⟨fun hm=>by have:=zHv (hkd _ hm);omega,hks⟩
      by_cases hfst:fst' MS<5
      · rw [decide_eq_true hfst] at hcon
        obtain ⟨p,q,hp,hq,hpq,hmk⟩:=marked MS (by omega) (by rw [hMl];exact hfst) (spot sp k).1 ⟨o1,o2⟩ (.sl (nx h im) 0 5 (some 5) 1) (X h (EB L2 im MS) (h.clock+(EB L2 im MS).length)) (wf.X (Nat.le_refl _)) (hsl _)
        have hp5:=zHv hp
        have hq5:=zHv hq
        rw [hMl] at hp5 hq5
        have ix3:indexAddrE Tryd.prog 22 (.sl (nx h 3) 0 sp.length none 2) (.int .i64 (k:Int))=some (.ptr (nx h 3) (k * 2)):=by
          rw [zQv,zTy];dsimp only;rw [yLz];dsimp only;rw [zYw hlt,Nat.zero_add]
        have hst : ∀ w,writeCells (nx h 3) (k * 2) [ii ((spot sp k).1+(p:Int)),ii ((spot sp k).1+(q:Int))] (X h (EB L2 im MS) w)=some (X h ((EB L2 im MS).set 3 (.cells (zAy (zMx (R.set k ((spot sp k).1+(p:Int),(spot sp k).1+(q:Int))))) 51)) (min (h.clock+3) w)):=fun w=>by
          rw [zBx wf,yPz (by omega),keepE _ _ z3,zUx,if_pos (by rw [zUw,List.length_cons,List.length_cons,List.length_nil];omega),yMv _ _ _ _ (by omega)]
          rfl
        (repeat' (first
  | (with_reducible first|refine zJz ?_|refine zGw ?_|refine zEw ?_|refine zEx ?_|refine zEv ?_|refine zJy ?_|refine zGv ?_|refine zBw ?_|refine zDx ?_|refine zBv ?_|refine zCx ?_|refine zEz ?_|refine zCw ?_|refine zCz ?_|refine zBz ?_|refine zDv ?_|refine zDy ?_|refine zAx ?_|refine zAv ?_)
  | refine zCv ?_|refine zEy rfl ?_|refine zIx ?_|refine zIv ?_
  | ((first|refine zGx rfl rfl rfl rfl rfl fun K_ hK_=>?_|refine zGy rfl rfl rfl rfl rfl fun K_ hK_=>?_);simp only [zAz,zDz,zFw,↓reduceIte,reduceCtorEq,Nat.reduceEqDiff,Bool.not_true,Bool.not_false];refine hK_ _ ?_;clear hK_ K_)
  | refine zDw (by decide) ?_
  | ((try first|refine zJx rfl rfl rfl ?_|refine zIy rfl rfl ?_|refine zJw rfl rfl rfl ?_|refine zIw rfl rfl ?_);(refine zIz fun Q_ hQ_=>?_;simp (disch:=first|omega|(simp only [List.length_cons,List.length_nil,List.length_append];omega)) only [bb,bp,zKx,↓reduceIte,reduceCtorEq,Nat.reduceEqDiff,Nat.reduceLT,Nat.reduceLeDiff,Nat.reduceAdd,Nat.reduceMul,Nat.reduceSub,Nat.reduceBEq,Int.reduceToNat,cond_true,cond_false,eq_self,beq_self_eq_true,g2,g3,g7,g9,g10,g11,g43,g44,g45,y11,hcon,zHz wf,zHx wf,zFz wf,tEvT22,zHw,zNv,zAw wf];first|(refine zCy (Q:=Q_) (fun hp_=>?_) (fun hp_=>?_) <;> first|(exfalso;omega)|(refine hQ_ _ _ ?_;clear hQ_ Q_))|(refine zBy (Q:=Q_) (fun hp_=>?_) (fun hp_=>?_) <;> first|(exfalso;omega)|(refine hQ_ _ _ ?_;clear hQ_ Q_))|(refine hQ_ _ _ ?_;clear hQ_ Q_)))
  | (refine zFv fun K_ hK_=>?_;simp (disch:=omega) only [zFx,zAz,zGz,↓reduceIte,reduceCtorEq,Nat.reduceEqDiff,Nat.reduceLT];refine hK_ _ ?_;clear hK_ K_)))
        refine zNw [.no,.no,.no,.no,.no,.no,.full,.full] (by kernel_rfl) ?_
        (repeat' (first
  | (with_reducible first|refine zJz ?_|refine zGw ?_|refine zEw ?_|refine zEx ?_|refine zEv ?_|refine zJy ?_|refine zGv ?_|refine zBw ?_|refine zDx ?_|refine zBv ?_|refine zCx ?_|refine zEz ?_|refine zCw ?_|refine zCz ?_|refine zBz ?_|refine zDv ?_|refine zDy ?_|refine zAx ?_|refine zAv ?_)
  | refine zCv ?_|refine zEy rfl ?_|refine zIx ?_|refine zIv ?_
  | ((first|refine zGx rfl rfl rfl rfl rfl fun K_ hK_=>?_|refine zGy rfl rfl rfl rfl rfl fun K_ hK_=>?_);simp only [zAz,zDz,zFw,↓reduceIte,reduceCtorEq,Nat.reduceEqDiff,Bool.not_true,Bool.not_false];refine hK_ _ ?_;clear hK_ K_)
  | refine zDw (by decide) ?_
  | ((try first|refine zJx rfl rfl rfl ?_|refine zIy rfl rfl ?_|refine zJw rfl rfl rfl ?_|refine zIw rfl rfl ?_);(refine zIz fun Q_ hQ_=>?_;simp (disch:=first|omega|(simp only [List.length_cons,List.length_nil,List.length_append];omega)) only [bb,bp,zKx,↓reduceIte,reduceCtorEq,Nat.reduceEqDiff,Nat.reduceLT,Nat.reduceLeDiff,Nat.reduceAdd,Nat.reduceMul,Nat.reduceSub,Nat.reduceBEq,Int.reduceToNat,cond_true,cond_false,eq_self,beq_self_eq_true,g2,g3,g7,g9,g10,g11,g43,g44,g45,y11,y12,y13,hmk,ix3,hst,zHz wf,zHx wf,zFz wf,tEvT22,zHw,zNv,zAw wf];first|(refine zCy (Q:=Q_) (fun hp_=>?_) (fun hp_=>?_) <;> first|(exfalso;omega)|(refine hQ_ _ _ ?_;clear hQ_ Q_))|(refine zBy (Q:=Q_) (fun hp_=>?_) (fun hp_=>?_) <;> first|(exfalso;omega)|(refine hQ_ _ _ ?_;clear hQ_ Q_))|(refine hQ_ _ _ ?_;clear hQ_ Q_)))
  | (refine zFv fun K_ hK_=>?_;simp (disch:=omega) only [zFx,zAz,zGz,↓reduceIte,reduceCtorEq,Nat.reduceEqDiff,Nat.reduceLT];refine hK_ _ ?_;clear hK_ K_)))
        have hL3 : ∀ (j:Nat) ob,j≠3→j≠im→E[j]? = some ob→((EB L2 im MS).set 3 (.cells (zAy (zMx (R.set k ((spot sp k).1+(p:Int),(spot sp k).1+(q:Int))))) 51))[j]? = some ob:=fun j ob h1 h2 hg=>by
          rw [List.getElem?_set_ne (by omega),yPz (by omega)];exact keepE _ _ hg
        have hl3:((EB L2 im MS).set 3 (.cells (zAy (zMx (R.set k ((spot sp k).1+(p:Int),(spot sp k).1+(q:Int))))) 51)).length=L2.length:=by rw [List.length_set,zZx]
        have t3 : ∀ (j:Nat) (m:M AV) (e:TypeId),E[j]? = some (.cells m e)→e≠51→j≠3:=fun j m e hg he hj=>by
          subst hj;rw [z3] at hg;injection hg with hg;injection hg with _ hg;exact he hg.symm
        refine zKy (k+1) (by omega) ⟨hlt,⟨by simp only [zAz,↓reduceIte,reduceCtorEq,Nat.reduceEqDiff];exact g2,by simp only [zAz,↓reduceIte,reduceCtorEq,Nat.reduceEqDiff];exact g3,by simp only [zAz,↓reduceIte,reduceCtorEq,Nat.reduceEqDiff];exact g7,by simp only [zAz,↓reduceIte,reduceCtorEq,Nat.reduceEqDiff];exact g9,by simp only [zAz,↓reduceIte,reduceCtorEq,Nat.reduceEqDiff];exact g10,by simp only [zAz,↓reduceIte,reduceCtorEq,Nat.reduceEqDiff];exact g11,by simp only [zAz,↓reduceIte,reduceCtorEq,Nat.reduceEqDiff];exact g43,by simp only [zAz,↓reduceIte,reduceCtorEq,Nat.reduceEqDiff];exact g44⟩,by simp only [zAz,↓reduceIte,reduceCtorEq,Nat.reduceEqDiff];rfl,_,_,(F1.length+2) :: ks,R.set k ((spot sp k).1+(p:Int),(spot sp k).1+(q:Int)),MS,rfl,rfl,⟨hL3 _ _ (by decide) (by omega) z0,hL3 _ _ (by decide) (by omega) z1,?_,hL3 _ _ (t3 _ _ _ zkp (by decide)) nkp zkp,hL3 _ _ (t3 _ _ _ zkd (by decide)) nkd zkd,hL3 _ _ (t3 _ _ _ z9 (by decide)) n9 z9,hL3 _ _ (t3 _ _ _ z10 (by decide)) n10 z10,?_,hL3 _ _ (t3 _ _ _ z11 (by decide)) n11 z11⟩,⟨by rw [List.length_set];exact hRl,fun j hj=>?_⟩,hMl,hnod,fun j hj=>?_,by rw [zZx];omega,by rw [hl3];rw [zZx];omega⟩
        · rw [List.getElem?_set_self (by rw [zZx];omega)]
        · rw [List.getElem?_set_ne (by omega)];exact EB_self lim2 MS
        · by_cases e:j=k
          · subst e
            have hsr:spot (R.set j ((spot sp j).1+(p:Int),(spot sp j).1+(q:Int))) j=((spot sp j).1+(p:Int),(spot sp j).1+(q:Int)):=by
              unfold spot;simp [List.getD,show j<R.length by omega]
            rw [hsr]
            refine ⟨(hMi p hp5).1 hp,(hMi q hq5).1 hq,fun y hy=>?_⟩
            obtain ⟨j',h1,h2,h3⟩:=hfewj y hy
            have:=hpq j' h2
            dsimp only
            omega
          · have hsr:spot (R.set k ((spot sp k).1+(p:Int),(spot sp k).1+(q:Int))) j=spot R j:=by
              unfold spot;simp only [List.getD];rw [List.getElem?_set_ne (by omega)]
            rw [hsr];exact hR j (by omega)
        · have hd:=hdfr j hj
          rw [List.getElem?_set_ne (fun e=>by rw [← e,keepE _ _ z3] at hd;cases hd),yPz (fun e=>by rw [← e,keepE _ _ zm] at hd;cases hd)];exact hd
      · rw [decide_eq_false hfst] at hcon
        (repeat' (first
  | (with_reducible first|refine zJz ?_|refine zGw ?_|refine zEw ?_|refine zEx ?_|refine zEv ?_|refine zJy ?_|refine zGv ?_|refine zBw ?_|refine zDx ?_|refine zBv ?_|refine zCx ?_|refine zEz ?_|refine zCw ?_|refine zCz ?_|refine zBz ?_|refine zDv ?_|refine zDy ?_|refine zAx ?_|refine zAv ?_)
  | refine zCv ?_|refine zEy rfl ?_|refine zIx ?_|refine zIv ?_
  | ((first|refine zGx rfl rfl rfl rfl rfl fun K_ hK_=>?_|refine zGy rfl rfl rfl rfl rfl fun K_ hK_=>?_);simp only [zAz,zDz,zFw,↓reduceIte,reduceCtorEq,Nat.reduceEqDiff,Bool.not_true,Bool.not_false];refine hK_ _ ?_;clear hK_ K_)
  | refine zDw (by decide) ?_
  | ((try first|refine zJx rfl rfl rfl ?_|refine zIy rfl rfl ?_|refine zJw rfl rfl rfl ?_|refine zIw rfl rfl ?_);(refine zIz fun Q_ hQ_=>?_;simp (disch:=first|omega|(simp only [List.length_cons,List.length_nil,List.length_append];omega)) only [bb,bp,zKx,↓reduceIte,reduceCtorEq,Nat.reduceEqDiff,Nat.reduceLT,Nat.reduceLeDiff,Nat.reduceAdd,Nat.reduceMul,Nat.reduceSub,Nat.reduceBEq,Int.reduceToNat,cond_true,cond_false,eq_self,beq_self_eq_true,g2,g3,g7,g9,g10,g11,g43,g44,g45,y11,hcon,zHz wf,zHx wf,zFz wf,tEvT22,zHw,zNv,zAw wf];first|(refine zCy (Q:=Q_) (fun hp_=>?_) (fun hp_=>?_) <;> first|(exfalso;omega)|(refine hQ_ _ _ ?_;clear hQ_ Q_))|(refine zBy (Q:=Q_) (fun hp_=>?_) (fun hp_=>?_) <;> first|(exfalso;omega)|(refine hQ_ _ _ ?_;clear hQ_ Q_))|(refine hQ_ _ _ ?_;clear hQ_ Q_)))
  | (refine zFv fun K_ hK_=>?_;simp (disch:=omega) only [zFx,zAz,zGz,↓reduceIte,reduceCtorEq,Nat.reduceEqDiff,Nat.reduceLT];refine hK_ _ ?_;clear hK_ K_)))
        obtain ⟨L',w',htk,hl',hw1',hw2',hkeep⟩:=yAw wf (lo:=h.clock) (Nat.le_refl _) ((F1.length+2) :: ks) (EB L2 im MS) wC hnod (fun j hj=>by
          have hd:=hdfr j hj
          rw [yPz (fun e=>by rw [← e,keepE _ _ zm] at hd;cases hd)];exact hd) hwC1.1
        refine zJv _ _ htk (ret2 (by decide) (by decide)) ?_
        simp only [zAz,↓reduceIte,reduceCtorEq,Nat.reduceEqDiff]
        refine zMw rfl hw2' ?_
        refine .inr ⟨rfl,rfl,fun l hl=>?_⟩
        rcases Int.lt_or_le ch (Cost cntI l) with hc|hc
        · exact hc
        · exfalso
          have hkl:k<l.length:=by rw [hl.length];exact hlt
          obtain ⟨j,h1,h2,h3⟩:=hfewj l[k] ⟨l,hl,hc,List.getElem?_eq_getElem hkl⟩
          exact hfst (by have:=fst_lt h2;omega)
  · have hke:k=sp.length:=by omega
    subst hke
    (repeat' (first
  | (with_reducible first|refine zJz ?_|refine zGw ?_|refine zEw ?_|refine zEx ?_|refine zEv ?_|refine zJy ?_|refine zGv ?_|refine zBw ?_|refine zDx ?_|refine zBv ?_|refine zCx ?_|refine zEz ?_|refine zCw ?_|refine zCz ?_|refine zBz ?_|refine zDv ?_|refine zDy ?_|refine zAx ?_|refine zAv ?_)
  | refine zCv ?_|refine zEy rfl ?_|refine zIx ?_|refine zIv ?_
  | ((first|refine zGx rfl rfl rfl rfl rfl fun K_ hK_=>?_|refine zGy rfl rfl rfl rfl rfl fun K_ hK_=>?_);simp only [zAz,zDz,zFw,↓reduceIte,reduceCtorEq,Nat.reduceEqDiff,Bool.not_true,Bool.not_false];refine hK_ _ ?_;clear hK_ K_)
  | refine zDw (by decide) ?_
  | ((try first|refine zJx rfl rfl rfl ?_|refine zIy rfl rfl ?_|refine zJw rfl rfl rfl ?_|refine zIw rfl rfl ?_);(refine zIz fun Q_ hQ_=>?_;simp (disch:=first|omega|(simp only [List.length_cons,List.length_nil,List.length_append];omega)) only [bb,bp,zKx,↓reduceIte,reduceCtorEq,Nat.reduceEqDiff,Nat.reduceLT,Nat.reduceLeDiff,Nat.reduceAdd,Nat.reduceMul,Nat.reduceSub,Nat.reduceBEq,Int.reduceToNat,cond_true,cond_false,eq_self,beq_self_eq_true,g2,g3,g7,g9,g10,g11,g43,g44,g45,tEvT22,zHw,zNv,zAw wf];first|(refine zCy (Q:=Q_) (fun hp_=>?_) (fun hp_=>?_) <;> first|(exfalso;omega)|(refine hQ_ _ _ ?_;clear hQ_ Q_))|(refine zBy (Q:=Q_) (fun hp_=>?_) (fun hp_=>?_) <;> first|(exfalso;omega)|(refine hQ_ _ _ ?_;clear hQ_ Q_))|(refine hQ_ _ _ ?_;clear hQ_ Q_)))
  | (refine zFv fun K_ hK_=>?_;simp (disch:=omega) only [zFx,zAz,zGz,↓reduceIte,reduceCtorEq,Nat.reduceEqDiff,Nat.reduceLT];refine hK_ _ ?_;clear hK_ K_)))
    obtain ⟨L',w',htk,hl',hw1',hw2',hkeep⟩:=yAw wf (lo:=h.clock) (Nat.le_refl _) ks E w hks hkd hw1
    refine zJv _ _ htk (ret2 (by decide) (by decide)) ?_
    simp only [zAz,↓reduceIte,reduceCtorEq,Nat.reduceEqDiff]
    refine yCz (by
      show (_ && flat (.tup [.sl _ 0 _ none 2,_]))=false
      exact Bool.and_false _) ?_
    have hmin : ∀ w',h.clock≤w'→min h.w w'=h.w:=fun w' h'=>by have:=wf.wle;omega
    rw [hmin _ hw2']
    exact .inl ⟨L',3,R,rfl,rfl,hkeep 51 3 _ z3,hRl,hR⟩
end Go.Proofs.YtkmdidplmfdikaaDoor
end

section
namespace Go.Proofs.YtkmdidplmfdikaaDoor
open Go.Ev
set_option maxRecDepth 100000
set_option linter.unusedSimpArgs false
set_option linter.unusedVariables false
set_option maxHeartbeats 4000000

theorem tEvT23 :type_of% (And.intro (And.intro (And.intro (And.intro (@zSv) (@xNy)) (And.intro (@bs_64) (And.intro (@bs_67) (@ia_2)))) (And.intro (And.intro (@sz_2) (@ze_2)) (And.intro (@ia_3) (And.intro (@sz_3) (@ze_3))))) (And.intro (And.intro (And.intro (@zSy) (@zSx)) (And.intro (@zSz) (And.intro (@zSw) (@zXv)))) (And.intro (And.intro (@zLw) (@zLx)) (And.intro (@yKv) (And.intro (@pb_54) (@xNz)))))):=And.intro (And.intro (And.intro (And.intro (@zSv) (@xNy)) (And.intro (@bs_64) (And.intro (@bs_67) (@ia_2)))) (And.intro (And.intro (@sz_2) (@ze_2)) (And.intro (@ia_3) (And.intro (@sz_3) (@ze_3))))) (And.intro (And.intro (And.intro (@zSy) (@zSx)) (And.intro (@zSz) (And.intro (@zSw) (@zXv)))) (And.intro (And.intro (@zLw) (@zLx)) (And.intro (@yKv) (And.intro (@pb_54) (@xNz)))))
def SpreadQ (h:H) (sp:List (Int × Int)) (ch:Int):AV→H→Prop:=fun v h'=>(∃ (L:List AO) (k:Nat) (R:List (Int × Int)),v = .tup [.sl (nx h k) 0 sp.length none 2,ii 0]∧h'=X h L h.w∧L[k]? = some (.cells (zAy (zMx R)) 51)∧R.length=sp.length ∧ ∀ i,i<sp.length→FewR sp ch i (spot R i)) ∨
      (v = .tup [.nils,ii 17]∧h'=h ∧ ∀ l,InR sp l→ch<Cost cntI l)
theorem spreadAll (sp:List (Int × Int)) (turn:Int) (hsp:spotsR sp turn=0) (a:AV) (hca:Cape 2 a) (ch:Int) (hch:0≤ch) (h:H) (wf:Wf h) (ht:TabF h) (hs:Sl h a 2 sp.length (zLy sp)) :
    WV ((om Tryd.prog KK).call (.fn 25 [.agg [a,ii turn],ii ch]) h) (SpreadQ h sp ch):=by
  obtain ⟨n1,n24,hok,hturn⟩:=yYv hsp
  by_cases hn:2≤sp.length
  · exact spread2 sp ⟨hn,n24,hok⟩ a hca turn hturn ch hch h wf ht hs
  · obtain ⟨r,rfl⟩ : ∃ r,sp=[r]:=by
      match sp,n1,hn with
      | [r],_,_=>exact ⟨r,rfl⟩
      | _ :: _ :: _,_,hn=>exact absurd (by simp) hn
    have hlen : ∀ h',lenE Tryd.prog 22 a h'=some (ii 1):=fun h'=>hs.len yWv
    have ha1:oneB a=true∧AV.cells a=[a]:=by obtain ⟨_,⟨rfl,_⟩|⟨_,_,_,_,_,_,rfl,_⟩⟩:=hs <;> exact ⟨rfl,rfl⟩
    have hCS : ∀ l w,w≤h.clock+l.length→(om Tryd.prog KK).call (.fn 14 [.agg [a,ii turn]]) (X h l w) = .ok (ii 0) (X h l w):=fun l w hw=>by
      have:=CheckSpots [r] turn a (by simp) _ (wf.X hw) (hs.up wf _ _)
      rw [hsp] at this;exact this
    have hcl:=clone [r] (by simp) a hca (X h [.cells (zAy [a,ii turn]) 24,.cells (zAy [ii ch]) 3] h.clock) (wf.X (by omega)) (hs.up wf _ _)
    rw [X_X,nx_X,X_w] at hcl
    simp only [List.length_cons,List.length_nil,Nat.reduceAdd,List.cons_append,List.nil_append] at hcl
    refine zKv (fn:=Tryd.f25) Tryd.func25 rfl rfl rfl rfl rfl ?_
    simp only [zKx]
    (repeat' (first
  | (with_reducible first|refine zJz ?_|refine zGw ?_|refine zEw ?_|refine zEx ?_|refine zEv ?_|refine zJy ?_|refine zGv ?_|refine zBw ?_|refine zDx ?_|refine zBv ?_|refine zCx ?_|refine zEz ?_|refine zCw ?_|refine zCz ?_|refine zBz ?_|refine zDv ?_|refine zDy ?_|refine zAx ?_|refine zAv ?_)
  | refine zCv ?_|refine zEy rfl ?_|refine zIx ?_|refine zIv ?_
  | ((first|refine zGx rfl rfl rfl rfl rfl fun K_ hK_=>?_|refine zGy rfl rfl rfl rfl rfl fun K_ hK_=>?_);simp only [zAz,zDz,zFw,↓reduceIte,reduceCtorEq,Nat.reduceEqDiff,Bool.not_true,Bool.not_false];refine hK_ _ ?_;clear hK_ K_)
  | refine zDw (by decide) ?_
  | ((try first|refine zJx rfl rfl rfl ?_|refine zIy rfl rfl ?_|refine zJw rfl rfl rfl ?_|refine zIw rfl rfl ?_);(refine zIz fun Q_ hQ_=>?_;simp (disch:=first|omega|(simp only [List.length_cons,List.length_nil,List.length_append];omega)) only [bb,bp,zKx,↓reduceIte,reduceCtorEq,Nat.reduceEqDiff,Nat.reduceLT,Nat.reduceLeDiff,Nat.reduceAdd,Nat.reduceMul,Nat.reduceSub,Nat.reduceBEq,Int.reduceToNat,cond_true,cond_false,eq_self,beq_self_eq_true,hCS,hlen,hcl,ha1.1,ha1.2,zHz wf,zHx wf,zFz wf,zHy wf,zBx wf,zFy,tEvT23,zHw,zNv,zAw wf];first|(refine zCy (Q:=Q_) (fun hp_=>?_) (fun hp_=>?_) <;> first|(exfalso;omega)|(refine hQ_ _ _ ?_;clear hQ_ Q_))|(refine zBy (Q:=Q_) (fun hp_=>?_) (fun hp_=>?_) <;> first|(exfalso;omega)|(refine hQ_ _ _ ?_;clear hQ_ Q_))|(refine hQ_ _ _ ?_;clear hQ_ Q_)))
  | (refine zFv fun K_ hK_=>?_;simp (disch:=omega) only [zFx,zAz,zGz,↓reduceIte,reduceCtorEq,Nat.reduceEqDiff,Nat.reduceLT];refine hK_ _ ?_;clear hK_ K_)))
    refine zJv _ _ rfl (ret2 (by decide) (by decide)) ?_
    simp only [zAz,↓reduceIte,reduceCtorEq,Nat.reduceEqDiff]
    refine yCz (by
      show (_ && flat (.tup [.sl _ 0 _ none 2,_]))=false
      exact Bool.and_false _) ?_
    rw [Nat.min_eq_left wf.wle]
    refine .inl ⟨_,3,[r],rfl,rfl,rfl,rfl,fun i hi=>?_⟩
    have hi0:i=0:=by simp at hi;omega
    subst hi0
    have hr:=(hok r (by simp)).2.2.1
    refine ⟨⟨[r.1],⟨_,_,rfl,Int.le_refl _,hr,rfl⟩,hch,rfl⟩,⟨[r.2],⟨_,_,rfl,hr,Int.le_refl _,rfl⟩,hch,rfl⟩,fun y hy=>few_in hy⟩
end Go.Proofs.YtkmdidplmfdikaaDoor
end

section
namespace Go.Proofs.YtkmdidplmfdikaaDoor
open Go.Ev
set_option maxRecDepth 100000
set_option linter.unusedSimpArgs false
set_option linter.unusedVariables false
set_option maxHeartbeats 4000000

theorem tEvT24 :type_of% (And.intro (And.intro (And.intro (And.intro (@zSv) (@xNy)) (And.intro (@ia_2) (@sz_2))) (And.intro (And.intro (@ze_2) (@ia_3)) (And.intro (@sz_3) (@zSy)))) (And.intro (And.intro (And.intro (@zTx) (@zRx)) (And.intro (@zSx) (@zSz))) (And.intro (And.intro (@zSw) (@zXv)) (And.intro (@zMy) (And.intro (@zMz) (@xNz)))))):=And.intro (And.intro (And.intro (And.intro (@zSv) (@xNy)) (And.intro (@ia_2) (@sz_2))) (And.intro (And.intro (@ze_2) (@ia_3)) (And.intro (@sz_3) (@zSy)))) (And.intro (And.intro (And.intro (@zTx) (@zRx)) (And.intro (@zSx) (@zSz))) (And.intro (And.intro (@zSw) (@zXv)) (And.intro (@zMy) (And.intro (@zMz) (@xNz)))))
theorem under51_ : ∃ f0 f1:Field,Tryd.prog.underlying 51=some (.struct #[f0,f1])∧f0.offset=0∧f1.offset=1∧f0.type=2∧f1.type=2∧f0.name ≠ "_" ∧ f1.name ≠ "_" := ⟨_,_,Tryd.underlying51,rfl,rfl,rfl,rfl,by decide,by decide⟩
theorem stood51 :Tryd.prog.stoodInHeld 51=false:=by kernel_rfl
theorem guard51 :Tryd.prog.eqGuardType Tryd.prog.depth 51=false:=by kernel_rfl
theorem neq51 (x y:Operand) (a b:Int):binE Tryd.prog .neq 51 x y (.agg [ii a,ii b]) (.agg [ii a,ii b])=some (.bool false):=by
  obtain ⟨f0,f1,hu,o0,o1,t0,t1,m0,m1⟩:=under51_
  exact b_neq2_self hu (by rw [t0];exact Tryd.underlying2) (by rw [t1];exact Tryd.underlying2) o0 o1 m0 m1 stood51 guard51
theorem ranges (R:List (Int × Int)) (hn:R.length≤1000000) (v u:AV) (h:H) (wf:Wf h) (hv:Sl h v 2 R.length (zMx R)) (hu:Sl h u 2 R.length (zMx R)) :
    (om Tryd.prog KK).call (.fn 27 [v,u]) h = .ok (.bool true) h:=by
  have lv : ∀ h',lenE Tryd.prog 22 v h'=some (ii (R.length:Int)):=fun h'=>hv.len yWv
  have lu : ∀ h',lenE Tryd.prog 22 u h'=some (ii (R.length:Int)):=fun h'=>hu.len yWv
  refine zWv (zKv (fn:=Tryd.f27) Tryd.func27 rfl rfl rfl rfl rfl ?_)
  simp only [zKx]
  (repeat' (first
  | (with_reducible first|refine zJz ?_|refine zGw ?_|refine zEw ?_|refine zEx ?_|refine zEv ?_|refine zJy ?_|refine zGv ?_|refine zBw ?_|refine zDx ?_|refine zBv ?_|refine zCx ?_|refine zEz ?_|refine zCw ?_|refine zCz ?_|refine zBz ?_|refine zDv ?_|refine zDy ?_|refine zAx ?_|refine zAv ?_)
  | refine zCv ?_|refine zEy rfl ?_|refine zIx ?_|refine zIv ?_
  | ((first|refine zGx rfl rfl rfl rfl rfl fun K_ hK_=>?_|refine zGy rfl rfl rfl rfl rfl fun K_ hK_=>?_);simp only [zAz,zDz,zFw,↓reduceIte,reduceCtorEq,Nat.reduceEqDiff,Bool.not_true,Bool.not_false];refine hK_ _ ?_;clear hK_ K_)
  | refine zDw (by decide) ?_
  | ((try first|refine zJx rfl rfl rfl ?_|refine zIy rfl rfl ?_|refine zJw rfl rfl rfl ?_|refine zIw rfl rfl ?_);(refine zIz fun Q_ hQ_=>?_;simp (disch:=first|omega|(simp only [List.length_cons,List.length_nil,List.length_append];omega)) only [bb,bp,zKx,↓reduceIte,reduceCtorEq,Nat.reduceEqDiff,Nat.reduceLT,Nat.reduceLeDiff,Nat.reduceAdd,Nat.reduceMul,Nat.reduceSub,Nat.reduceBEq,Int.reduceToNat,cond_true,cond_false,eq_self,beq_self_eq_true,lv,lu,tEvT24,zHw,zNv,zAw wf];first|(refine zCy (Q:=Q_) (fun hp_=>?_) (fun hp_=>?_) <;> first|(exfalso;omega)|(refine hQ_ _ _ ?_;clear hQ_ Q_))|(refine zBy (Q:=Q_) (fun hp_=>?_) (fun hp_=>?_) <;> first|(exfalso;omega)|(refine hQ_ _ _ ?_;clear hQ_ Q_))|(refine hQ_ _ _ ?_;clear hQ_ Q_)))
  | (refine zFv fun K_ hK_=>?_;simp (disch:=omega) only [zFx,zAz,zGz,↓reduceIte,reduceCtorEq,Nat.reduceEqDiff,Nat.reduceLT];refine hK_ _ ?_;clear hK_ K_)))
  refine zTv (fun (k:Nat) f d h'=>k≤R.length∧f 0=v∧f 1=u∧f 5=ii (k:Int)∧d=[]∧h'=X h [] h.clock) (fun k=>R.length - k) ?_ (R.length+1) 0 (by omega) ?_
  rotate_left 1
  · exact ⟨by omega,by (try simp only [zAz,↓reduceIte,reduceCtorEq,Nat.reduceEqDiff]) <;> rfl,by (try simp only [zAz,↓reduceIte,reduceCtorEq,Nat.reduceEqDiff]) <;> rfl,by (try simp only [zAz,↓reduceIte,reduceCtorEq,Nat.reduceEqDiff]) <;> rfl,rfl,rfl⟩
  rintro k f d h' ⟨hk,g0,g1,g5,rfl,rfl⟩
  by_cases hlt:k<R.length
  · obtain ⟨id0,off0,hix0,hld0⟩:=hv.at wf hlt yLz
    obtain ⟨id1,off1,hix1,hld1⟩:=hu.at wf hlt yLz
    have r0 : ∀ l w,loadAgg id0 off0 (some 2) (X h l w)=some (.agg [ii R[k].1,ii R[k].2]):=fun l w=>by rw [(hld0 l w).2,yIy hlt]
    have r1 : ∀ l w,loadAgg id1 off1 (some 2) (X h l w)=some (.agg [ii R[k].1,ii R[k].2]):=fun l w=>by rw [(hld1 l w).2,yIy hlt]
    (repeat' (first
  | (with_reducible first|refine zJz ?_|refine zGw ?_|refine zEw ?_|refine zEx ?_|refine zEv ?_|refine zJy ?_|refine zGv ?_|refine zBw ?_|refine zDx ?_|refine zBv ?_|refine zCx ?_|refine zEz ?_|refine zCw ?_|refine zCz ?_|refine zBz ?_|refine zDv ?_|refine zDy ?_|refine zAx ?_|refine zAv ?_)
  | refine zCv ?_|refine zEy rfl ?_|refine zIx ?_|refine zIv ?_
  | ((first|refine zGx rfl rfl rfl rfl rfl fun K_ hK_=>?_|refine zGy rfl rfl rfl rfl rfl fun K_ hK_=>?_);simp only [zAz,zDz,zFw,↓reduceIte,reduceCtorEq,Nat.reduceEqDiff,Bool.not_true,Bool.not_false];refine hK_ _ ?_;clear hK_ K_)
  | refine zDw (by decide) ?_
  | ((try first|refine zJx rfl rfl rfl ?_|refine zIy rfl rfl ?_|refine zJw rfl rfl rfl ?_|refine zIw rfl rfl ?_);(refine zIz fun Q_ hQ_=>?_;simp (disch:=first|omega|(simp only [List.length_cons,List.length_nil,List.length_append];omega)) only [bb,bp,zKx,↓reduceIte,reduceCtorEq,Nat.reduceEqDiff,Nat.reduceLT,Nat.reduceLeDiff,Nat.reduceAdd,Nat.reduceMul,Nat.reduceSub,Nat.reduceBEq,Int.reduceToNat,cond_true,cond_false,eq_self,beq_self_eq_true,g0,g1,g5,lv,lu,tEvT24,zHw,zNv,zAw wf];first|(refine zCy (Q:=Q_) (fun hp_=>?_) (fun hp_=>?_) <;> first|(exfalso;omega)|(refine hQ_ _ _ ?_;clear hQ_ Q_))|(refine zBy (Q:=Q_) (fun hp_=>?_) (fun hp_=>?_) <;> first|(exfalso;omega)|(refine hQ_ _ _ ?_;clear hQ_ Q_))|(refine hQ_ _ _ ?_;clear hQ_ Q_)))
  | (refine zFv fun K_ hK_=>?_;simp (disch:=omega) only [zFx,zAz,zGz,↓reduceIte,reduceCtorEq,Nat.reduceEqDiff,Nat.reduceLT];refine hK_ _ ?_;clear hK_ K_)))
    refine zNw [.no,.no,.no,.no,.no,.no,.no,.no,.full] (by kernel_rfl) ?_
    (repeat' (first
  | (with_reducible first|refine zJz ?_|refine zGw ?_|refine zEw ?_|refine zEx ?_|refine zEv ?_|refine zJy ?_|refine zGv ?_|refine zBw ?_|refine zDx ?_|refine zBv ?_|refine zCx ?_|refine zEz ?_|refine zCw ?_|refine zCz ?_|refine zBz ?_|refine zDv ?_|refine zDy ?_|refine zAx ?_|refine zAv ?_)
  | refine zCv ?_|refine zEy rfl ?_|refine zIx ?_|refine zIv ?_
  | ((first|refine zGx rfl rfl rfl rfl rfl fun K_ hK_=>?_|refine zGy rfl rfl rfl rfl rfl fun K_ hK_=>?_);simp only [zAz,zDz,zFw,↓reduceIte,reduceCtorEq,Nat.reduceEqDiff,Bool.not_true,Bool.not_false];refine hK_ _ ?_;clear hK_ K_)
  | refine zDw (by decide) ?_
  | ((try first|refine zJx rfl rfl rfl ?_|refine zIy rfl rfl ?_|refine zJw rfl rfl rfl ?_|refine zIw rfl rfl ?_);(refine zIz fun Q_ hQ_=>?_;simp (disch:=first|omega|(simp only [List.length_cons,List.length_nil,List.length_append];omega)) only [bb,bp,zKx,↓reduceIte,reduceCtorEq,Nat.reduceEqDiff,Nat.reduceLT,Nat.reduceLeDiff,Nat.reduceAdd,Nat.reduceMul,Nat.reduceSub,Nat.reduceBEq,Int.reduceToNat,cond_true,cond_false,eq_self,beq_self_eq_true,g0,g1,g5,lv,lu,hix0,hix1,r0,r1,neq51,tEvT24,zHw,zNv,zAw wf];first|(refine zCy (Q:=Q_) (fun hp_=>?_) (fun hp_=>?_) <;> first|(exfalso;omega)|(refine hQ_ _ _ ?_;clear hQ_ Q_))|(refine zBy (Q:=Q_) (fun hp_=>?_) (fun hp_=>?_) <;> first|(exfalso;omega)|(refine hQ_ _ _ ?_;clear hQ_ Q_))|(refine hQ_ _ _ ?_;clear hQ_ Q_)))
  | (refine zFv fun K_ hK_=>?_;simp (disch:=omega) only [zFx,zAz,zGz,↓reduceIte,reduceCtorEq,Nat.reduceEqDiff,Nat.reduceLT];refine hK_ _ ?_;clear hK_ K_)))
    exact zKy (k+1) (by omega) ⟨hlt,by simp only [zAz,↓reduceIte,reduceCtorEq,Nat.reduceEqDiff];exact g0,by simp only [zAz,↓reduceIte,reduceCtorEq,Nat.reduceEqDiff];exact g1,by simp only [zAz,↓reduceIte,reduceCtorEq,Nat.reduceEqDiff];rfl,rfl,rfl⟩
  · (repeat' (first
  | (with_reducible first|refine zJz ?_|refine zGw ?_|refine zEw ?_|refine zEx ?_|refine zEv ?_|refine zJy ?_|refine zGv ?_|refine zBw ?_|refine zDx ?_|refine zBv ?_|refine zCx ?_|refine zEz ?_|refine zCw ?_|refine zCz ?_|refine zBz ?_|refine zDv ?_|refine zDy ?_|refine zAx ?_|refine zAv ?_)
  | refine zCv ?_|refine zEy rfl ?_|refine zIx ?_|refine zIv ?_
  | ((first|refine zGx rfl rfl rfl rfl rfl fun K_ hK_=>?_|refine zGy rfl rfl rfl rfl rfl fun K_ hK_=>?_);simp only [zAz,zDz,zFw,↓reduceIte,reduceCtorEq,Nat.reduceEqDiff,Bool.not_true,Bool.not_false];refine hK_ _ ?_;clear hK_ K_)
  | refine zDw (by decide) ?_
  | ((try first|refine zJx rfl rfl rfl ?_|refine zIy rfl rfl ?_|refine zJw rfl rfl rfl ?_|refine zIw rfl rfl ?_);(refine zIz fun Q_ hQ_=>?_;simp (disch:=first|omega|(simp only [List.length_cons,List.length_nil,List.length_append];omega)) only [bb,bp,zKx,↓reduceIte,reduceCtorEq,Nat.reduceEqDiff,Nat.reduceLT,Nat.reduceLeDiff,Nat.reduceAdd,Nat.reduceMul,Nat.reduceSub,Nat.reduceBEq,Int.reduceToNat,cond_true,cond_false,eq_self,beq_self_eq_true,g0,g1,g5,lv,lu,tEvT24,zHw,zNv,zAw wf];first|(refine zCy (Q:=Q_) (fun hp_=>?_) (fun hp_=>?_) <;> first|(exfalso;omega)|(refine hQ_ _ _ ?_;clear hQ_ Q_))|(refine zBy (Q:=Q_) (fun hp_=>?_) (fun hp_=>?_) <;> first|(exfalso;omega)|(refine hQ_ _ _ ?_;clear hQ_ Q_))|(refine hQ_ _ _ ?_;clear hQ_ Q_)))
  | (refine zFv fun K_ hK_=>?_;simp (disch:=omega) only [zFx,zAz,zGz,↓reduceIte,reduceCtorEq,Nat.reduceEqDiff,Nat.reduceLT];refine hK_ _ ?_;clear hK_ K_)))
    (refine zJv _ _ rfl (ret1 (by decide)) ?_;simp only [zAz,↓reduceIte,reduceCtorEq,Nat.reduceEqDiff];refine zMw rfl (by omega) ?_)
    exact ⟨rfl,rfl⟩
theorem costL_cnt (t:Int) : ∀ (cs:List Int) (a b s:Int),costL (payI t) a b s cs=costL (payI 0) a b s cs+t * costL cntI a b s cs
  | [],_,_,_=>by show (0:Int)=0+t * 0;omega
  | c :: cs,a,b,s=>by
    have ih:=costL_cnt t cs b c (nsg s (a - 2 * b+c))
    show payI t a b s c+costL (payI t) b c (nsg s (a - 2 * b+c)) cs=payI 0 a b s c+costL (payI 0) b c (nsg s (a - 2 * b+c)) cs+t * (chgI s (a - 2 * b+c)+costL cntI b c (nsg s (a - 2 * b+c)) cs)
    rw [ih,Int.mul_add]
    have e1:payI t a b s c=payI 0 a b s c+t * chgI s (a - 2 * b+c):=by unfold payI;rw [Int.zero_mul];omega
    rw [e1];omega
theorem Cost_cnt (t:Int) : ∀ l:List Int,Cost (payI t) l=Cost (payI 0) l+t * Cost cntI l
  | []=>by show (0:Int)=0+t * 0;omega
  | [_]=>by show (0:Int)=0+t * 0;omega
  | a :: b :: cs=>costL_cnt t cs a b 0
theorem Cost_cnt_nn : ∀ l:List Int,0≤Cost cntI l
  | []=>Int.le_refl _
  | [_]=>Int.le_refl _
  | a :: b :: cs=>by
    have key : ∀ (cs:List Int) (a b s:Int),0≤costL cntI a b s cs:=fun cs=>by
      induction cs with
      | nil=>intro a b s;exact Int.le_refl _
      | cons c cs ih=>
        intro a b s
        have h1:=chgI_01 s (a - 2 * b+c)
        have h2:=ih b c (nsg s (a - 2 * b+c))
        show 0≤chgI s (a - 2 * b+c)+costL cntI b c (nsg s (a - 2 * b+c)) cs
        omega
    exact key cs a b 0
theorem Cost_cnt_le : ∀ l:List Int,Cost cntI l≤l.length
  | []=>Int.le_refl _
  | [_]=>by show (0:Int)≤1;omega
  | a :: b :: cs=>by
    have key : ∀ (cs:List Int) (a b s:Int),costL cntI a b s cs≤cs.length:=fun cs=>by
      induction cs with
      | nil=>intro a b s;exact Int.le_refl _
      | cons c cs ih=>
        intro a b s
        have h1:=chgI_01 s (a - 2 * b+c)
        have h2:=ih b c (nsg s (a - 2 * b+c))
        show chgI s (a - 2 * b+c)+costL cntI b c (nsg s (a - 2 * b+c)) cs≤((cs.length+1:Nat):Int)
        omega
    have:=key cs a b 0
    show costL cntI a b 0 cs≤((cs.length+1+1:Nat):Int)
    omega
theorem spots_eq {R S:List (Int × Int)} (hl:R.length=S.length) (h : ∀ i,i<S.length→spot R i=spot S i):R=S:=by
  refine List.ext_getElem? fun i=>?_
  by_cases hi:i<S.length
  · have:=h i hi
    rw [List.getElem?_eq_getElem hi,List.getElem?_eq_getElem (by omega),zQy hi,zQy (by omega),this]
  · rw [List.getElem?_eq_none (by omega),List.getElem?_eq_none (by omega)]
end Go.Proofs.YtkmdidplmfdikaaDoor
end

section
namespace Go.Proofs.YtkmdidplmfdikaaDoor
open Go.Ev
set_option maxRecDepth 100000
set_option linter.unusedSimpArgs false
set_option linter.unusedVariables false
set_option maxHeartbeats 4000000

theorem cnt_meas (l:List Int):(measOf l).1=Cost cntI l:=by
  have h0:=cost_meas 0 l
  have h1:=cost_meas 1 l
  have:=Cost_cnt 1 l
  omega
def RgsOf (n:Nat) (gs:List (List Int)) (R:List (Int × Int)):Prop:=R.length=n ∧ ∀ k,k<n→(∃ l,l ∈ gs∧l[k]? = some (spot R k).1)∧(∃ l,l ∈ gs∧l[k]? = some (spot R k).2) ∧ ∀ l,l ∈ gs → ∀ y,l[k]? = some y→(spot R k).1≤y∧y≤(spot R k).2
def wid (R:List (Int × Int)) (l:List Int):Nat→List (Int × Int)
  | 0=>R
  | k+1=>(wid R l k).set k (min (spot R k).1 (l.getD k 0),max (spot R k).2 (l.getD k 0))
theorem xRz (R:List (Int × Int)) (l:List Int) : ∀ k,(wid R l k).length=R.length
  | 0=>rfl
  | k+1=>by show ((wid R l k).set _ _).length=_;rw [List.length_set];exact xRz R l k
theorem spot_set (R:List (Int × Int)) (k j:Nat) (r:Int × Int) (hk:k<R.length):spot (R.set k r) j=if j=k then r else spot R j:=by
  unfold spot
  rw [List.getD_eq_getElem?_getD,List.getD_eq_getElem?_getD,List.getElem?_set]
  by_cases h:k=j
  · subst h;simp [hk]
  · rw [if_neg h,if_neg (fun e=>h e.symm)]
theorem xNw (R:List (Int × Int)) (l:List Int) : ∀ k j,k≤R.length→spot (wid R l k) j=if j<k then (min (spot R j).1 (l.getD j 0),max (spot R j).2 (l.getD j 0)) else spot R j
  | 0,j,_=>by rw [if_neg (Nat.not_lt_zero _)];rfl
  | k+1,j,hk=>by
    show spot ((wid R l k).set k _) j=_
    rw [spot_set _ _ _ _ (by rw [xRz];omega),xNw R l k j (by omega)]
    by_cases h:j=k
    · subst h;rw [if_pos rfl,if_pos (by omega)]
    · rw [if_neg h]
      by_cases h2:j<k
      · rw [if_pos h2,if_pos (by omega)]
      · rw [if_neg h2,if_neg (by omega)]
theorem RgsOf.wid {n:Nat} {gs:List (List Int)} {R:List (Int × Int)} (r:RgsOf n gs R) {l:List Int} (hl:l.length=n):RgsOf n (gs++[l]) (wid R l n):=by
  obtain ⟨h1,h2⟩:=r
  refine ⟨by rw [xRz];exact h1,fun k hk=>?_⟩
  obtain ⟨⟨la,a1,a2⟩,⟨lb,b1,b2⟩,c⟩:=h2 k hk
  have hg:l[k]? = some (l.getD k 0):=by rw [List.getD_eq_getElem?_getD,List.getElem?_eq_getElem (by omega)];rfl
  rw [xNw R l n k (by omega),if_pos hk]
  dsimp only
  refine ⟨?_,?_,fun l' hl' y hy=>?_⟩
  · rcases Int.le_total (spot R k).1 (l.getD k 0) with h|h
    · exact ⟨la,by simp [a1],by rw [Int.min_eq_left h];exact a2⟩
    · exact ⟨l,by simp,by rw [Int.min_eq_right h];exact hg⟩
  · rcases Int.le_total (spot R k).2 (l.getD k 0) with h|h
    · exact ⟨l,by simp,by rw [Int.max_eq_right h];exact hg⟩
    · exact ⟨lb,by simp [b1],by rw [Int.max_eq_left h];exact b2⟩
  · rcases List.mem_append.1 hl' with h|h
    · have:=c l' h y hy;omega
    · rw [List.mem_singleton.1 h,hg] at hy
      cases hy
      omega
def ptsL (l:List Int):List (Int × Int):=l.map fun x=>(x,x)
theorem ptsL_spot {l:List Int} {k:Nat} (hk:k<l.length):spot (ptsL l) k=(l.getD k 0,l.getD k 0):=by
  unfold spot ptsL
  rw [List.getD_eq_getElem?_getD,List.getD_eq_getElem?_getD,List.getElem?_map,List.getElem?_eq_getElem hk];rfl
theorem RgsOf.one {n:Nat} {l:List Int} (hl:l.length=n):RgsOf n [l] (ptsL l):=by
  refine ⟨by unfold ptsL;rw [List.length_map];exact hl,fun k hk=>?_⟩
  have hg:l[k]? = some (l.getD k 0):=by rw [List.getD_eq_getElem?_getD,List.getElem?_eq_getElem (by omega)];rfl
  rw [ptsL_spot (by omega)]
  refine ⟨⟨l,by simp,hg⟩,⟨l,by simp,hg⟩,fun l' hl' y hy=>?_⟩
  rw [List.mem_singleton.1 hl',hg] at hy
  cases hy
  exact ⟨Int.le_refl _,Int.le_refl _⟩
theorem RgsOf.same {n:Nat} {gs:List (List Int)} {R:List (Int × Int)} (r:RgsOf n gs R) {gs':List (List Int)} (h : ∀ l,l ∈ gs ↔ l ∈ gs'):RgsOf n gs' R:=by
  refine ⟨r.1,fun k hk=>?_⟩
  obtain ⟨⟨la,a1,a2⟩,⟨lb,b1,b2⟩,c⟩:=r.2 k hk
  exact ⟨⟨la,(h _).1 a1,a2⟩,⟨lb,(h _).1 b1,b2⟩,fun l hl=>c l ((h _).2 hl)⟩
def fewLs (ch:Int) (ls:List (List Int)):List (List Int):=ls.filter fun l=>decide (Cost cntI l≤ch)
theorem fewLs_take {ch:Int} {ls:List (List Int)} {i:Nat} (hi:i<ls.length):fewLs ch (ls.take (i+1))=fewLs ch (ls.take i)++(if Cost cntI ls[i]≤ch then [ls[i]] else []):=by
  unfold fewLs
  rw [List.take_succ_eq_append_getElem hi,List.filter_append]
  congr 1
  by_cases h:Cost cntI ls[i]≤ch <;> simp [h]
theorem rgs_few {sp:List (Int × Int)} {ch:Int} {R:List (Int × Int)} (r:RgsOf sp.length (fewLs ch (linesR sp [])) R) : ∀ i,i<sp.length→FewR sp ch i (spot R i):=fun i hi=>by
  have hm : ∀ l,l ∈ fewLs ch (linesR sp []) ↔ InR sp l∧Cost cntI l≤ch:=fun l=>by
    unfold fewLs
    rw [List.mem_filter]
    constructor
    · rintro ⟨h1,h2⟩
      obtain ⟨cs,hcs,rfl⟩:=yDz.1 h1
      exact ⟨hcs,of_decide_eq_true h2⟩
    · rintro ⟨h1,h2⟩
      exact ⟨yDz.2 ⟨l,h1,rfl⟩,decide_eq_true h2⟩
  obtain ⟨⟨la,a1,a2⟩,⟨lb,b1,b2⟩,c⟩:=r.2 i hi
  obtain ⟨p1,p2⟩:=(hm _).1 a1
  obtain ⟨q1,q2⟩:=(hm _).1 b1
  exact ⟨⟨la,p1,p2,a2⟩,⟨lb,q1,q2,b2⟩,fun y ⟨l,h1,h2,h3⟩=>c l ((hm _).2 ⟨h1,h2⟩) y h3⟩
theorem fewR_uniq {sp:List (Int × Int)} {ch:Int} {i:Nat} {r s:Int × Int} (hr:FewR sp ch i r) (hs:FewR sp ch i s):r=s:=by
  have h1:=hr.2.2 _ hs.1
  have h2:=hr.2.2 _ hs.2.1
  have h3:=hs.2.2 _ hr.1
  have h4:=hs.2.2 _ hr.2.1
  exact Prod.ext (by omega) (by omega)
end Go.Proofs.YtkmdidplmfdikaaDoor
end

section
namespace Go.Proofs.YtkmdidplmfdikaaDoor
open Go.Ev
set_option maxRecDepth 100000
set_option linter.unusedSimpArgs false
set_option linter.unusedVariables false
set_option maxHeartbeats 4000000

theorem tEvU6 :type_of% (And.intro (And.intro (And.intro (And.intro (@zSv) (And.intro (@xNy) (@ia_2))) (And.intro (And.intro (@sz_2) (@ia_3)) (And.intro (@sz_3) (@zSy)))) (And.intro (And.intro (@zTx) (And.intro (@zRx) (@zSx))) (And.intro (And.intro (@zSz) (@zSw)) (And.intro (@zUz) (@wAw))))) (And.intro (And.intro (And.intro (@wBw) (And.intro (@zMy) (@zMz))) (And.intro (And.intro (@zLw) (@zLx)) (And.intro (@zOv) (@yUx)))) (And.intro (And.intro (@pb_35) (And.intro (@pb_38) (@pb_46))) (And.intro (And.intro (@yZw) (@yUv)) (And.intro (@ni_52) (@xNz)))))):=And.intro (And.intro (And.intro (And.intro (@zSv) (And.intro (@xNy) (@ia_2))) (And.intro (And.intro (@sz_2) (@ia_3)) (And.intro (@sz_3) (@zSy)))) (And.intro (And.intro (@zTx) (And.intro (@zRx) (@zSx))) (And.intro (And.intro (@zSz) (@zSw)) (And.intro (@zUz) (@wAw))))) (And.intro (And.intro (And.intro (@wBw) (And.intro (@zMy) (@zMz))) (And.intro (And.intro (@zLw) (@zLx)) (And.intro (@zOv) (@yUx)))) (And.intro (And.intro (@pb_35) (And.intro (@pb_38) (@pb_46))) (And.intro (And.intro (@yZw) (@yUv)) (And.intro (@ni_52) (@xNz)))))
def OutS (h:H) (L0:List AO) (n:Nat) (gs:List (List Int)) (G:List AO) (v:AV):Prop:=(gs=[]∧v = .nils)∨(gs≠[] ∧ ∃ (j:Nat) (R:List (Int × Int)),v = .sl (nx h (L0.length+j)) 0 n none 2∧G[j]? = some (.cells (zAy (zMx R)) 51)∧RgsOf n gs R)
theorem eqnils {x y:Operand} : binE Tryd.prog .eql 22 x y .nils .nils=some (.bool true):=by
  first|rfl|(unfold binE;rfl)|kernel_rfl
theorem ix_25 {q:Pos} {n i:Nat} {c:Option Nat} (hi:i<n):indexAddrE Tryd.prog 25 (.sl q 0 n c 1) (.int .i64 (i:Int))=some (.ptr q i):=by
  rw [zQv,zTy];dsimp only;rw [ik_25];dsimp only;rw [zYw hi,Nat.zero_add,Nat.mul_one]
theorem ix_22 {q:Pos} {n i:Nat} {c:Option Nat} (hi:i<n):indexAddrE Tryd.prog 22 (.sl q 0 n c 2) (.int .i64 (i:Int))=some (.ptr q (i * 2)):=by
  rw [zQv,zTy];dsimp only;rw [yLz];dsimp only;rw [zYw hi,Nat.zero_add]
theorem ptsL_take (l:List Int) (k:Nat) (hk:k<l.length):zMx ((ptsL l).take (k+1))=zMx ((ptsL l).take k)++[ii (l.getD k 0),ii (l.getD k 0)]:=by
  have h1:k<(ptsL l).length:=by unfold ptsL;rw [List.length_map];exact hk
  have h2:(ptsL l)[k]=(l.getD k 0,l.getD k 0):=by rw [zQy h1,ptsL_spot hk]
  rw [List.take_succ_eq_append_getElem h1,h2]
  unfold zMx
  rw [List.flatMap_append]
  rfl
theorem mem_getD {l:List Int} {k:Nat} (hk:k<l.length):l.getD k 0 ∈ l:=by
  rw [List.getD_eq_getElem?_getD,List.getElem?_eq_getElem hk]
  exact List.getElem_mem hk

theorem rSpread (sp:List (Int × Int)) (turn:Int) (hsp:spotsR sp turn=0) (hmany:manyL sp≤1500) (a:AV) (ch:Int) (hch:0≤ch) (h:H) (wf:Wf h) (hs:Sl h a 2 sp.length (zLy sp)) :
    WV ((om Tryd.prog KK).call (.fn 26 [.agg [a,ii turn],ii ch]) h) (fun v h'=>∃ L,h'=X h L h.w∧((∃ (k:Nat) (R:List (Int × Int)),v = .tup [.sl (nx h k) 0 sp.length none 2,ii 0]∧L[k]? = some (.cells (zAy (zMx R)) 51)∧R.length=sp.length ∧ ∀ i,i<sp.length→FewR sp ch i (spot R i)) ∨
      (v = .tup [.nils,ii 17] ∧ ∀ l,InR sp l→ch<Cost cntI l))):=by
  obtain ⟨n1,n24,hok,ht⟩:=yYv hsp
  have ha1:oneB a=true∧AV.cells a=[a]:=by obtain ⟨_,⟨rfl,_⟩|⟨_,_,_,_,_,_,rfl,_⟩⟩:=hs <;> exact ⟨rfl,rfl⟩
  have hRS : ∀ l w,w≤h.clock+l.length→(om Tryd.prog KK).call (.fn 15 [.agg [a,ii turn]]) (X h l w) = .ok (ii 0) (X h l w):=fun l w hw=>by
    have:=rCheckSpots sp turn a (by omega) _ (wf.X hw) (hs.up wf _ _)
    rw [hsp] at this;exact this
  obtain ⟨v,h',e1,M,vs,rfl,hv,hcase⟩:=lines sp n24 hok a turn sp.length 0 (by omega) [] .nils (X h [.cells (zAy [a,ii turn]) 24] h.clock) rfl (by rw [List.drop_zero];exact hmany) (wf.X (by omega)) (hs.up wf _ _) (InV.nils _)
  rw [X_X,X_w,List.cons_append,List.nil_append] at e1
  rw [List.drop_zero] at hcase
  have hfew:=fun R=>@rgs_few sp ch R
  have hmemls : ∀ l,InR sp l→l ∈ linesR sp []:=fun l hl=>yDz.2 ⟨l,hl,rfl⟩
  have hlls : ∀ l,l ∈ linesR sp []→l.length=sp.length:=fun l hl=>by
    obtain ⟨cs,hcs,rfl⟩:=yDz.1 hl
    exact hcs.length
  generalize hls:linesR sp []=ls at hcase hfew hmemls hlls
  have hLV:LV h (.cells (zAy [a,ii turn]) 24 :: M) vs ls:=by
    rcases hcase with ⟨h0,_⟩|⟨_,hlv⟩
    · have:=of_decide_eq_true h0;omega
    · exact ⟨hlv.1,fun i u l h1 h2=>(hlv.2 i u l h1 h2).down⟩
  have hvd:=hv.down
  rw [List.cons_append,List.nil_append] at hvd
  have hin : ∀ l ∈ ls,(∀ x ∈ l,Off x)∧l.length≤24:=fun l hl=>by
    rw [← hls] at hl
    obtain ⟨cs,hcs,rfl⟩:=yDz.1 hl
    exact ⟨inR_off hok hcs,by rw [hcs.length];exact n24⟩
  have hmx:ls.length≤1500:=by rw [← hls,yFv];exact hmany
  obtain ⟨idx,cp,rfl,hvi,hcp⟩:=hvd
  have hlen : ∀ h',lenE Tryd.prog 52 (.sl (nx h idx) 0 vs.length cp 1) h'=some (ii (ls.length:Int)):=fun h'=>by unfold lenE;rw [Tryd.underlying52,← hLV.1];rfl
  generalize hL0:(AO.cells (zAy [a,ii turn]) 24 :: M)=L0 at *
  refine zKv (fn:=Tryd.f26) Tryd.func26 rfl rfl rfl rfl rfl ?_
  simp only [zKx]
  (repeat' (first
  | (with_reducible first|refine zJz ?_|refine zGw ?_|refine zEw ?_|refine zEx ?_|refine zEv ?_|refine zJy ?_|refine zGv ?_|refine zBw ?_|refine zDx ?_|refine zBv ?_|refine zCx ?_|refine zEz ?_|refine zCw ?_|refine zCz ?_|refine zBz ?_|refine zDv ?_|refine zDy ?_|refine zAx ?_|refine zAv ?_)
  | refine zCv ?_|refine zEy rfl ?_|refine zIx ?_|refine zIv ?_
  | ((first|refine zGx rfl rfl rfl rfl rfl fun K_ hK_=>?_|refine zGy rfl rfl rfl rfl rfl fun K_ hK_=>?_);simp only [zAz,zDz,zFw,↓reduceIte,reduceCtorEq,Nat.reduceEqDiff,Bool.not_true,Bool.not_false];refine hK_ _ ?_;clear hK_ K_)
  | refine zDw (by decide) ?_
  | ((try first|refine zJx rfl rfl rfl ?_|refine zIy rfl rfl ?_|refine zJw rfl rfl rfl ?_|refine zIw rfl rfl ?_);(refine zIz fun Q_ hQ_=>?_;simp (disch:=first|omega|(simp only [List.length_cons,List.length_nil,List.length_append];omega)) only [bb,bp,zKx,↓reduceIte,reduceCtorEq,Nat.reduceEqDiff,Nat.reduceLT,Nat.reduceLeDiff,Nat.reduceAdd,Nat.reduceMul,Nat.reduceSub,Nat.reduceBEq,Int.reduceToNat,cond_true,cond_false,eq_self,beq_self_eq_true,hRS,e1,hL0,ha1.1,ha1.2,zHz wf,zHx wf,zFz wf,zHy wf,zBx wf,tEvU6,zHw,zRv,zNv,zAw wf];first|(refine zCy (Q:=Q_) (fun hp_=>?_) (fun hp_=>?_) <;> first|(exfalso;omega)|(refine hQ_ _ _ ?_;clear hQ_ Q_))|(refine zBy (Q:=Q_) (fun hp_=>?_) (fun hp_=>?_) <;> first|(exfalso;omega)|(refine hQ_ _ _ ?_;clear hQ_ Q_))|(refine hQ_ _ _ ?_;clear hQ_ Q_)))
  | (refine zFv fun K_ hK_=>?_;simp (disch:=omega) only [zFx,zAz,zGz,↓reduceIte,reduceCtorEq,Nat.reduceEqDiff,Nat.reduceLT];refine hK_ _ ?_;clear hK_ K_)))
  refine zTv (fun (i:Nat) f d h'=>i≤ls.length∧f 1=ii ch∧f 6 = .sl (nx h idx) 0 vs.length cp 1∧f 8=ii (i:Int)∧d=[] ∧ ∃ (G:List AO) (w:Nat),h'=X h (L0++G) w∧h.clock≤w∧w≤h.clock+(L0.length+G.length)∧OutS h L0 sp.length (fewLs ch (ls.take i)) G (f 7)) (fun i=>ls.length - i) ?_ (ls.length+1) 0 (by omega) ?_
  rotate_left 1
  · exact ⟨Nat.zero_le _,by simp only [zAz,↓reduceIte,reduceCtorEq,Nat.reduceEqDiff],by simp only [zAz,↓reduceIte,reduceCtorEq,Nat.reduceEqDiff],by simp only [zAz,↓reduceIte,reduceCtorEq,Nat.reduceEqDiff];rfl,rfl,[],h.clock,by rw [List.append_nil],Nat.le_refl _,by omega,.inl ⟨rfl,by simp only [zAz,↓reduceIte,reduceCtorEq,Nat.reduceEqDiff]⟩⟩
  rintro i f d h' ⟨hi,g1,g6,g8,rfl,G,w,rfl,hw1,hw2,hout⟩
  generalize g7:f 7=ov at hout
  by_cases hlt:i<ls.length
  · have hli:=List.getElem?_eq_getElem hlt
    have hft:=fewLs_take (ch:=ch) hlt
    have hmem:ls[i] ∈ ls:=List.getElem_mem hlt
    generalize ls[i]=l at hli hft hmem
    obtain ⟨u,hu⟩ : ∃ u,vs[i]? = some u:=⟨_,List.getElem?_eq_getElem (by rw [hLV.1];exact hlt)⟩
    have hlv:=hLV.2 i u l hu hli
    have hln:l.length=sp.length:=hlls l hmem
    have hgs : ∀ l',l' ∈ ls → ∀ x ∈ l',Off x:=fun l' h'=>(hin l' h').1
    have i1:=ix_52 (h:=h) (k:=idx) (n:=vs.length) (c:=cp) (i:=i) (by rw [hLV.1];exact hlt)
    have x1 : ∀ G w,load1 (nx h idx) i (X h (L0++G) w)=some u:=fun G w=>by
      rw [zHx wf,List.getElem?_append_left (zHv hvi),hvi,zWx,hu]
    have hms : ∀ G w,w≤h.clock+(L0.length+G.length)→(om Tryd.prog KK).call (.fn 35 [u]) (X h (L0++G) w) = .ok (.tup [ii (Cost cntI l),ii (measOf l).2]) (X h (L0++G) w):=fun G w hw=>by
      have hsl:=(hlv.more G).sl wf w
      rw [List.length_map] at hsl
      rw [← cnt_meas]
      exact rmeasure l u (by omega) (hin l hmem).1 _ (wf.X (by rw [List.length_append];exact hw)) hsl
    have hcn:=Cost_cnt_nn l
    have hcl:=Cost_cnt_le l
    obtain ⟨kk,c2,rfl,hkk,_⟩:=hlv
    rw [List.length_map,hln] at x1 hms hu
    have lenu : ∀ h',lenE Tryd.prog 25 (.sl (nx h kk) 0 sp.length c2 1) h'=some (ii (sp.length:Int)):=fun h'=>by unfold lenE;rw [Tryd.underlying25];rfl
    have hixu : ∀ k,k<sp.length→indexAddrE Tryd.prog 25 (.sl (nx h kk) 0 sp.length c2 1) (.int .i64 (k:Int))=some (.ptr (nx h kk) k):=fun k hk=>ix_25 hk
    have hldu : ∀ k,k<sp.length → ∀ G w,load1 (nx h kk) k (X h (L0++G) w)=some (ii (l.getD k 0)):=fun k hk G w=>by
      rw [zHx wf,List.getElem?_append_left (zHv hkk),hkk,zWx,List.getElem?_map,List.getD_eq_getElem?_getD,List.getElem?_eq_getElem (by omega)];rfl
    have hlin : ∀ k,k<sp.length→Off (l.getD k 0):=fun k hk=>hgs l hmem _ (mem_getD (by omega))
    by_cases hfe:Cost cntI l≤ch
    · rw [if_pos hfe] at hft
      have hsub : ∀ l',l' ∈ fewLs ch (ls.take i)++[l]→l' ∈ ls:=fun l' h'=>by
        rw [← hft] at h'
        exact List.mem_of_mem_take (List.mem_filter.1 h').1
      generalize fewLs ch (ls.take i)=gs at *
      rcases hout with ⟨rfl,rfl⟩|⟨hgn,j,R0,rfl,hG,hR0⟩
      · (repeat' (first
  | (with_reducible first|refine zJz ?_|refine zGw ?_|refine zEw ?_|refine zEx ?_|refine zEv ?_|refine zJy ?_|refine zGv ?_|refine zBw ?_|refine zDx ?_|refine zBv ?_|refine zCx ?_|refine zEz ?_|refine zCw ?_|refine zCz ?_|refine zBz ?_|refine zDv ?_|refine zDy ?_|refine zAx ?_|refine zAv ?_)
  | refine zCv ?_|refine zEy rfl ?_|refine zIx ?_|refine zIv ?_
  | ((first|refine zGx rfl rfl rfl rfl rfl fun K_ hK_=>?_|refine zGy rfl rfl rfl rfl rfl fun K_ hK_=>?_);simp only [zAz,zDz,zFw,↓reduceIte,reduceCtorEq,Nat.reduceEqDiff,Bool.not_true,Bool.not_false];refine hK_ _ ?_;clear hK_ K_)
  | refine zDw (by decide) ?_
  | ((try first|refine zJx rfl rfl rfl ?_|refine zIy rfl rfl ?_|refine zJw rfl rfl rfl ?_|refine zIw rfl rfl ?_);(refine zIz fun Q_ hQ_=>?_;simp (disch:=first|omega|(simp only [List.length_cons,List.length_nil,List.length_append];omega)) only [bb,bp,zKx,↓reduceIte,reduceCtorEq,Nat.reduceEqDiff,Nat.reduceLT,Nat.reduceLeDiff,Nat.reduceAdd,Nat.reduceMul,Nat.reduceSub,Nat.reduceBEq,Int.reduceToNat,cond_true,cond_false,eq_self,beq_self_eq_true,g1,g6,g7,g8,i1,x1,hms,hlen,eqnils,tEvU6,zHw,zRv,zNv,zAw wf];first|(refine zCy (Q:=Q_) (fun hp_=>?_) (fun hp_=>?_) <;> first|(exfalso;omega)|(refine hQ_ _ _ ?_;clear hQ_ Q_))|(refine zBy (Q:=Q_) (fun hp_=>?_) (fun hp_=>?_) <;> first|(exfalso;omega)|(refine hQ_ _ _ ?_;clear hQ_ Q_))|(refine hQ_ _ _ ?_;clear hQ_ Q_)))
  | (refine zFv fun K_ hK_=>?_;simp (disch:=omega) only [zFx,zAz,zGz,↓reduceIte,reduceCtorEq,Nat.reduceEqDiff,Nat.reduceLT];refine hK_ _ ?_;clear hK_ K_)))
        refine zTv (fun (k:Nat) f d h'=>k≤sp.length∧f 1=ii ch∧f 6 = .sl (nx h idx) 0 vs.length cp 1∧f 8=ii (i:Int)∧f 11=ii (k:Int)∧d=[] ∧ ∃ (G:List AO) (w:Nat),h'=X h (L0++G) w∧h.clock≤w∧w≤h.clock+(L0.length+G.length)∧Grow h L0 G (f 7) 2 51 k (zMx ((ptsL l).take k))) (fun k=>sp.length - k) ?_ (sp.length+1) 0 (by omega) ?_
        rotate_left 1
        · exact ⟨Nat.zero_le _,by simp only [zAz,↓reduceIte,reduceCtorEq,Nat.reduceEqDiff];exact g1,by simp only [zAz,↓reduceIte,reduceCtorEq,Nat.reduceEqDiff];exact g6,by simp only [zAz,↓reduceIte,reduceCtorEq,Nat.reduceEqDiff];exact g8,by simp only [zAz,↓reduceIte,reduceCtorEq,Nat.reduceEqDiff];rfl,rfl,G,w,rfl,hw1,hw2,by simp only [zAz,↓reduceIte,reduceCtorEq,Nat.reduceEqDiff];rw [g7];exact Grow.nil _ _ _ _ _⟩
        clear hw1 hw2 g1 g6 g7 g8
        rintro k f d h' ⟨hk,g1,g6,g8,g11,rfl,G,w,rfl,hw1,hw2,hg⟩
        generalize g7:f 7=ov at hg
        by_cases hkn:k<sp.length
        · have ixk:=hixu k hkn
          have ldk:=hldu k hkn
          have hr7:=hg.resz (P:=Tryd.prog) 22
          have rs22 : ∀ (id:Pos) (off len c esz:Nat),reszT Tryd.prog 22 (.sl id off len (some c) esz) = .sl id off len (some c) 2:=fun id off len c esz=>yBy Tryd.underlying22 zRx
          have hpt:=ptsL_take l k (by omega)
          generalize hxl:l.getD k 0=xl at *
          have rest : ∃ (v:AV) (G2:List AO) (w':Nat),Grow h L0 G2 v 2 51 (k+1) (zMx ((ptsL l).take (k+1)))∧h.clock≤w'∧G2.length=G.length+2 ∧
              appendE Tryd.prog 22 ov (.sl (nx h (L0.length+G.length)) 0 1 (some 1) 2) (X h (L0++(G++[.cells (zAy [ii xl,ii xl]) 51])) (h.clock+(L0.length+(G.length+1)))) = .ok v (X h (L0++G2) w'):=by
            obtain ⟨v',G2,o',w',hch',hg',hw1',hw2',happ⟩:=(hg.keepK (Keep.more G [.cells (zAy [ii xl,ii xl]) 51])).appendC (P:=Tryd.prog) wf Tryd.underlying22 zRx el_51 (n:=1) (new:=[ii xl,ii xl]) (x:=.sl (nx h (L0.length+G.length)) 0 1 (some 1) 2) (t:=22) (by omega) (by decide) (by decide) rfl rfl (fun w=>yPv (e:=51) wf (by rw [zLv,List.getElem?_append_right (Nat.le_refl _),Nat.sub_self];rfl) rfl) (h.clock+(L0.length+(G.length+1))) (by omega)
            rw [← hpt] at hg'
            refine ⟨v',G2++[o'],w',hg',hw1',?_,happ⟩
            have:=hch'.1
            simp only [List.length_append,List.length_cons,List.length_nil] at this ⊢
            omega
          obtain ⟨v,G2,w',hg2,hw3,hl2,happ⟩:=rest
          (repeat' (first
  | (with_reducible first|refine zJz ?_|refine zGw ?_|refine zEw ?_|refine zEx ?_|refine zEv ?_|refine zJy ?_|refine zGv ?_|refine zBw ?_|refine zDx ?_|refine zBv ?_|refine zCx ?_|refine zEz ?_|refine zCw ?_|refine zCz ?_|refine zBz ?_|refine zDv ?_|refine zDy ?_|refine zAx ?_|refine zAv ?_)
  | refine zCv ?_|refine zEy rfl ?_|refine zIx ?_|refine zIv ?_
  | ((first|refine zGx rfl rfl rfl rfl rfl fun K_ hK_=>?_|refine zGy rfl rfl rfl rfl rfl fun K_ hK_=>?_);simp only [zAz,zDz,zFw,↓reduceIte,reduceCtorEq,Nat.reduceEqDiff,Bool.not_true,Bool.not_false];refine hK_ _ ?_;clear hK_ K_)
  | refine zDw (by decide) ?_
  | ((try first|refine zJx rfl rfl rfl ?_|refine zIy rfl rfl ?_|refine zJw rfl rfl rfl ?_|refine zIw rfl rfl ?_);(refine zIz fun Q_ hQ_=>?_;simp (disch:=first|omega|(simp only [List.length_cons,List.length_nil,List.length_append];omega)) only [bb,bp,zKx,↓reduceIte,reduceCtorEq,Nat.reduceEqDiff,Nat.reduceLT,Nat.reduceLeDiff,Nat.reduceAdd,Nat.reduceMul,Nat.reduceSub,Nat.reduceBEq,Int.reduceToNat,cond_true,cond_false,eq_self,beq_self_eq_true,g1,g6,g7,g8,g11,i1,x1,lenu,tEvU6,zHw,zRv,zNv,zAw wf];first|(refine zCy (Q:=Q_) (fun hp_=>?_) (fun hp_=>?_) <;> first|(exfalso;omega)|(refine hQ_ _ _ ?_;clear hQ_ Q_))|(refine zBy (Q:=Q_) (fun hp_=>?_) (fun hp_=>?_) <;> first|(exfalso;omega)|(refine hQ_ _ _ ?_;clear hQ_ Q_))|(refine hQ_ _ _ ?_;clear hQ_ Q_)))
  | (refine zFv fun K_ hK_=>?_;simp (disch:=omega) only [zFx,zAz,zGz,↓reduceIte,reduceCtorEq,Nat.reduceEqDiff,Nat.reduceLT];refine hK_ _ ?_;clear hK_ K_)))
          refine zNw [.no,.no,.no,.no,.no,.no,.no,.no,.no,.no,.no,.no,.no,.no,.no,.full,.full,.full,.full] (by kernel_rfl) ?_
          (repeat' (first
  | (with_reducible first|refine zJz ?_|refine zGw ?_|refine zEw ?_|refine zEx ?_|refine zEv ?_|refine zJy ?_|refine zGv ?_|refine zBw ?_|refine zDx ?_|refine zBv ?_|refine zCx ?_|refine zEz ?_|refine zCw ?_|refine zCz ?_|refine zBz ?_|refine zDv ?_|refine zDy ?_|refine zAx ?_|refine zAv ?_)
  | refine zCv ?_|refine zEy rfl ?_|refine zIx ?_|refine zIv ?_
  | ((first|refine zGx rfl rfl rfl rfl rfl fun K_ hK_=>?_|refine zGy rfl rfl rfl rfl rfl fun K_ hK_=>?_);simp only [zAz,zDz,zFw,↓reduceIte,reduceCtorEq,Nat.reduceEqDiff,Bool.not_true,Bool.not_false];refine hK_ _ ?_;clear hK_ K_)
  | refine zDw (by decide) ?_
  | ((try first|refine zJx rfl rfl rfl ?_|refine zIy rfl rfl ?_|refine zJw rfl rfl rfl ?_|refine zIw rfl rfl ?_);(refine zIz fun Q_ hQ_=>?_;simp (disch:=first|omega|(simp only [List.length_cons,List.length_nil,List.length_append];omega)) only [bb,bp,zKx,↓reduceIte,reduceCtorEq,Nat.reduceEqDiff,Nat.reduceLT,Nat.reduceLeDiff,Nat.reduceAdd,Nat.reduceMul,Nat.reduceSub,Nat.reduceBEq,Int.reduceToNat,cond_true,cond_false,eq_self,beq_self_eq_true,g1,g6,g7,g8,g11,i1,x1,lenu,ixk,ldk,hr7,rs22,happ,tEvU6,zHw,zRv,zNv,zAw wf];first|(refine zCy (Q:=Q_) (fun hp_=>?_) (fun hp_=>?_) <;> first|(exfalso;omega)|(refine hQ_ _ _ ?_;clear hQ_ Q_))|(refine zBy (Q:=Q_) (fun hp_=>?_) (fun hp_=>?_) <;> first|(exfalso;omega)|(refine hQ_ _ _ ?_;clear hQ_ Q_))|(refine hQ_ _ _ ?_;clear hQ_ Q_)))
  | (refine zFv fun K_ hK_=>?_;simp (disch:=omega) only [zFx,zAz,zGz,↓reduceIte,reduceCtorEq,Nat.reduceEqDiff,Nat.reduceLT];refine hK_ _ ?_;clear hK_ K_)))
          refine zKy (k+1) (by omega) ⟨hkn,by simp only [zAz,↓reduceIte,reduceCtorEq,Nat.reduceEqDiff];exact g1,by simp only [zAz,↓reduceIte,reduceCtorEq,Nat.reduceEqDiff];exact g6,by simp only [zAz,↓reduceIte,reduceCtorEq,Nat.reduceEqDiff];exact g8,by simp only [zAz,↓reduceIte,reduceCtorEq,Nat.reduceEqDiff];rw [Int.natCast_succ],rfl,G2,_,rfl,by omega,by omega,by simp only [zAz,↓reduceIte,reduceCtorEq,Nat.reduceEqDiff];exact hg2⟩
        · have hke:k=sp.length:=by omega
          subst hke
          rw [List.take_of_length_le (by unfold ptsL;rw [List.length_map];omega)] at hg
          obtain ⟨_,⟨h0,_⟩|⟨j,rfl,hG⟩⟩:=hg
          · exfalso;omega
          have hR0:RgsOf sp.length [l] (ptsL l):=RgsOf.one hln
          have hfin : ∀ R',RgsOf sp.length ([l]++[l]) R'→RgsOf sp.length (fewLs ch (ls.take (i+1))) R':=fun R' r=>by rw [hft];exact r.same fun l'=>by simp
          have hgs0 : ∀ l',l' ∈ [l] → ∀ x ∈ l',Off x:=fun l' h'=>hgs l' (by rw [List.mem_singleton.1 h'];exact hmem)
          clear hgs
          have hgs:=hgs0
          generalize ptsL l=R0 at *
          (repeat' (first
  | (with_reducible first|refine zJz ?_|refine zGw ?_|refine zEw ?_|refine zEx ?_|refine zEv ?_|refine zJy ?_|refine zGv ?_|refine zBw ?_|refine zDx ?_|refine zBv ?_|refine zCx ?_|refine zEz ?_|refine zCw ?_|refine zCz ?_|refine zBz ?_|refine zDv ?_|refine zDy ?_|refine zAx ?_|refine zAv ?_)
  | refine zCv ?_|refine zEy rfl ?_|refine zIx ?_|refine zIv ?_
  | ((first|refine zGx rfl rfl rfl rfl rfl fun K_ hK_=>?_|refine zGy rfl rfl rfl rfl rfl fun K_ hK_=>?_);simp only [zAz,zDz,zFw,↓reduceIte,reduceCtorEq,Nat.reduceEqDiff,Bool.not_true,Bool.not_false];refine hK_ _ ?_;clear hK_ K_)
  | refine zDw (by decide) ?_
  | ((try first|refine zJx rfl rfl rfl ?_|refine zIy rfl rfl ?_|refine zJw rfl rfl rfl ?_|refine zIw rfl rfl ?_);(refine zIz fun Q_ hQ_=>?_;simp (disch:=first|omega|(simp only [List.length_cons,List.length_nil,List.length_append];omega)) only [bb,bp,zKx,↓reduceIte,reduceCtorEq,Nat.reduceEqDiff,Nat.reduceLT,Nat.reduceLeDiff,Nat.reduceAdd,Nat.reduceMul,Nat.reduceSub,Nat.reduceBEq,Int.reduceToNat,cond_true,cond_false,eq_self,beq_self_eq_true,g1,g6,g7,g8,g11,i1,x1,lenu,tEvU6,zHw,zRv,zNv,zAw wf];first|(refine zCy (Q:=Q_) (fun hp_=>?_) (fun hp_=>?_) <;> first|(exfalso;omega)|(refine hQ_ _ _ ?_;clear hQ_ Q_))|(refine zBy (Q:=Q_) (fun hp_=>?_) (fun hp_=>?_) <;> first|(exfalso;omega)|(refine hQ_ _ _ ?_;clear hQ_ Q_))|(refine hQ_ _ _ ?_;clear hQ_ Q_)))
  | (refine zFv fun K_ hK_=>?_;simp (disch:=omega) only [zFx,zAz,zGz,↓reduceIte,reduceCtorEq,Nat.reduceEqDiff,Nat.reduceLT];refine hK_ _ ?_;clear hK_ K_)))
          have hw3:=hw1
          have hw4:=hw2
          refine zTv (fun (k:Nat) f d h'=>k≤sp.length∧f 1=ii ch∧f 6 = .sl (nx h idx) 0 vs.length cp 1∧f 7 = .sl (nx h (L0.length+j)) 0 sp.length none 2∧f 8=ii (i:Int)∧f 12=ii (k:Int)∧d=[] ∧ ∃ (G:List AO) (w:Nat),h'=X h (L0++G) w∧h.clock≤w∧w≤h.clock+(L0.length+G.length)∧G[j]? = some (.cells (zAy (zMx (wid R0 l k))) 51)) (fun k=>sp.length - k) ?_ (sp.length+1) 0 (by omega) ?_
          rotate_left 1
          · exact ⟨Nat.zero_le _,by simp only [zAz,↓reduceIte,reduceCtorEq,Nat.reduceEqDiff];exact g1,by simp only [zAz,↓reduceIte,reduceCtorEq,Nat.reduceEqDiff];exact g6,by simp only [zAz,↓reduceIte,reduceCtorEq,Nat.reduceEqDiff];first|exact g7|rfl,by simp only [zAz,↓reduceIte,reduceCtorEq,Nat.reduceEqDiff];exact g8,by simp only [zAz,↓reduceIte,reduceCtorEq,Nat.reduceEqDiff];rfl,rfl,_,_,rfl,hw3,hw4,hG⟩
          clear hw3 hw4 hG g1 g6 g7 g8
          rintro k f d h' ⟨hk,g1,g6,g7,g8,g12,rfl,G,w,rfl,hw1,hw2,hG⟩
          have hRk:(wid R0 l k).length=sp.length:=by rw [xRz];exact hR0.1
          by_cases hkn:k<sp.length
          · have ixk:=hixu k hkn
            have ldk:=hldu k hkn
            have ixo:=ix_22 (q:=nx h (L0.length+j)) (c:=none) hkn
            have hGL:(L0++G)[L0.length+j]? = some (.cells (zAy (zMx (wid R0 l k))) 51):=by rw [zLv];exact hG
            have sg:=zRy (sp:=wid R0 l k) (i:=k) (by omega)
            rw [zQy (by omega:k<(wid R0 l k).length),xNw R0 l k k (by rw [hR0.1];omega),if_neg (Nat.lt_irrefl k)] at sg
            have ld1 : ∀ w,load1 (nx h (L0.length+j)) (k * 2) (X h (L0++G) w)=some (ii (spot R0 k).1):=fun w=>by rw [zHx wf,hGL,zWx];exact sg.1
            have ld2 : ∀ w,load1 (nx h (L0.length+j)) (k * 2+1) (X h (L0++G) w)=some (ii (spot R0 k).2):=fun w=>by rw [zHx wf,hGL,zWx];exact sg.2
            have hwr : ∀ w (x y:Int),writeCells (nx h (L0.length+j)) (k * 2) [ii x,ii y] (X h (L0++G) w)=some (X h (L0++G.set j (.cells (zAy (zMx ((wid R0 l k).set k (x,y)))) 51)) (min (h.clock+(L0.length+j)) w)):=fun w x y=>by
              rw [zBx wf,hGL,zUx]
              rw [show allOne [ii x,ii y]=true from rfl,cond_true,if_pos (by rw [zUw,hRk];simp only [List.length_cons,List.length_nil];omega),yMv _ _ _ _ (by omega)]
              show some (X h ((L0++G).set (L0.length+j) _) _)=_
              rw [zNx]
            have hlk:=hlin k hkn
            have hr0:(∃ y,(spot R0 k).1=y∧Off y) ∧ ∃ y,(spot R0 k).2=y∧Off y:=by
              obtain ⟨⟨la,a1,a2⟩,⟨lb,b1,b2⟩,_⟩:=hR0.2 k hkn
              exact ⟨⟨_,rfl,hgs _ a1 _ (List.mem_of_getElem? a2)⟩,⟨_,rfl,hgs _ b1 _ (List.mem_of_getElem? b2)⟩⟩
            obtain ⟨⟨_,rfl,hra⟩,⟨_,rfl,hrb⟩⟩:=hr0
            have hws:wid R0 l (k+1)=(wid R0 l k).set k (min (spot R0 k).1 (l.getD k 0),max (spot R0 k).2 (l.getD k 0)):=rfl
            generalize hxa:(spot R0 k).1=xa at *
            generalize hxb:(spot R0 k).2=xb at *
            generalize hxl:l.getD k 0=xl at *
            (repeat' (first
  | (with_reducible first|refine zJz ?_|refine zGw ?_|refine zEw ?_|refine zEx ?_|refine zEv ?_|refine zJy ?_|refine zGv ?_|refine zBw ?_|refine zDx ?_|refine zBv ?_|refine zCx ?_|refine zEz ?_|refine zCw ?_|refine zCz ?_|refine zBz ?_|refine zDv ?_|refine zDy ?_|refine zAx ?_|refine zAv ?_)
  | refine zCv ?_|refine zEy rfl ?_|refine zIx ?_|refine zIv ?_
  | ((first|refine zGx rfl rfl rfl rfl rfl fun K_ hK_=>?_|refine zGy rfl rfl rfl rfl rfl fun K_ hK_=>?_);simp only [zAz,zDz,zFw,↓reduceIte,reduceCtorEq,Nat.reduceEqDiff,Bool.not_true,Bool.not_false];refine hK_ _ ?_;clear hK_ K_)
  | refine zDw (by decide) ?_
  | ((try first|refine zJx rfl rfl rfl ?_|refine zIy rfl rfl ?_|refine zJw rfl rfl rfl ?_|refine zIw rfl rfl ?_);(refine zIz fun Q_ hQ_=>?_;simp (disch:=first|omega|(simp only [List.length_cons,List.length_nil,List.length_append];omega)) only [bb,bp,zKx,↓reduceIte,reduceCtorEq,Nat.reduceEqDiff,Nat.reduceLT,Nat.reduceLeDiff,Nat.reduceAdd,Nat.reduceMul,Nat.reduceSub,Nat.reduceBEq,Int.reduceToNat,cond_true,cond_false,eq_self,beq_self_eq_true,g1,g6,g7,g8,g12,i1,x1,lenu,tEvU6,zHw,zRv,zNv,zAw wf];first|(refine zCy (Q:=Q_) (fun hp_=>?_) (fun hp_=>?_) <;> first|(exfalso;omega)|(refine hQ_ _ _ ?_;clear hQ_ Q_))|(refine zBy (Q:=Q_) (fun hp_=>?_) (fun hp_=>?_) <;> first|(exfalso;omega)|(refine hQ_ _ _ ?_;clear hQ_ Q_))|(refine hQ_ _ _ ?_;clear hQ_ Q_)))
  | (refine zFv fun K_ hK_=>?_;simp (disch:=omega) only [zFx,zAz,zGz,↓reduceIte,reduceCtorEq,Nat.reduceEqDiff,Nat.reduceLT];refine hK_ _ ?_;clear hK_ K_)))
            refine zNw [.no,.no,.no,.no,.no,.no,.no,.no,.no,.no,.no,.no,.no,.no,.no,.no,.no,.no,.no,.no,.no,.no,.no,.no,.no,.no,.no,.no,.full,.full,.full] (by kernel_rfl) ?_
            (repeat' (first
  | (with_reducible first|refine zJz ?_|refine zGw ?_|refine zEw ?_|refine zEx ?_|refine zEv ?_|refine zJy ?_|refine zGv ?_|refine zBw ?_|refine zDx ?_|refine zBv ?_|refine zCx ?_|refine zEz ?_|refine zCw ?_|refine zCz ?_|refine zBz ?_|refine zDv ?_|refine zDy ?_|refine zAx ?_|refine zAv ?_)
  | refine zCv ?_|refine zEy rfl ?_|refine zIx ?_|refine zIv ?_
  | ((first|refine zGx rfl rfl rfl rfl rfl fun K_ hK_=>?_|refine zGy rfl rfl rfl rfl rfl fun K_ hK_=>?_);simp only [zAz,zDz,zFw,↓reduceIte,reduceCtorEq,Nat.reduceEqDiff,Bool.not_true,Bool.not_false];refine hK_ _ ?_;clear hK_ K_)
  | refine zDw (by decide) ?_
  | ((try first|refine zJx rfl rfl rfl ?_|refine zIy rfl rfl ?_|refine zJw rfl rfl rfl ?_|refine zIw rfl rfl ?_);(refine zIz fun Q_ hQ_=>?_;simp (disch:=first|omega|(simp only [List.length_cons,List.length_nil,List.length_append];omega)) only [bb,bp,zKx,↓reduceIte,reduceCtorEq,Nat.reduceEqDiff,Nat.reduceLT,Nat.reduceLeDiff,Nat.reduceAdd,Nat.reduceMul,Nat.reduceSub,Nat.reduceBEq,Int.reduceToNat,cond_true,cond_false,eq_self,beq_self_eq_true,g1,g6,g7,g8,g12,i1,x1,lenu,ixk,ldk,ixo,ld1,ld2,hwr,tEvU6,zHw,zRv,zNv,zAw wf];first|(refine zCy (Q:=Q_) (fun hp_=>?_) (fun hp_=>?_) <;> first|(exfalso;omega)|(refine hQ_ _ _ ?_;clear hQ_ Q_))|(refine zBy (Q:=Q_) (fun hp_=>?_) (fun hp_=>?_) <;> first|(exfalso;omega)|(refine hQ_ _ _ ?_;clear hQ_ Q_))|(refine hQ_ _ _ ?_;clear hQ_ Q_)))
  | (refine zFv fun K_ hK_=>?_;simp (disch:=omega) only [zFx,zAz,zGz,↓reduceIte,reduceCtorEq,Nat.reduceEqDiff,Nat.reduceLT];refine hK_ _ ?_;clear hK_ K_)))
            refine zKy (k+1) (by omega) ⟨hkn,by simp only [zAz,↓reduceIte,reduceCtorEq,Nat.reduceEqDiff];exact g1,by simp only [zAz,↓reduceIte,reduceCtorEq,Nat.reduceEqDiff];exact g6,by simp only [zAz,↓reduceIte,reduceCtorEq,Nat.reduceEqDiff];exact g7,by simp only [zAz,↓reduceIte,reduceCtorEq,Nat.reduceEqDiff];exact g8,by simp only [zAz,↓reduceIte,reduceCtorEq,Nat.reduceEqDiff];rw [Int.natCast_succ],rfl,_,_,rfl,by omega,by rw [List.length_set];omega,by rw [List.getElem?_set_self (zHv hG),hws]⟩
          · have hke:k=sp.length:=by omega
            subst hke
            (repeat' (first
  | (with_reducible first|refine zJz ?_|refine zGw ?_|refine zEw ?_|refine zEx ?_|refine zEv ?_|refine zJy ?_|refine zGv ?_|refine zBw ?_|refine zDx ?_|refine zBv ?_|refine zCx ?_|refine zEz ?_|refine zCw ?_|refine zCz ?_|refine zBz ?_|refine zDv ?_|refine zDy ?_|refine zAx ?_|refine zAv ?_)
  | refine zCv ?_|refine zEy rfl ?_|refine zIx ?_|refine zIv ?_
  | ((first|refine zGx rfl rfl rfl rfl rfl fun K_ hK_=>?_|refine zGy rfl rfl rfl rfl rfl fun K_ hK_=>?_);simp only [zAz,zDz,zFw,↓reduceIte,reduceCtorEq,Nat.reduceEqDiff,Bool.not_true,Bool.not_false];refine hK_ _ ?_;clear hK_ K_)
  | refine zDw (by decide) ?_
  | ((try first|refine zJx rfl rfl rfl ?_|refine zIy rfl rfl ?_|refine zJw rfl rfl rfl ?_|refine zIw rfl rfl ?_);(refine zIz fun Q_ hQ_=>?_;simp (disch:=first|omega|(simp only [List.length_cons,List.length_nil,List.length_append];omega)) only [bb,bp,zKx,↓reduceIte,reduceCtorEq,Nat.reduceEqDiff,Nat.reduceLT,Nat.reduceLeDiff,Nat.reduceAdd,Nat.reduceMul,Nat.reduceSub,Nat.reduceBEq,Int.reduceToNat,cond_true,cond_false,eq_self,beq_self_eq_true,g1,g6,g7,g8,g12,i1,x1,lenu,tEvU6,zHw,zRv,zNv,zAw wf];first|(refine zCy (Q:=Q_) (fun hp_=>?_) (fun hp_=>?_) <;> first|(exfalso;omega)|(refine hQ_ _ _ ?_;clear hQ_ Q_))|(refine zBy (Q:=Q_) (fun hp_=>?_) (fun hp_=>?_) <;> first|(exfalso;omega)|(refine hQ_ _ _ ?_;clear hQ_ Q_))|(refine hQ_ _ _ ?_;clear hQ_ Q_)))
  | (refine zFv fun K_ hK_=>?_;simp (disch:=omega) only [zFx,zAz,zGz,↓reduceIte,reduceCtorEq,Nat.reduceEqDiff,Nat.reduceLT];refine hK_ _ ?_;clear hK_ K_)))
            refine zKy (i+1) (by omega) ⟨hlt,by simp only [zAz,↓reduceIte,reduceCtorEq,Nat.reduceEqDiff];exact g1,by simp only [zAz,↓reduceIte,reduceCtorEq,Nat.reduceEqDiff];exact g6,by simp only [zAz,↓reduceIte,reduceCtorEq,Nat.reduceEqDiff];rw [Int.natCast_succ],rfl,G,w,rfl,hw1,hw2,.inr ⟨?_,j,_,by simp only [zAz,↓reduceIte,reduceCtorEq,Nat.reduceEqDiff];exact g7,hG,hfin _ (hR0.wid hln)⟩⟩
            rw [hft]
            simp
      · have hfin : ∀ R',RgsOf sp.length (gs++[l]) R'→RgsOf sp.length (fewLs ch (ls.take (i+1))) R':=fun R' r=>by rw [hft];exact r
        have hgs0 : ∀ l',l' ∈ gs → ∀ x ∈ l',Off x:=fun l' h'=>hgs l' (hsub l' (List.mem_append_left _ h'))
        clear hgs
        have hgs:=hgs0
        (repeat' (first
  | (with_reducible first|refine zJz ?_|refine zGw ?_|refine zEw ?_|refine zEx ?_|refine zEv ?_|refine zJy ?_|refine zGv ?_|refine zBw ?_|refine zDx ?_|refine zBv ?_|refine zCx ?_|refine zEz ?_|refine zCw ?_|refine zCz ?_|refine zBz ?_|refine zDv ?_|refine zDy ?_|refine zAx ?_|refine zAv ?_)
  | refine zCv ?_|refine zEy rfl ?_|refine zIx ?_|refine zIv ?_
  | ((first|refine zGx rfl rfl rfl rfl rfl fun K_ hK_=>?_|refine zGy rfl rfl rfl rfl rfl fun K_ hK_=>?_);simp only [zAz,zDz,zFw,↓reduceIte,reduceCtorEq,Nat.reduceEqDiff,Bool.not_true,Bool.not_false];refine hK_ _ ?_;clear hK_ K_)
  | refine zDw (by decide) ?_
  | ((try first|refine zJx rfl rfl rfl ?_|refine zIy rfl rfl ?_|refine zJw rfl rfl rfl ?_|refine zIw rfl rfl ?_);(refine zIz fun Q_ hQ_=>?_;simp (disch:=first|omega|(simp only [List.length_cons,List.length_nil,List.length_append];omega)) only [bb,bp,zKx,↓reduceIte,reduceCtorEq,Nat.reduceEqDiff,Nat.reduceLT,Nat.reduceLeDiff,Nat.reduceAdd,Nat.reduceMul,Nat.reduceSub,Nat.reduceBEq,Int.reduceToNat,cond_true,cond_false,eq_self,beq_self_eq_true,g1,g6,g7,g8,i1,x1,hms,hlen,eqnil22,tEvU6,zHw,zRv,zNv,zAw wf];first|(refine zCy (Q:=Q_) (fun hp_=>?_) (fun hp_=>?_) <;> first|(exfalso;omega)|(refine hQ_ _ _ ?_;clear hQ_ Q_))|(refine zBy (Q:=Q_) (fun hp_=>?_) (fun hp_=>?_) <;> first|(exfalso;omega)|(refine hQ_ _ _ ?_;clear hQ_ Q_))|(refine hQ_ _ _ ?_;clear hQ_ Q_)))
  | (refine zFv fun K_ hK_=>?_;simp (disch:=omega) only [zFx,zAz,zGz,↓reduceIte,reduceCtorEq,Nat.reduceEqDiff,Nat.reduceLT];refine hK_ _ ?_;clear hK_ K_)))
        have hw3:=hw1
        have hw4:=hw2
        refine zTv (fun (k:Nat) f d h'=>k≤sp.length∧f 1=ii ch∧f 6 = .sl (nx h idx) 0 vs.length cp 1∧f 7 = .sl (nx h (L0.length+j)) 0 sp.length none 2∧f 8=ii (i:Int)∧f 12=ii (k:Int)∧d=[] ∧ ∃ (G:List AO) (w:Nat),h'=X h (L0++G) w∧h.clock≤w∧w≤h.clock+(L0.length+G.length)∧G[j]? = some (.cells (zAy (zMx (wid R0 l k))) 51)) (fun k=>sp.length - k) ?_ (sp.length+1) 0 (by omega) ?_
        rotate_left 1
        · exact ⟨Nat.zero_le _,by simp only [zAz,↓reduceIte,reduceCtorEq,Nat.reduceEqDiff];exact g1,by simp only [zAz,↓reduceIte,reduceCtorEq,Nat.reduceEqDiff];exact g6,by simp only [zAz,↓reduceIte,reduceCtorEq,Nat.reduceEqDiff];first|exact g7|rfl,by simp only [zAz,↓reduceIte,reduceCtorEq,Nat.reduceEqDiff];exact g8,by simp only [zAz,↓reduceIte,reduceCtorEq,Nat.reduceEqDiff];rfl,rfl,_,_,rfl,hw3,hw4,hG⟩
        clear hw3 hw4 hG g1 g6 g7 g8
        rintro k f d h' ⟨hk,g1,g6,g7,g8,g12,rfl,G,w,rfl,hw1,hw2,hG⟩
        have hRk:(wid R0 l k).length=sp.length:=by rw [xRz];exact hR0.1
        by_cases hkn:k<sp.length
        · have ixk:=hixu k hkn
          have ldk:=hldu k hkn
          have ixo:=ix_22 (q:=nx h (L0.length+j)) (c:=none) hkn
          have hGL:(L0++G)[L0.length+j]? = some (.cells (zAy (zMx (wid R0 l k))) 51):=by rw [zLv];exact hG
          have sg:=zRy (sp:=wid R0 l k) (i:=k) (by omega)
          rw [zQy (by omega:k<(wid R0 l k).length),xNw R0 l k k (by rw [hR0.1];omega),if_neg (Nat.lt_irrefl k)] at sg
          have ld1 : ∀ w,load1 (nx h (L0.length+j)) (k * 2) (X h (L0++G) w)=some (ii (spot R0 k).1):=fun w=>by rw [zHx wf,hGL,zWx];exact sg.1
          have ld2 : ∀ w,load1 (nx h (L0.length+j)) (k * 2+1) (X h (L0++G) w)=some (ii (spot R0 k).2):=fun w=>by rw [zHx wf,hGL,zWx];exact sg.2
          have hwr : ∀ w (x y:Int),writeCells (nx h (L0.length+j)) (k * 2) [ii x,ii y] (X h (L0++G) w)=some (X h (L0++G.set j (.cells (zAy (zMx ((wid R0 l k).set k (x,y)))) 51)) (min (h.clock+(L0.length+j)) w)):=fun w x y=>by
            rw [zBx wf,hGL,zUx]
            rw [show allOne [ii x,ii y]=true from rfl,cond_true,if_pos (by rw [zUw,hRk];simp only [List.length_cons,List.length_nil];omega),yMv _ _ _ _ (by omega)]
            show some (X h ((L0++G).set (L0.length+j) _) _)=_
            rw [zNx]
          have hlk:=hlin k hkn
          have hr0:(∃ y,(spot R0 k).1=y∧Off y) ∧ ∃ y,(spot R0 k).2=y∧Off y:=by
            obtain ⟨⟨la,a1,a2⟩,⟨lb,b1,b2⟩,_⟩:=hR0.2 k hkn
            exact ⟨⟨_,rfl,hgs _ a1 _ (List.mem_of_getElem? a2)⟩,⟨_,rfl,hgs _ b1 _ (List.mem_of_getElem? b2)⟩⟩
          obtain ⟨⟨_,rfl,hra⟩,⟨_,rfl,hrb⟩⟩:=hr0
          have hws:wid R0 l (k+1)=(wid R0 l k).set k (min (spot R0 k).1 (l.getD k 0),max (spot R0 k).2 (l.getD k 0)):=rfl
          generalize hxa:(spot R0 k).1=xa at *
          generalize hxb:(spot R0 k).2=xb at *
          generalize hxl:l.getD k 0=xl at *
          (repeat' (first
  | (with_reducible first|refine zJz ?_|refine zGw ?_|refine zEw ?_|refine zEx ?_|refine zEv ?_|refine zJy ?_|refine zGv ?_|refine zBw ?_|refine zDx ?_|refine zBv ?_|refine zCx ?_|refine zEz ?_|refine zCw ?_|refine zCz ?_|refine zBz ?_|refine zDv ?_|refine zDy ?_|refine zAx ?_|refine zAv ?_)
  | refine zCv ?_|refine zEy rfl ?_|refine zIx ?_|refine zIv ?_
  | ((first|refine zGx rfl rfl rfl rfl rfl fun K_ hK_=>?_|refine zGy rfl rfl rfl rfl rfl fun K_ hK_=>?_);simp only [zAz,zDz,zFw,↓reduceIte,reduceCtorEq,Nat.reduceEqDiff,Bool.not_true,Bool.not_false];refine hK_ _ ?_;clear hK_ K_)
  | refine zDw (by decide) ?_
  | ((try first|refine zJx rfl rfl rfl ?_|refine zIy rfl rfl ?_|refine zJw rfl rfl rfl ?_|refine zIw rfl rfl ?_);(refine zIz fun Q_ hQ_=>?_;simp (disch:=first|omega|(simp only [List.length_cons,List.length_nil,List.length_append];omega)) only [bb,bp,zKx,↓reduceIte,reduceCtorEq,Nat.reduceEqDiff,Nat.reduceLT,Nat.reduceLeDiff,Nat.reduceAdd,Nat.reduceMul,Nat.reduceSub,Nat.reduceBEq,Int.reduceToNat,cond_true,cond_false,eq_self,beq_self_eq_true,g1,g6,g7,g8,g12,i1,x1,lenu,tEvU6,zHw,zRv,zNv,zAw wf];first|(refine zCy (Q:=Q_) (fun hp_=>?_) (fun hp_=>?_) <;> first|(exfalso;omega)|(refine hQ_ _ _ ?_;clear hQ_ Q_))|(refine zBy (Q:=Q_) (fun hp_=>?_) (fun hp_=>?_) <;> first|(exfalso;omega)|(refine hQ_ _ _ ?_;clear hQ_ Q_))|(refine hQ_ _ _ ?_;clear hQ_ Q_)))
  | (refine zFv fun K_ hK_=>?_;simp (disch:=omega) only [zFx,zAz,zGz,↓reduceIte,reduceCtorEq,Nat.reduceEqDiff,Nat.reduceLT];refine hK_ _ ?_;clear hK_ K_)))
          refine zNw [.no,.no,.no,.no,.no,.no,.no,.no,.no,.no,.no,.no,.no,.no,.no,.no,.no,.no,.no,.no,.no,.no,.no,.no,.no,.no,.no,.no,.full,.full,.full] (by kernel_rfl) ?_
          (repeat' (first
  | (with_reducible first|refine zJz ?_|refine zGw ?_|refine zEw ?_|refine zEx ?_|refine zEv ?_|refine zJy ?_|refine zGv ?_|refine zBw ?_|refine zDx ?_|refine zBv ?_|refine zCx ?_|refine zEz ?_|refine zCw ?_|refine zCz ?_|refine zBz ?_|refine zDv ?_|refine zDy ?_|refine zAx ?_|refine zAv ?_)
  | refine zCv ?_|refine zEy rfl ?_|refine zIx ?_|refine zIv ?_
  | ((first|refine zGx rfl rfl rfl rfl rfl fun K_ hK_=>?_|refine zGy rfl rfl rfl rfl rfl fun K_ hK_=>?_);simp only [zAz,zDz,zFw,↓reduceIte,reduceCtorEq,Nat.reduceEqDiff,Bool.not_true,Bool.not_false];refine hK_ _ ?_;clear hK_ K_)
  | refine zDw (by decide) ?_
  | ((try first|refine zJx rfl rfl rfl ?_|refine zIy rfl rfl ?_|refine zJw rfl rfl rfl ?_|refine zIw rfl rfl ?_);(refine zIz fun Q_ hQ_=>?_;simp (disch:=first|omega|(simp only [List.length_cons,List.length_nil,List.length_append];omega)) only [bb,bp,zKx,↓reduceIte,reduceCtorEq,Nat.reduceEqDiff,Nat.reduceLT,Nat.reduceLeDiff,Nat.reduceAdd,Nat.reduceMul,Nat.reduceSub,Nat.reduceBEq,Int.reduceToNat,cond_true,cond_false,eq_self,beq_self_eq_true,g1,g6,g7,g8,g12,i1,x1,lenu,ixk,ldk,ixo,ld1,ld2,hwr,tEvU6,zHw,zRv,zNv,zAw wf];first|(refine zCy (Q:=Q_) (fun hp_=>?_) (fun hp_=>?_) <;> first|(exfalso;omega)|(refine hQ_ _ _ ?_;clear hQ_ Q_))|(refine zBy (Q:=Q_) (fun hp_=>?_) (fun hp_=>?_) <;> first|(exfalso;omega)|(refine hQ_ _ _ ?_;clear hQ_ Q_))|(refine hQ_ _ _ ?_;clear hQ_ Q_)))
  | (refine zFv fun K_ hK_=>?_;simp (disch:=omega) only [zFx,zAz,zGz,↓reduceIte,reduceCtorEq,Nat.reduceEqDiff,Nat.reduceLT];refine hK_ _ ?_;clear hK_ K_)))
          refine zKy (k+1) (by omega) ⟨hkn,by simp only [zAz,↓reduceIte,reduceCtorEq,Nat.reduceEqDiff];exact g1,by simp only [zAz,↓reduceIte,reduceCtorEq,Nat.reduceEqDiff];exact g6,by simp only [zAz,↓reduceIte,reduceCtorEq,Nat.reduceEqDiff];exact g7,by simp only [zAz,↓reduceIte,reduceCtorEq,Nat.reduceEqDiff];exact g8,by simp only [zAz,↓reduceIte,reduceCtorEq,Nat.reduceEqDiff];rw [Int.natCast_succ],rfl,_,_,rfl,by omega,by rw [List.length_set];omega,by rw [List.getElem?_set_self (zHv hG),hws]⟩
        · have hke:k=sp.length:=by omega
          subst hke
          (repeat' (first
  | (with_reducible first|refine zJz ?_|refine zGw ?_|refine zEw ?_|refine zEx ?_|refine zEv ?_|refine zJy ?_|refine zGv ?_|refine zBw ?_|refine zDx ?_|refine zBv ?_|refine zCx ?_|refine zEz ?_|refine zCw ?_|refine zCz ?_|refine zBz ?_|refine zDv ?_|refine zDy ?_|refine zAx ?_|refine zAv ?_)
  | refine zCv ?_|refine zEy rfl ?_|refine zIx ?_|refine zIv ?_
  | ((first|refine zGx rfl rfl rfl rfl rfl fun K_ hK_=>?_|refine zGy rfl rfl rfl rfl rfl fun K_ hK_=>?_);simp only [zAz,zDz,zFw,↓reduceIte,reduceCtorEq,Nat.reduceEqDiff,Bool.not_true,Bool.not_false];refine hK_ _ ?_;clear hK_ K_)
  | refine zDw (by decide) ?_
  | ((try first|refine zJx rfl rfl rfl ?_|refine zIy rfl rfl ?_|refine zJw rfl rfl rfl ?_|refine zIw rfl rfl ?_);(refine zIz fun Q_ hQ_=>?_;simp (disch:=first|omega|(simp only [List.length_cons,List.length_nil,List.length_append];omega)) only [bb,bp,zKx,↓reduceIte,reduceCtorEq,Nat.reduceEqDiff,Nat.reduceLT,Nat.reduceLeDiff,Nat.reduceAdd,Nat.reduceMul,Nat.reduceSub,Nat.reduceBEq,Int.reduceToNat,cond_true,cond_false,eq_self,beq_self_eq_true,g1,g6,g7,g8,g12,i1,x1,lenu,tEvU6,zHw,zRv,zNv,zAw wf];first|(refine zCy (Q:=Q_) (fun hp_=>?_) (fun hp_=>?_) <;> first|(exfalso;omega)|(refine hQ_ _ _ ?_;clear hQ_ Q_))|(refine zBy (Q:=Q_) (fun hp_=>?_) (fun hp_=>?_) <;> first|(exfalso;omega)|(refine hQ_ _ _ ?_;clear hQ_ Q_))|(refine hQ_ _ _ ?_;clear hQ_ Q_)))
  | (refine zFv fun K_ hK_=>?_;simp (disch:=omega) only [zFx,zAz,zGz,↓reduceIte,reduceCtorEq,Nat.reduceEqDiff,Nat.reduceLT];refine hK_ _ ?_;clear hK_ K_)))
          refine zKy (i+1) (by omega) ⟨hlt,by simp only [zAz,↓reduceIte,reduceCtorEq,Nat.reduceEqDiff];exact g1,by simp only [zAz,↓reduceIte,reduceCtorEq,Nat.reduceEqDiff];exact g6,by simp only [zAz,↓reduceIte,reduceCtorEq,Nat.reduceEqDiff];rw [Int.natCast_succ],rfl,G,w,rfl,hw1,hw2,.inr ⟨?_,j,_,by simp only [zAz,↓reduceIte,reduceCtorEq,Nat.reduceEqDiff];exact g7,hG,hfin _ (hR0.wid hln)⟩⟩
          rw [hft]
          simp
    · rw [if_neg hfe,List.append_nil] at hft
      (repeat' (first
  | (with_reducible first|refine zJz ?_|refine zGw ?_|refine zEw ?_|refine zEx ?_|refine zEv ?_|refine zJy ?_|refine zGv ?_|refine zBw ?_|refine zDx ?_|refine zBv ?_|refine zCx ?_|refine zEz ?_|refine zCw ?_|refine zCz ?_|refine zBz ?_|refine zDv ?_|refine zDy ?_|refine zAx ?_|refine zAv ?_)
  | refine zCv ?_|refine zEy rfl ?_|refine zIx ?_|refine zIv ?_
  | ((first|refine zGx rfl rfl rfl rfl rfl fun K_ hK_=>?_|refine zGy rfl rfl rfl rfl rfl fun K_ hK_=>?_);simp only [zAz,zDz,zFw,↓reduceIte,reduceCtorEq,Nat.reduceEqDiff,Bool.not_true,Bool.not_false];refine hK_ _ ?_;clear hK_ K_)
  | refine zDw (by decide) ?_
  | ((try first|refine zJx rfl rfl rfl ?_|refine zIy rfl rfl ?_|refine zJw rfl rfl rfl ?_|refine zIw rfl rfl ?_);(refine zIz fun Q_ hQ_=>?_;simp (disch:=first|omega|(simp only [List.length_cons,List.length_nil,List.length_append];omega)) only [bb,bp,zKx,↓reduceIte,reduceCtorEq,Nat.reduceEqDiff,Nat.reduceLT,Nat.reduceLeDiff,Nat.reduceAdd,Nat.reduceMul,Nat.reduceSub,Nat.reduceBEq,Int.reduceToNat,cond_true,cond_false,eq_self,beq_self_eq_true,g1,g6,g7,g8,i1,x1,hms,hlen,tEvU6,zHw,zRv,zNv,zAw wf];first|(refine zCy (Q:=Q_) (fun hp_=>?_) (fun hp_=>?_) <;> first|(exfalso;omega)|(refine hQ_ _ _ ?_;clear hQ_ Q_))|(refine zBy (Q:=Q_) (fun hp_=>?_) (fun hp_=>?_) <;> first|(exfalso;omega)|(refine hQ_ _ _ ?_;clear hQ_ Q_))|(refine hQ_ _ _ ?_;clear hQ_ Q_)))
  | (refine zFv fun K_ hK_=>?_;simp (disch:=omega) only [zFx,zAz,zGz,↓reduceIte,reduceCtorEq,Nat.reduceEqDiff,Nat.reduceLT];refine hK_ _ ?_;clear hK_ K_)))
      exact zKy (i+1) (by omega) ⟨hlt,by simp only [zAz,↓reduceIte,reduceCtorEq,Nat.reduceEqDiff];exact g1,by simp only [zAz,↓reduceIte,reduceCtorEq,Nat.reduceEqDiff];exact g6,by simp only [zAz,↓reduceIte,reduceCtorEq,Nat.reduceEqDiff];rw [Int.natCast_succ],rfl,G,w,rfl,hw1,hw2,by rw [hft];simp only [zAz,↓reduceIte,reduceCtorEq,Nat.reduceEqDiff];rw [g7];exact hout⟩
  · have hie:i=ls.length:=by omega
    subst hie
    rw [List.take_length] at hout
    rcases hout with ⟨hg0,rfl⟩|⟨hgn,j,R0,rfl,hG,hR0⟩
    · (repeat' (first
  | (with_reducible first|refine zJz ?_|refine zGw ?_|refine zEw ?_|refine zEx ?_|refine zEv ?_|refine zJy ?_|refine zGv ?_|refine zBw ?_|refine zDx ?_|refine zBv ?_|refine zCx ?_|refine zEz ?_|refine zCw ?_|refine zCz ?_|refine zBz ?_|refine zDv ?_|refine zDy ?_|refine zAx ?_|refine zAv ?_)
  | refine zCv ?_|refine zEy rfl ?_|refine zIx ?_|refine zIv ?_
  | ((first|refine zGx rfl rfl rfl rfl rfl fun K_ hK_=>?_|refine zGy rfl rfl rfl rfl rfl fun K_ hK_=>?_);simp only [zAz,zDz,zFw,↓reduceIte,reduceCtorEq,Nat.reduceEqDiff,Bool.not_true,Bool.not_false];refine hK_ _ ?_;clear hK_ K_)
  | refine zDw (by decide) ?_
  | ((try first|refine zJx rfl rfl rfl ?_|refine zIy rfl rfl ?_|refine zJw rfl rfl rfl ?_|refine zIw rfl rfl ?_);(refine zIz fun Q_ hQ_=>?_;simp (disch:=first|omega|(simp only [List.length_cons,List.length_nil,List.length_append];omega)) only [bb,bp,zKx,↓reduceIte,reduceCtorEq,Nat.reduceEqDiff,Nat.reduceLT,Nat.reduceLeDiff,Nat.reduceAdd,Nat.reduceMul,Nat.reduceSub,Nat.reduceBEq,Int.reduceToNat,cond_true,cond_false,eq_self,beq_self_eq_true,g1,g6,g7,g8,hlen,eqnils,tEvU6,zHw,zRv,zNv,zAw wf];first|(refine zCy (Q:=Q_) (fun hp_=>?_) (fun hp_=>?_) <;> first|(exfalso;omega)|(refine hQ_ _ _ ?_;clear hQ_ Q_))|(refine zBy (Q:=Q_) (fun hp_=>?_) (fun hp_=>?_) <;> first|(exfalso;omega)|(refine hQ_ _ _ ?_;clear hQ_ Q_))|(refine hQ_ _ _ ?_;clear hQ_ Q_)))
  | (refine zFv fun K_ hK_=>?_;simp (disch:=omega) only [zFx,zAz,zGz,↓reduceIte,reduceCtorEq,Nat.reduceEqDiff,Nat.reduceLT];refine hK_ _ ?_;clear hK_ K_)))
      refine zJv _ _ rfl (ret2 (by decide) (by decide)) ?_
      simp only [zAz,↓reduceIte,reduceCtorEq,Nat.reduceEqDiff]
      refine zMw rfl hw1 ?_
      refine ⟨[],(X_self h).symm,.inr ⟨rfl,fun l hl=>?_⟩⟩
      have hm:=hmemls l hl
      rcases Int.lt_or_le ch (Cost cntI l) with h1|h1
      · exact h1
      · exfalso
        have:l ∈ fewLs ch ls:=List.mem_filter.2 ⟨hm,decide_eq_true h1⟩
        rw [hg0] at this
        cases this
    · (repeat' (first
  | (with_reducible first|refine zJz ?_|refine zGw ?_|refine zEw ?_|refine zEx ?_|refine zEv ?_|refine zJy ?_|refine zGv ?_|refine zBw ?_|refine zDx ?_|refine zBv ?_|refine zCx ?_|refine zEz ?_|refine zCw ?_|refine zCz ?_|refine zBz ?_|refine zDv ?_|refine zDy ?_|refine zAx ?_|refine zAv ?_)
  | refine zCv ?_|refine zEy rfl ?_|refine zIx ?_|refine zIv ?_
  | ((first|refine zGx rfl rfl rfl rfl rfl fun K_ hK_=>?_|refine zGy rfl rfl rfl rfl rfl fun K_ hK_=>?_);simp only [zAz,zDz,zFw,↓reduceIte,reduceCtorEq,Nat.reduceEqDiff,Bool.not_true,Bool.not_false];refine hK_ _ ?_;clear hK_ K_)
  | refine zDw (by decide) ?_
  | ((try first|refine zJx rfl rfl rfl ?_|refine zIy rfl rfl ?_|refine zJw rfl rfl rfl ?_|refine zIw rfl rfl ?_);(refine zIz fun Q_ hQ_=>?_;simp (disch:=first|omega|(simp only [List.length_cons,List.length_nil,List.length_append];omega)) only [bb,bp,zKx,↓reduceIte,reduceCtorEq,Nat.reduceEqDiff,Nat.reduceLT,Nat.reduceLeDiff,Nat.reduceAdd,Nat.reduceMul,Nat.reduceSub,Nat.reduceBEq,Int.reduceToNat,cond_true,cond_false,eq_self,beq_self_eq_true,g1,g6,g7,g8,hlen,eqnil22,tEvU6,zHw,zRv,zNv,zAw wf];first|(refine zCy (Q:=Q_) (fun hp_=>?_) (fun hp_=>?_) <;> first|(exfalso;omega)|(refine hQ_ _ _ ?_;clear hQ_ Q_))|(refine zBy (Q:=Q_) (fun hp_=>?_) (fun hp_=>?_) <;> first|(exfalso;omega)|(refine hQ_ _ _ ?_;clear hQ_ Q_))|(refine hQ_ _ _ ?_;clear hQ_ Q_)))
  | (refine zFv fun K_ hK_=>?_;simp (disch:=omega) only [zFx,zAz,zGz,↓reduceIte,reduceCtorEq,Nat.reduceEqDiff,Nat.reduceLT];refine hK_ _ ?_;clear hK_ K_)))
      refine zJv _ _ rfl (ret2 (by decide) (by decide)) ?_
      simp only [zAz,↓reduceIte,reduceCtorEq,Nat.reduceEqDiff]
      refine yCz (by
        show (_ && flat (.tup [.sl _ 0 _ none 2,_]))=false
        exact Bool.and_false _) ?_
      rw [Nat.min_eq_left (Nat.le_trans wf.wle hw1)]
      exact ⟨L0++G,rfl,.inl ⟨_,R0,rfl,by rw [zLv];exact hG,hR0.1,hfew R0 hR0⟩⟩
end Go.Proofs.YtkmdidplmfdikaaDoor
end

section
namespace Go.Proofs.YtkmdidplmfdikaaDoor
open Go.Ev
set_option maxRecDepth 100000
set_option linter.unusedSimpArgs false
set_option linter.unusedVariables false
set_option maxHeartbeats 4000000

theorem tEvU7 :type_of% (And.intro (And.intro (And.intro (And.intro (@zSv) (And.intro (@xNy) (@ia_2))) (And.intro (And.intro (@sz_2) (@ia_3)) (And.intro (@sz_3) (@zSy)))) (And.intro (And.intro (@zTx) (And.intro (@zRx) (@zSx))) (And.intro (And.intro (@zSz) (@zSw)) (And.intro (@zUz) (@wAw))))) (And.intro (And.intro (And.intro (@wBw) (And.intro (@zMy) (@zMz))) (And.intro (And.intro (@zLw) (@zLx)) (And.intro (@zOv) (@yKv)))) (And.intro (And.intro (And.intro (@yUx) (@pb_16)) (And.intro (@pb_25) (@pb_26))) (And.intro (And.intro (@pb_27) (@pb_9)) (And.intro (@yUv) (@xNz)))))):=And.intro (And.intro (And.intro (And.intro (@zSv) (And.intro (@xNy) (@ia_2))) (And.intro (And.intro (@sz_2) (@ia_3)) (And.intro (@sz_3) (@zSy)))) (And.intro (And.intro (@zTx) (And.intro (@zRx) (@zSx))) (And.intro (And.intro (@zSz) (@zSw)) (And.intro (@zUz) (@wAw))))) (And.intro (And.intro (And.intro (@wBw) (And.intro (@zMy) (@zMz))) (And.intro (And.intro (@zLw) (@zLx)) (And.intro (@zOv) (@yKv)))) (And.intro (And.intro (And.intro (@yUx) (@pb_16)) (And.intro (@pb_25) (@pb_26))) (And.intro (And.intro (@pb_27) (@pb_9)) (And.intro (@yUv) (@xNz)))))
noncomputable def spreadE (sp:List (Int × Int)) (turn ch:Int):Int:=if spotsR sp turn≠0 then spotsR sp turn else 3
theorem spreadBad (sp:List (Int × Int)) (turn ch:Int) (hn:sp.length≤1000000) (hbad:spotsR sp turn≠0∨ch<0) (a:AV) (h:H) (wf:Wf h) (hs:Sl h a 2 sp.length (zLy sp)) :
    (om Tryd.prog KK).call (.fn 25 [.agg [a,ii turn],ii ch]) h = .ok (.tup [.nils,ii (spreadE sp turn ch)]) h:=by
  have ha1:oneB a=true∧AV.cells a=[a]:=by obtain ⟨_,⟨rfl,_⟩|⟨_,_,_,_,_,_,rfl,_⟩⟩:=hs <;> exact ⟨rfl,rfl⟩
  have hCS : ∀ l w,w≤h.clock+l.length→(om Tryd.prog KK).call (.fn 14 [.agg [a,ii turn]]) (X h l w) = .ok (ii (spotsR sp turn)) (X h l w):=fun l w hw=>CheckSpots sp turn a hn _ (wf.X hw) (hs.up wf _ _)
  unfold spreadE
  by_cases hsp:spotsR sp turn=0
  · have hch:ch<0:=by rcases hbad with h|h;exact absurd hsp h;exact h
    rw [if_neg (fun h=>h hsp)]
    rw [hsp] at hCS
    refine zWv (zKv (fn:=Tryd.f25) Tryd.func25 rfl rfl rfl rfl rfl ?_)
    simp only [zKx]
    (repeat' (first
  | (with_reducible first|refine zJz ?_|refine zGw ?_|refine zEw ?_|refine zEx ?_|refine zEv ?_|refine zJy ?_|refine zGv ?_|refine zBw ?_|refine zDx ?_|refine zBv ?_|refine zCx ?_|refine zEz ?_|refine zCw ?_|refine zCz ?_|refine zBz ?_|refine zDv ?_|refine zDy ?_|refine zAx ?_|refine zAv ?_)
  | refine zCv ?_|refine zEy rfl ?_|refine zIx ?_|refine zIv ?_
  | ((first|refine zGx rfl rfl rfl rfl rfl fun K_ hK_=>?_|refine zGy rfl rfl rfl rfl rfl fun K_ hK_=>?_);simp only [zAz,zDz,zFw,↓reduceIte,reduceCtorEq,Nat.reduceEqDiff,Bool.not_true,Bool.not_false];refine hK_ _ ?_;clear hK_ K_)
  | refine zDw (by decide) ?_
  | ((try first|refine zJx rfl rfl rfl ?_|refine zIy rfl rfl ?_|refine zJw rfl rfl rfl ?_|refine zIw rfl rfl ?_);(refine zIz fun Q_ hQ_=>?_;simp (disch:=first|omega|(simp only [List.length_cons,List.length_nil,List.length_append];omega)) only [bb,bp,zKx,↓reduceIte,reduceCtorEq,Nat.reduceEqDiff,Nat.reduceLT,Nat.reduceLeDiff,Nat.reduceAdd,Nat.reduceMul,Nat.reduceSub,Nat.reduceBEq,Int.reduceToNat,cond_true,cond_false,eq_self,beq_self_eq_true,hCS,ha1.1,ha1.2,zHz wf,zHx wf,zFz wf,zHy wf,zBx wf,tEvU7,zHw,zNv,zRv,zAw wf];first|(refine zCy (Q:=Q_) (fun hp_=>?_) (fun hp_=>?_) <;> first|(exfalso;omega)|(refine hQ_ _ _ ?_;clear hQ_ Q_))|(refine zBy (Q:=Q_) (fun hp_=>?_) (fun hp_=>?_) <;> first|(exfalso;omega)|(refine hQ_ _ _ ?_;clear hQ_ Q_))|(refine hQ_ _ _ ?_;clear hQ_ Q_)))
  | (refine zFv fun K_ hK_=>?_;simp (disch:=omega) only [zFx,zAz,zGz,↓reduceIte,reduceCtorEq,Nat.reduceEqDiff,Nat.reduceLT];refine hK_ _ ?_;clear hK_ K_)))
    refine zJv _ _ rfl (ret2 (by decide) (by decide)) ?_
    simp only [zAz,↓reduceIte,reduceCtorEq,Nat.reduceEqDiff]
    refine zMw rfl (by omega) ?_
    exact ⟨rfl,rfl⟩
  · rw [if_pos hsp]
    generalize spotsR sp turn=e at *
    refine zWv (zKv (fn:=Tryd.f25) Tryd.func25 rfl rfl rfl rfl rfl ?_)
    simp only [zKx]
    (repeat' (first
  | (with_reducible first|refine zJz ?_|refine zGw ?_|refine zEw ?_|refine zEx ?_|refine zEv ?_|refine zJy ?_|refine zGv ?_|refine zBw ?_|refine zDx ?_|refine zBv ?_|refine zCx ?_|refine zEz ?_|refine zCw ?_|refine zCz ?_|refine zBz ?_|refine zDv ?_|refine zDy ?_|refine zAx ?_|refine zAv ?_)
  | refine zCv ?_|refine zEy rfl ?_|refine zIx ?_|refine zIv ?_
  | ((first|refine zGx rfl rfl rfl rfl rfl fun K_ hK_=>?_|refine zGy rfl rfl rfl rfl rfl fun K_ hK_=>?_);simp only [zAz,zDz,zFw,↓reduceIte,reduceCtorEq,Nat.reduceEqDiff,Bool.not_true,Bool.not_false];refine hK_ _ ?_;clear hK_ K_)
  | refine zDw (by decide) ?_
  | ((try first|refine zJx rfl rfl rfl ?_|refine zIy rfl rfl ?_|refine zJw rfl rfl rfl ?_|refine zIw rfl rfl ?_);(refine zIz fun Q_ hQ_=>?_;simp (disch:=first|omega|(simp only [List.length_cons,List.length_nil,List.length_append];omega)) only [bb,bp,zKx,↓reduceIte,reduceCtorEq,Nat.reduceEqDiff,Nat.reduceLT,Nat.reduceLeDiff,Nat.reduceAdd,Nat.reduceMul,Nat.reduceSub,Nat.reduceBEq,Int.reduceToNat,cond_true,cond_false,eq_self,beq_self_eq_true,hCS,ha1.1,ha1.2,zHz wf,zHx wf,zFz wf,zHy wf,zBx wf,tEvU7,zHw,zNv,zRv,zAw wf];first|(refine zCy (Q:=Q_) (fun hp_=>?_) (fun hp_=>?_) <;> first|(exfalso;omega)|(refine hQ_ _ _ ?_;clear hQ_ Q_))|(refine zBy (Q:=Q_) (fun hp_=>?_) (fun hp_=>?_) <;> first|(exfalso;omega)|(refine hQ_ _ _ ?_;clear hQ_ Q_))|(refine hQ_ _ _ ?_;clear hQ_ Q_)))
  | (refine zFv fun K_ hK_=>?_;simp (disch:=omega) only [zFx,zAz,zGz,↓reduceIte,reduceCtorEq,Nat.reduceEqDiff,Nat.reduceLT];refine hK_ _ ?_;clear hK_ K_)))
    refine zJv _ _ rfl (ret2 (by decide) (by decide)) ?_
    simp only [zAz,↓reduceIte,reduceCtorEq,Nat.reduceEqDiff]
    refine zMw rfl (by omega) ?_
    exact ⟨rfl,rfl⟩
theorem rSpreadBad (sp:List (Int × Int)) (turn ch:Int) (hn:sp.length≤1000000) (hbad:spotsR sp turn≠0∨ch<0) (a:AV) (h:H) (wf:Wf h) (hs:Sl h a 2 sp.length (zLy sp)) :
    (om Tryd.prog KK).call (.fn 26 [.agg [a,ii turn],ii ch]) h = .ok (.tup [.nils,ii (spreadE sp turn ch)]) h:=by
  have ha1:oneB a=true∧AV.cells a=[a]:=by obtain ⟨_,⟨rfl,_⟩|⟨_,_,_,_,_,_,rfl,_⟩⟩:=hs <;> exact ⟨rfl,rfl⟩
  have hCS : ∀ l w,w≤h.clock+l.length→(om Tryd.prog KK).call (.fn 15 [.agg [a,ii turn]]) (X h l w) = .ok (ii (spotsR sp turn)) (X h l w):=fun l w hw=>rCheckSpots sp turn a hn _ (wf.X hw) (hs.up wf _ _)
  unfold spreadE
  by_cases hsp:spotsR sp turn=0
  · have hch:ch<0:=by rcases hbad with h|h;exact absurd hsp h;exact h
    rw [if_neg (fun h=>h hsp)]
    rw [hsp] at hCS
    refine zWv (zKv (fn:=Tryd.f26) Tryd.func26 rfl rfl rfl rfl rfl ?_)
    simp only [zKx]
    (repeat' (first
  | (with_reducible first|refine zJz ?_|refine zGw ?_|refine zEw ?_|refine zEx ?_|refine zEv ?_|refine zJy ?_|refine zGv ?_|refine zBw ?_|refine zDx ?_|refine zBv ?_|refine zCx ?_|refine zEz ?_|refine zCw ?_|refine zCz ?_|refine zBz ?_|refine zDv ?_|refine zDy ?_|refine zAx ?_|refine zAv ?_)
  | refine zCv ?_|refine zEy rfl ?_|refine zIx ?_|refine zIv ?_
  | ((first|refine zGx rfl rfl rfl rfl rfl fun K_ hK_=>?_|refine zGy rfl rfl rfl rfl rfl fun K_ hK_=>?_);simp only [zAz,zDz,zFw,↓reduceIte,reduceCtorEq,Nat.reduceEqDiff,Bool.not_true,Bool.not_false];refine hK_ _ ?_;clear hK_ K_)
  | refine zDw (by decide) ?_
  | ((try first|refine zJx rfl rfl rfl ?_|refine zIy rfl rfl ?_|refine zJw rfl rfl rfl ?_|refine zIw rfl rfl ?_);(refine zIz fun Q_ hQ_=>?_;simp (disch:=first|omega|(simp only [List.length_cons,List.length_nil,List.length_append];omega)) only [bb,bp,zKx,↓reduceIte,reduceCtorEq,Nat.reduceEqDiff,Nat.reduceLT,Nat.reduceLeDiff,Nat.reduceAdd,Nat.reduceMul,Nat.reduceSub,Nat.reduceBEq,Int.reduceToNat,cond_true,cond_false,eq_self,beq_self_eq_true,hCS,ha1.1,ha1.2,zHz wf,zHx wf,zFz wf,zHy wf,zBx wf,tEvU7,zHw,zNv,zRv,zAw wf];first|(refine zCy (Q:=Q_) (fun hp_=>?_) (fun hp_=>?_) <;> first|(exfalso;omega)|(refine hQ_ _ _ ?_;clear hQ_ Q_))|(refine zBy (Q:=Q_) (fun hp_=>?_) (fun hp_=>?_) <;> first|(exfalso;omega)|(refine hQ_ _ _ ?_;clear hQ_ Q_))|(refine hQ_ _ _ ?_;clear hQ_ Q_)))
  | (refine zFv fun K_ hK_=>?_;simp (disch:=omega) only [zFx,zAz,zGz,↓reduceIte,reduceCtorEq,Nat.reduceEqDiff,Nat.reduceLT];refine hK_ _ ?_;clear hK_ K_)))
    refine zJv _ _ rfl (ret2 (by decide) (by decide)) ?_
    simp only [zAz,↓reduceIte,reduceCtorEq,Nat.reduceEqDiff]
    refine zMw rfl (by omega) ?_
    exact ⟨rfl,rfl⟩
  · rw [if_pos hsp]
    generalize spotsR sp turn=e at *
    refine zWv (zKv (fn:=Tryd.f26) Tryd.func26 rfl rfl rfl rfl rfl ?_)
    simp only [zKx]
    (repeat' (first
  | (with_reducible first|refine zJz ?_|refine zGw ?_|refine zEw ?_|refine zEx ?_|refine zEv ?_|refine zJy ?_|refine zGv ?_|refine zBw ?_|refine zDx ?_|refine zBv ?_|refine zCx ?_|refine zEz ?_|refine zCw ?_|refine zCz ?_|refine zBz ?_|refine zDv ?_|refine zDy ?_|refine zAx ?_|refine zAv ?_)
  | refine zCv ?_|refine zEy rfl ?_|refine zIx ?_|refine zIv ?_
  | ((first|refine zGx rfl rfl rfl rfl rfl fun K_ hK_=>?_|refine zGy rfl rfl rfl rfl rfl fun K_ hK_=>?_);simp only [zAz,zDz,zFw,↓reduceIte,reduceCtorEq,Nat.reduceEqDiff,Bool.not_true,Bool.not_false];refine hK_ _ ?_;clear hK_ K_)
  | refine zDw (by decide) ?_
  | ((try first|refine zJx rfl rfl rfl ?_|refine zIy rfl rfl ?_|refine zJw rfl rfl rfl ?_|refine zIw rfl rfl ?_);(refine zIz fun Q_ hQ_=>?_;simp (disch:=first|omega|(simp only [List.length_cons,List.length_nil,List.length_append];omega)) only [bb,bp,zKx,↓reduceIte,reduceCtorEq,Nat.reduceEqDiff,Nat.reduceLT,Nat.reduceLeDiff,Nat.reduceAdd,Nat.reduceMul,Nat.reduceSub,Nat.reduceBEq,Int.reduceToNat,cond_true,cond_false,eq_self,beq_self_eq_true,hCS,ha1.1,ha1.2,zHz wf,zHx wf,zFz wf,zHy wf,zBx wf,tEvU7,zHw,zNv,zRv,zAw wf];first|(refine zCy (Q:=Q_) (fun hp_=>?_) (fun hp_=>?_) <;> first|(exfalso;omega)|(refine hQ_ _ _ ?_;clear hQ_ Q_))|(refine zBy (Q:=Q_) (fun hp_=>?_) (fun hp_=>?_) <;> first|(exfalso;omega)|(refine hQ_ _ _ ?_;clear hQ_ Q_))|(refine hQ_ _ _ ?_;clear hQ_ Q_)))
  | (refine zFv fun K_ hK_=>?_;simp (disch:=omega) only [zFx,zAz,zGz,↓reduceIte,reduceCtorEq,Nat.reduceEqDiff,Nat.reduceLT];refine hK_ _ ?_;clear hK_ K_)))
    refine zJv _ _ rfl (ret2 (by decide) (by decide)) ?_
    simp only [zAz,↓reduceIte,reduceCtorEq,Nat.reduceEqDiff]
    refine zMw rfl (by omega) ?_
    exact ⟨rfl,rfl⟩

theorem lawSpreads (sp:List (Int × Int)) (turn ch:Int) (a:AV) (hca:Cape 2 a) (h:H) (wf:Wf h) (t:Tab h) (hs:Sl h a 2 sp.length (zLy sp)) :
    (om Tryd.prog KK).call (.fn 6 [.agg [a,ii turn],ii ch]) h = .ok (.bool true) h:=by
  have ha1:oneB a=true∧AV.cells a=[a]:=by obtain ⟨_,⟨rfl,_⟩|⟨_,_,_,_,_,_,rfl,_⟩⟩:=hs <;> exact ⟨rfl,rfl⟩
  have works' : ∀ l w,(om Tryd.prog KK).call (.fn 9 []) (X h l w) = .ok (.bool true) (X h l w):=fun l w=>works _ (t.up wf _ _)
  have hla : ∀ l w,w≤h.clock+l.length→(om Tryd.prog KK).call (.fn 16 [.agg [a,ii turn]]) (X h l w) = .ok (.bool (largeR sp turn)) (X h l w):=fun l w hw=>large sp turn a _ (wf.X hw) (hs.up wf _ _)
  refine zWv (zKv (fn:=Tryd.f6) Tryd.func6 rfl rfl rfl rfl rfl ?_)
  simp only [zKx]
  by_cases hlg:largeR sp turn=true
  · rw [hlg] at hla
    (repeat' (first
  | (with_reducible first|refine zJz ?_|refine zGw ?_|refine zEw ?_|refine zEx ?_|refine zEv ?_|refine zJy ?_|refine zGv ?_|refine zBw ?_|refine zDx ?_|refine zBv ?_|refine zCx ?_|refine zEz ?_|refine zCw ?_|refine zCz ?_|refine zBz ?_|refine zDv ?_|refine zDy ?_|refine zAx ?_|refine zAv ?_)
  | refine zCv ?_|refine zEy rfl ?_|refine zIx ?_|refine zIv ?_
  | ((first|refine zGx rfl rfl rfl rfl rfl fun K_ hK_=>?_|refine zGy rfl rfl rfl rfl rfl fun K_ hK_=>?_);simp only [zAz,zDz,zFw,↓reduceIte,reduceCtorEq,Nat.reduceEqDiff,Bool.not_true,Bool.not_false];refine hK_ _ ?_;clear hK_ K_)
  | refine zDw (by decide) ?_
  | ((try first|refine zJx rfl rfl rfl ?_|refine zIy rfl rfl ?_|refine zJw rfl rfl rfl ?_|refine zIw rfl rfl ?_);(refine zIz fun Q_ hQ_=>?_;simp (disch:=first|omega|(simp only [List.length_cons,List.length_nil,List.length_append];omega)) only [bb,bp,zKx,↓reduceIte,reduceCtorEq,Nat.reduceEqDiff,Nat.reduceLT,Nat.reduceLeDiff,Nat.reduceAdd,Nat.reduceMul,Nat.reduceSub,Nat.reduceBEq,Int.reduceToNat,cond_true,cond_false,eq_self,beq_self_eq_true,hla,works',ha1.1,ha1.2,zHz wf,zHx wf,zFz wf,zHy wf,zBx wf,tEvU7,zHw,zNv,zRv,zAw wf];first|(refine zCy (Q:=Q_) (fun hp_=>?_) (fun hp_=>?_) <;> first|(exfalso;omega)|(refine hQ_ _ _ ?_;clear hQ_ Q_))|(refine zBy (Q:=Q_) (fun hp_=>?_) (fun hp_=>?_) <;> first|(exfalso;omega)|(refine hQ_ _ _ ?_;clear hQ_ Q_))|(refine hQ_ _ _ ?_;clear hQ_ Q_)))
  | (refine zFv fun K_ hK_=>?_;simp (disch:=omega) only [zFx,zAz,zGz,↓reduceIte,reduceCtorEq,Nat.reduceEqDiff,Nat.reduceLT];refine hK_ _ ?_;clear hK_ K_)))
    (refine zJv _ _ rfl (ret1 (by decide)) ?_;simp only [zAz,↓reduceIte,reduceCtorEq,Nat.reduceEqDiff];refine zMw rfl (by omega) ?_)
    exact ⟨rfl,rfl⟩
  · have hlf:largeR sp turn=false:=by cases h:largeR sp turn with|false=>rfl|true=>exact absurd h hlg
    have hnl:=of_decide_eq_false hlf
    rw [hlf] at hla
    have h40:sp.length≤40:=by omega
    by_cases hbad:spotsR sp turn≠0∨ch<0
    · have e1 : ∀ l w,w≤h.clock+l.length→(om Tryd.prog KK).call (.fn 25 [.agg [a,ii turn],ii ch]) (X h l w) = .ok (.tup [.nils,ii (spreadE sp turn ch)]) (X h l w):=fun l w hw=>spreadBad sp turn ch (by omega) hbad a _ (wf.X hw) (hs.up wf _ _)
      have e2 : ∀ l w,w≤h.clock+l.length→(om Tryd.prog KK).call (.fn 26 [.agg [a,ii turn],ii ch]) (X h l w) = .ok (.tup [.nils,ii (spreadE sp turn ch)]) (X h l w):=fun l w hw=>rSpreadBad sp turn ch (by omega) hbad a _ (wf.X hw) (hs.up wf _ _)
      have e3 : ∀ l w,w≤h.clock+l.length→(om Tryd.prog KK).call (.fn 27 [.nils,.nils]) (X h l w) = .ok (.bool true) (X h l w):=fun l w hw=>ranges [] (by simp) .nils .nils _ (wf.X hw) (Sl.nil _ _) (Sl.nil _ _)
      generalize spreadE sp turn ch=ee at *
      (repeat' (first
  | (with_reducible first|refine zJz ?_|refine zGw ?_|refine zEw ?_|refine zEx ?_|refine zEv ?_|refine zJy ?_|refine zGv ?_|refine zBw ?_|refine zDx ?_|refine zBv ?_|refine zCx ?_|refine zEz ?_|refine zCw ?_|refine zCz ?_|refine zBz ?_|refine zDv ?_|refine zDy ?_|refine zAx ?_|refine zAv ?_)
  | refine zCv ?_|refine zEy rfl ?_|refine zIx ?_|refine zIv ?_
  | ((first|refine zGx rfl rfl rfl rfl rfl fun K_ hK_=>?_|refine zGy rfl rfl rfl rfl rfl fun K_ hK_=>?_);simp only [zAz,zDz,zFw,↓reduceIte,reduceCtorEq,Nat.reduceEqDiff,Bool.not_true,Bool.not_false];refine hK_ _ ?_;clear hK_ K_)
  | refine zDw (by decide) ?_
  | ((try first|refine zJx rfl rfl rfl ?_|refine zIy rfl rfl ?_|refine zJw rfl rfl rfl ?_|refine zIw rfl rfl ?_);(refine zIz fun Q_ hQ_=>?_;simp (disch:=first|omega|(simp only [List.length_cons,List.length_nil,List.length_append];omega)) only [bb,bp,zKx,↓reduceIte,reduceCtorEq,Nat.reduceEqDiff,Nat.reduceLT,Nat.reduceLeDiff,Nat.reduceAdd,Nat.reduceMul,Nat.reduceSub,Nat.reduceBEq,Int.reduceToNat,cond_true,cond_false,eq_self,beq_self_eq_true,hla,works',e1,e2,e3,ha1.1,ha1.2,zHz wf,zHx wf,zFz wf,zHy wf,zBx wf,tEvU7,zHw,zNv,zRv,zAw wf];first|(refine zCy (Q:=Q_) (fun hp_=>?_) (fun hp_=>?_) <;> first|(exfalso;omega)|(refine hQ_ _ _ ?_;clear hQ_ Q_))|(refine zBy (Q:=Q_) (fun hp_=>?_) (fun hp_=>?_) <;> first|(exfalso;omega)|(refine hQ_ _ _ ?_;clear hQ_ Q_))|(refine hQ_ _ _ ?_;clear hQ_ Q_)))
  | (refine zFv fun K_ hK_=>?_;simp (disch:=omega) only [zFx,zAz,zGz,↓reduceIte,reduceCtorEq,Nat.reduceEqDiff,Nat.reduceLT];refine hK_ _ ?_;clear hK_ K_)))
      (refine zJv _ _ rfl (ret1 (by decide)) ?_;simp only [zAz,↓reduceIte,reduceCtorEq,Nat.reduceEqDiff];refine zMw rfl (by omega) ?_)
      exact ⟨rfl,rfl⟩
    · have hs0:spotsR sp turn=0:=by rcases Classical.em (spotsR sp turn=0) with h|h;exact h;exact absurd (.inl h) hbad
      have hch:0≤ch:=by rcases Int.lt_or_le ch 0 with h|h;exact absurd (.inr h) hbad;exact h
      obtain ⟨n1,n24,hok,hturn⟩:=yYv hs0
      have hmy:manyM sp≤1500:=by
        rcases Int.lt_or_le 1500 (manyM sp) with h|h
        · exact absurd (.inr ⟨hs0,h⟩) hnl
        · exact h
      have hmL:manyL sp≤1500:=by
        have:=many_eq sp 1 hok ⟨by decide,by decide⟩ hmy
        unfold manyM at hmy
        omega
      obtain ⟨v1,h1,e1,hc1⟩:=spreadAll sp turn hs0 a hca ch hch (X h [.cells (zAy [a,ii turn]) 24] h.clock) (wf.X (by omega)) (t.up wf _ _) (hs.up wf _ _)
      rcases hc1 with ⟨L1,k1,R1,rfl,rfl,hk1,hl1,hR1⟩|⟨rfl,rfl,hno1⟩
      · rw [X_X,X_w,List.cons_append,List.nil_append,nx_X] at e1
        obtain ⟨v2,h2,e2,L2,rfl,hc2⟩:=rSpread sp turn hs0 hmL a ch hch (X h (.cells (zAy [a,ii turn]) 24 :: L1) h.clock) (wf.X (by omega)) (hs.up wf _ _)
        rcases hc2 with ⟨k2,R2,rfl,hk2,hl2,hR2⟩|⟨rfl,hno2⟩
        · rw [X_X,X_w,List.cons_append,nx_X] at e2
          have hRR:R1=R2:=spots_eq (by rw [hl1,hl2]) fun i hi=>fewR_uniq (hR1 i (by omega)) (hR2 i (by omega))
          subst hRR
          have hG1:(AO.cells (zAy [a,ii turn]) 24 :: (L1++L2))[1+k1]? = some (.cells (zAy (zMx R1)) 51):=by
            rw [Nat.add_comm,List.getElem?_cons_succ,List.getElem?_append_left (zHv hk1)];exact hk1
          have hG2:(AO.cells (zAy [a,ii turn]) 24 :: (L1++L2))[L1.length+1+k2]? = some (.cells (zAy (zMx R1)) 51):=by
            rw [show L1.length+1+k2=(L1.length+k2)+1 by omega,List.getElem?_cons_succ,zLv];exact hk2
          have s1:=Sl.new (w:=h.clock) wf (cap:=none) (esz:=2) (m:=2) (len:=sp.length) (by rw [zUw,hl1]) hG1
          have s2:=Sl.new (w:=h.clock) wf (cap:=none) (esz:=2) (m:=2) (len:=sp.length) (by rw [zUw,hl1]) hG2
          have e3:=ranges R1 (by omega) _ _ _ (wf.X (l:=.cells (zAy [a,ii turn]) 24 :: (L1++L2)) (w:=h.clock) (by omega)) (by rw [hl1];exact s1) (by rw [hl1];exact s2)
          (repeat' (first
  | (with_reducible first|refine zJz ?_|refine zGw ?_|refine zEw ?_|refine zEx ?_|refine zEv ?_|refine zJy ?_|refine zGv ?_|refine zBw ?_|refine zDx ?_|refine zBv ?_|refine zCx ?_|refine zEz ?_|refine zCw ?_|refine zCz ?_|refine zBz ?_|refine zDv ?_|refine zDy ?_|refine zAx ?_|refine zAv ?_)
  | refine zCv ?_|refine zEy rfl ?_|refine zIx ?_|refine zIv ?_
  | ((first|refine zGx rfl rfl rfl rfl rfl fun K_ hK_=>?_|refine zGy rfl rfl rfl rfl rfl fun K_ hK_=>?_);simp only [zAz,zDz,zFw,↓reduceIte,reduceCtorEq,Nat.reduceEqDiff,Bool.not_true,Bool.not_false];refine hK_ _ ?_;clear hK_ K_)
  | refine zDw (by decide) ?_
  | ((try first|refine zJx rfl rfl rfl ?_|refine zIy rfl rfl ?_|refine zJw rfl rfl rfl ?_|refine zIw rfl rfl ?_);(refine zIz fun Q_ hQ_=>?_;simp (disch:=first|omega|(simp only [List.length_cons,List.length_nil,List.length_append];omega)) only [bb,bp,zKx,↓reduceIte,reduceCtorEq,Nat.reduceEqDiff,Nat.reduceLT,Nat.reduceLeDiff,Nat.reduceAdd,Nat.reduceMul,Nat.reduceSub,Nat.reduceBEq,Int.reduceToNat,cond_true,cond_false,eq_self,beq_self_eq_true,hla,works',e1,e2,e3,ha1.1,ha1.2,zHz wf,zHx wf,zFz wf,zHy wf,zBx wf,tEvU7,zHw,zNv,zRv,zAw wf];first|(refine zCy (Q:=Q_) (fun hp_=>?_) (fun hp_=>?_) <;> first|(exfalso;omega)|(refine hQ_ _ _ ?_;clear hQ_ Q_))|(refine zBy (Q:=Q_) (fun hp_=>?_) (fun hp_=>?_) <;> first|(exfalso;omega)|(refine hQ_ _ _ ?_;clear hQ_ Q_))|(refine hQ_ _ _ ?_;clear hQ_ Q_)))
  | (refine zFv fun K_ hK_=>?_;simp (disch:=omega) only [zFx,zAz,zGz,↓reduceIte,reduceCtorEq,Nat.reduceEqDiff,Nat.reduceLT];refine hK_ _ ?_;clear hK_ K_)))
          (refine zJv _ _ rfl (ret1 (by decide)) ?_;simp only [zAz,↓reduceIte,reduceCtorEq,Nat.reduceEqDiff];refine zMw rfl (by omega) ?_)
          exact ⟨rfl,rfl⟩
        · exfalso
          obtain ⟨l,h1,h2,h3⟩:=(hR1 0 (by omega)).1
          have:=hno2 l h1
          omega
      · obtain ⟨v2,h2,e2,L2,rfl,hc2⟩:=rSpread sp turn hs0 hmL a ch hch (X h [.cells (zAy [a,ii turn]) 24] h.clock) (wf.X (by omega)) (hs.up wf _ _)
        rcases hc2 with ⟨k2,R2,rfl,hk2,hl2,hR2⟩|⟨rfl,hno2⟩
        · exfalso
          obtain ⟨l,h1,h2,h3⟩:=(hR2 0 (by omega)).1
          have:=hno1 l h1
          omega
        · rw [X_X,X_w,List.cons_append,List.nil_append] at e2
          have e3 : ∀ l w,w≤h.clock+l.length→(om Tryd.prog KK).call (.fn 27 [.nils,.nils]) (X h l w) = .ok (.bool true) (X h l w):=fun l w hw=>ranges [] (by simp) .nils .nils _ (wf.X hw) (Sl.nil _ _) (Sl.nil _ _)
          (repeat' (first
  | (with_reducible first|refine zJz ?_|refine zGw ?_|refine zEw ?_|refine zEx ?_|refine zEv ?_|refine zJy ?_|refine zGv ?_|refine zBw ?_|refine zDx ?_|refine zBv ?_|refine zCx ?_|refine zEz ?_|refine zCw ?_|refine zCz ?_|refine zBz ?_|refine zDv ?_|refine zDy ?_|refine zAx ?_|refine zAv ?_)
  | refine zCv ?_|refine zEy rfl ?_|refine zIx ?_|refine zIv ?_
  | ((first|refine zGx rfl rfl rfl rfl rfl fun K_ hK_=>?_|refine zGy rfl rfl rfl rfl rfl fun K_ hK_=>?_);simp only [zAz,zDz,zFw,↓reduceIte,reduceCtorEq,Nat.reduceEqDiff,Bool.not_true,Bool.not_false];refine hK_ _ ?_;clear hK_ K_)
  | refine zDw (by decide) ?_
  | ((try first|refine zJx rfl rfl rfl ?_|refine zIy rfl rfl ?_|refine zJw rfl rfl rfl ?_|refine zIw rfl rfl ?_);(refine zIz fun Q_ hQ_=>?_;simp (disch:=first|omega|(simp only [List.length_cons,List.length_nil,List.length_append];omega)) only [bb,bp,zKx,↓reduceIte,reduceCtorEq,Nat.reduceEqDiff,Nat.reduceLT,Nat.reduceLeDiff,Nat.reduceAdd,Nat.reduceMul,Nat.reduceSub,Nat.reduceBEq,Int.reduceToNat,cond_true,cond_false,eq_self,beq_self_eq_true,hla,works',e1,e2,e3,ha1.1,ha1.2,zHz wf,zHx wf,zFz wf,zHy wf,zBx wf,tEvU7,zHw,zNv,zRv,zAw wf];first|(refine zCy (Q:=Q_) (fun hp_=>?_) (fun hp_=>?_) <;> first|(exfalso;omega)|(refine hQ_ _ _ ?_;clear hQ_ Q_))|(refine zBy (Q:=Q_) (fun hp_=>?_) (fun hp_=>?_) <;> first|(exfalso;omega)|(refine hQ_ _ _ ?_;clear hQ_ Q_))|(refine hQ_ _ _ ?_;clear hQ_ Q_)))
  | (refine zFv fun K_ hK_=>?_;simp (disch:=omega) only [zFx,zAz,zGz,↓reduceIte,reduceCtorEq,Nat.reduceEqDiff,Nat.reduceLT];refine hK_ _ ?_;clear hK_ K_)))
          (refine zJv _ _ rfl (ret1 (by decide)) ?_;simp only [zAz,↓reduceIte,reduceCtorEq,Nat.reduceEqDiff];refine zMw rfl (by omega) ?_)
          exact ⟨rfl,rfl⟩
end Go.Proofs.YtkmdidplmfdikaaDoor
end

section
namespace Go.Proofs.YtkmdidplmfdikaaDoor
open Go.Ev
theorem mixed :Tryd.prog.follows .mixedOrders=true:=Checked.mixed Tryd.checked
theorem xBy {n:Nat} {c:Con} (h:chk c ((evc Tryd.prog [] n).call (.fn c.g c.args) (smallH c.tb))=true):ConOK Tryd.prog c:=
  con_run (P:=Tryd.prog) mixed (cons:=[]) (fun _ h=>by cases h) (n:=n) (c:=c) h
end Go.Proofs.YtkmdidplmfdikaaDoor
end

section

namespace Go.Proofs.YtkmdidplmfdikaaDoor
open Go.Ev
noncomputable def cS0 :Con:=⟨25,[(.agg [(.sl (.i (.o (.o (.o (.o (.o .e)))))) 0 5 (some 5) 2),(.int .i64 100)]),(.int .i64 0)],[(.e,[(.int .i64 1099511627776),(.int .i64 1099511627776),(.int .i64 1099511627776)]),((.i (.o (.o (.o (.o (.o .e)))))),[(.int .i64 0),(.int .i64 0),(.int .i64 2),(.int .i64 3),(.int .i64 4),(.int .i64 4),(.int .i64 5),(.int .i64 7),(.int .i64 10),(.int .i64 10)])],(.tup [(.sl (.o (.o (.i (.o (.o (.o (.o .e))))))) 0 5 none 2),(.int .i64 0)]),[((.o (.o (.i (.o (.o (.o (.o .e))))))),[(.int .i64 0),(.int .i64 0),(.int .i64 2),(.int .i64 2),(.int .i64 4),(.int .i64 4),(.int .i64 6),(.int .i64 7),(.int .i64 10),(.int .i64 10)],51)]⟩
set_option maxRecDepth 100000
set_option maxHeartbeats 0
theorem cS0_run :chk cS0 ((evc Tryd.prog [] 100000).call (.fn cS0.g cS0.args) (smallH cS0.tb))=true:=by kernel_rfl
theorem cS0_ok :ConOK Tryd.prog cS0:=xBy (n:=100000) (c:=cS0) cS0_run
end Go.Proofs.YtkmdidplmfdikaaDoor
end

section

namespace Go.Proofs.YtkmdidplmfdikaaDoor
open Go.Ev
noncomputable def cF1 :Con:=⟨17,[(.agg [(.sl (.i (.o (.o (.o (.o (.o .e)))))) 0 5 (some 5) 2),(.int .i64 100)])],[(.e,[(.int .i64 1099511627776),(.int .i64 1099511627776),(.int .i64 1099511627776)]),((.i (.o (.o (.o (.o (.o .e)))))),[(.int .i64 0),(.int .i64 0),(.int .i64 2),(.int .i64 3),(.int .i64 4),(.int .i64 4),(.int .i64 5),(.int .i64 7),(.int .i64 10),(.int .i64 10)])],(.tup [(.sl (.i (.o (.o (.o (.o (.i (.o (.i .e)))))))) 0 5 none 1),(.int .i64 1),(.int .i64 0)]),[((.i (.o (.o (.o (.o (.i (.o (.i .e)))))))),[(.int .i64 0),(.int .i64 2),(.int .i64 4),(.int .i64 7),(.int .i64 10)],2)]⟩
set_option maxRecDepth 100000
set_option maxHeartbeats 0
theorem cF1_run :chk cF1 ((evc Tryd.prog [] 100000).call (.fn cF1.g cF1.args) (smallH cF1.tb))=true:=by kernel_rfl
theorem cF1_ok :ConOK Tryd.prog cF1:=xBy (n:=100000) (c:=cF1) cF1_run
end Go.Proofs.YtkmdidplmfdikaaDoor
end

section

namespace Go.Proofs.YtkmdidplmfdikaaDoor
open Go.Ev
noncomputable def cL :Con:=⟨23,[(.agg [(.sl (.i (.o (.o (.o (.o (.o .e)))))) 0 5 (some 5) 2),(.int .i64 100)])],[(.e,[(.int .i64 1099511627776),(.int .i64 1099511627776),(.int .i64 1099511627776)]),((.i (.o (.o (.o (.o (.o .e)))))),[(.int .i64 0),(.int .i64 0),(.int .i64 2),(.int .i64 3),(.int .i64 4),(.int .i64 4),(.int .i64 5),(.int .i64 7),(.int .i64 10),(.int .i64 10)])],(.tup [(.sl (.i (.i (.o (.i (.i (.i (.i (.i .e)))))))) 0 30 none 1),(.int .i64 0)]),[((.i (.i (.o (.i (.i (.i (.i (.i .e)))))))),[(.int .i64 0),(.int .i64 1099511627776),(.int .i64 1099511627776),(.int .i64 0),(.int .i64 1099511627776),(.int .i64 1099511627776),(.int .i64 0),(.int .i64 1099511627776),(.int .i64 1099511627776),(.int .i64 1099511627776),(.int .i64 1099511627776),(.int .i64 2),(.int .i64 1099511627776),(.int .i64 1099511627776),(.int .i64 1),(.int .i64 0),(.int .i64 103),(.int .i64 1099511627776),(.int .i64 1099511627776),(.int .i64 1),(.int .i64 1099511627776),(.int .i64 1099511627776),(.int .i64 105),(.int .i64 1099511627776),(.int .i64 1099511627776),(.int .i64 2),(.int .i64 1099511627776),(.int .i64 1099511627776),(.int .i64 1),(.int .i64 1099511627776)],2)]⟩
set_option maxRecDepth 100000
set_option maxHeartbeats 0
theorem cL_run :chk cL ((evc Tryd.prog [] 100000).call (.fn cL.g cL.args) (smallH cL.tb))=true:=by kernel_rfl
theorem cL_ok :ConOK Tryd.prog cL:=xBy (n:=100000) (c:=cL) cL_run
end Go.Proofs.YtkmdidplmfdikaaDoor
end

section

namespace Go.Proofs.YtkmdidplmfdikaaDoor
open Go.Ev
noncomputable def cC1 :Con:=⟨21,[(.agg [(.sl (.i (.o (.o (.o (.o (.o .e)))))) 0 5 (some 5) 2),(.int .i64 100)]),(.sl (.o (.i (.o (.o (.o (.o .e)))))) 0 30 none 1)],[(.e,[(.int .i64 1099511627776),(.int .i64 1099511627776),(.int .i64 1099511627776)]),((.i (.o (.o (.o (.o (.o .e)))))),[(.int .i64 0),(.int .i64 0),(.int .i64 2),(.int .i64 3),(.int .i64 4),(.int .i64 4),(.int .i64 5),(.int .i64 7),(.int .i64 10),(.int .i64 10)]),((.o (.i (.o (.o (.o (.o .e)))))),[(.int .i64 0),(.int .i64 1099511627776),(.int .i64 1099511627776),(.int .i64 0),(.int .i64 1099511627776),(.int .i64 1099511627776),(.int .i64 0),(.int .i64 1099511627776),(.int .i64 1099511627776),(.int .i64 1099511627776),(.int .i64 1099511627776),(.int .i64 2),(.int .i64 1099511627776),(.int .i64 1099511627776),(.int .i64 1),(.int .i64 0),(.int .i64 103),(.int .i64 1099511627776),(.int .i64 1099511627776),(.int .i64 1),(.int .i64 1099511627776),(.int .i64 1099511627776),(.int .i64 105),(.int .i64 1099511627776),(.int .i64 1099511627776),(.int .i64 2),(.int .i64 1099511627776),(.int .i64 1099511627776),(.int .i64 1),(.int .i64 1099511627776)])],(.tup [(.int .i64 1),(.int .i64 0)]),[]⟩
set_option maxRecDepth 100000
set_option maxHeartbeats 0
theorem cC1_run :chk cC1 ((evc Tryd.prog [] 100000).call (.fn cC1.g cC1.args) (smallH cC1.tb))=true:=by kernel_rfl
theorem cC1_ok :ConOK Tryd.prog cC1:=xBy (n:=100000) (c:=cC1) cC1_run
end Go.Proofs.YtkmdidplmfdikaaDoor
end

section
namespace Go.Proofs.YtkmdidplmfdikaaDoor
open Go.Ev
set_option maxRecDepth 100000
set_option maxHeartbeats 0
theorem cW_run :chk cW ((evc Tryd.prog [cS0,cF1,cL,cC1] 100000).call (.fn cW.g cW.args) (smallH cW.tb))=true:=by kernel_rfl
theorem cW_ok :ConOK Tryd.prog cW:=con_run (P:=Tryd.prog) mixed (cons:=[cS0,cF1,cL,cC1]) (n:=100000) (c:=cW) (fun _ h=>by
  simp only [List.mem_cons,List.not_mem_nil,or_false] at h
  rcases h with rfl|rfl|rfl|rfl
  · exact cS0_ok
  · exact cF1_ok
  · exact cL_ok
  · exact cC1_ok) cW_run
end Go.Proofs.YtkmdidplmfdikaaDoor
end

section
namespace Go.Proofs.YtkmdidplmfdikaaDoor.fairSpreads
open Go.ChangeShapes Go.WideShapes Go.ChangeAt Go.RowKit Go.Ev
set_option maxRecDepth 100000
set_option maxHeartbeats 0

theorem own : ownKnob Tryd.prog.godebug = none := by kernel_rfl
theorem laidOut : laidOutB Tryd.prog = true := by kernel_rfl
theorem gTab : Tryd.prog.globalNamed "tumblehome/fair.none" = some 0 := by kernel_rfl
theorem gTabType : (Tryd.prog.globals[0]?).map (·.type) = some 109 := by kernel_rfl
theorem cells109 : Tryd.prog.cellsOf 109 = 3 := by kernel_rfl
theorem cells2 : Tryd.prog.cellsOf 2 = 1 := by kernel_rfl
theorem cells22 : Tryd.prog.cellsOf 22 = 1 := by kernel_rfl
theorem cells24 : Tryd.prog.cellsOf 24 = 2 := by kernel_rfl
theorem cells51 : Tryd.prog.cellsOf 51 = 2 := by kernel_rfl
theorem types24 : Tryd.prog.cellTypes Tryd.prog.depth 24 = some [22, 2] := by kernel_rfl
theorem under24 : ∃ f0 f1 : Field, Tryd.prog.underlying 24 = some (.struct #[f0, f1]) ∧ f0.offset = 0 ∧ f1.offset = 1 ∧ f0.type = 22 ∧ f1.type = 2 := ⟨_, _, Tryd.underlying24, rfl, rfl, rfl, rfl⟩
theorem under51 : ∃ f0 f1 : Field, Tryd.prog.underlying 51 = some (.struct #[f0, f1]) ∧ f0.offset = 0 ∧ f1.offset = 1 ∧ f0.type = 2 ∧ f1.type = 2 := ⟨_, _, Tryd.underlying51, rfl, rfl, rfl, rfl⟩

theorem table {W : World} (h : laidMetH Tryd.prog Rows.fairSpreadsRow.laid W) : Lib.TabIs Tryd.prog W "tumblehome/fair.none" .i64 [1099511627776, 1099511627776, 1099511627776] :=
  Lib.tabIs_of_head (rest := []) gTab gTabType Tryd.underlying109 Tryd.underlying2 cells2 cells109 h
theorem tab {W : World} (h : laidMetH Tryd.prog Rows.fairSpreadsRow.laid W) : Tab (startW W) := by
  have t := table h
  have c0 : W.cell? ⟨0, 0, none⟩ = some (.int .i64 1099511627776) := t.cell gTab 0 (by decide)
  have c1 : W.cell? ⟨0, 1, none⟩ = some (.int .i64 1099511627776) := t.cell gTab 1 (by decide)
  have c2 : W.cell? ⟨0, 2, none⟩ = some (.int .i64 1099511627776) := t.cell gTab 2 (by decide)
  obtain ⟨c, e, f, h0, g0⟩ := yTw c0
  obtain ⟨_, _, _, h1, g1⟩ := yTw c1
  obtain ⟨_, _, _, h2, g2⟩ := yTw c2
  rw [h0] at h1 h2
  cases h1
  cases h2
  exact ⟨_, xGw h0, by show (c[0]?).bind _ = _; rw [g0]; rfl, by show (c[1]?).bind _ = _; rw [g1]; rfl, by show (c[2]?).bind _ = _; rw [g2]; rfl⟩

theorem okWideInt {W : World} {t : TypeId} {v : Value} {r : Reach} {bs : Nat} (hu : Tryd.prog.underlying t = some (.int .i64)) (h : Cell.okWide Tryd.prog W r bs t v) : ∃ n, v = .int .i64 n := by
  unfold Cell.okWide at h
  rw [hu] at h
  have h' : Cell.ok Tryd.prog W r bs t v := by cases v <;> exact h
  unfold Cell.ok at h'
  rw [hu] at h'
  cases v with
  | int k' n =>
    obtain ⟨rfl, h1, h2⟩ := h'
    exact ⟨n, rfl⟩
  | _ => exact h'.elim
theorem trodAll_two' {H : Type} {enc : TypeId × Value → H} {P : Program} {w : World} {base : Nat} {spare : Nat → Bool} {held : Bool} {t0 t1 : TypeId} {args : Array Value} {ds : List (DataW H)} {ps : List MemPlace} (h : DataW.TrodAll enc P w base spare held [t0, t1] args.toList ds ps) :
    ∃ v0 v1 d0 d1 p0 p1, args = #[v0, v1] ∧ ds = [d0, d1] ∧ DataW.Trod enc P w base spare held t0 v0 d0 p0 ∧ DataW.Trod enc P w base spare held t1 v1 d1 p1 := by
  obtain ⟨v0, vs, d0, ds', p, q, hargs, rfl, rfl, hd0, hrest⟩ := trodAll_cons h
  obtain ⟨v1, vs', d1, ds'', p', q', rfl, rfl, rfl, hd1, hrest'⟩ := trodAll_cons hrest
  obtain ⟨rfl, rfl, rfl⟩ := trodAll_nil hrest'
  exact ⟨v0, v1, d0, d1, _, _, by cases args; simp_all, rfl, hd0, hd1⟩
theorem contract (H : Type) (enc : TypeId × Value → H) (W : World) (base : Nat) (args : Array Value) (ds gs : List (DataW H)) (before : List MemPlace) (hval : ∀ (j : Nat) t v, Tryd.f6.params[j]? = some t → args[j]? = some v → Value.okWide Tryd.prog W .any base t v)
    (hW : DataW.Whole enc Tryd.prog Tryd.f6.params.toList Rows.fairSpreadsSpec.vars false W args.toList ds gs before) (hL : laidMetH Tryd.prog Rows.fairSpreadsRow.laid W) :
    Calls Tryd.prog 6 args W fun e W' => ∃ v, e = .returned v ∧ Rows.fairSpreadsSpec.post enc Tryd.prog Tryd.f6 false true false false W args v W' := by
  have hW' := hW
  obtain ⟨p, q, hA0, hV, rfl, hfz, hnd⟩ := hW
  have hA : DataW.TrodAll enc Tryd.prog W 0 (fun _ => true) true Tryd.f6.params.toList args.toList ds p := hA0
  rw [Tryd.params6] at hA hval
  obtain ⟨v0, v1, d0, d1, p0, p1, rfl, rfl, ⟨n0, h0⟩, ⟨n1, h1⟩⟩ := trodAll_two' hA
  obtain ⟨ch, hz⟩ := okWideInt Tryd.underlying3 (okWide_cell (P := Tryd.prog) Tryd.underlying3 (fun _ e => by cases e) (fun _ _ e => by cases e) (hval 1 3 v1 rfl rfl))
  subst hz
  obtain ⟨f0, f1, hu, o0, o1, t0, t1⟩ := under24
  obtain ⟨g0, g1, hg, go0, go1, gt0, gt1⟩ := under51
  obtain ⟨u, w, n, y, z, rfl, k0, k1, r0, r1⟩ := open_two hu cells24 o0 o1 t0 t1 cells22 cells2 types24 (hval 0 24 v0 rfl rfl) h0
  obtain ⟨turn, hz, _⟩ := DataW.trod_int Tryd.underlying2 r1
  cases hz
  obtain ⟨sp, a, va, ca, sa⟩ := open_pairs Tryd.underlying22 hg cells51 go0 go1 gt0 gt1 Tryd.underlying2 cells2 k0 r0
  have walk := lawSpreads sp turn ch a (ca.cape 2) (startW W) (startW_wf W) (tab hL) sa
  have hargs : VL (startWR W) [.agg [a, .int .i64 turn], .int .i64 ch] (#[.agg #[u, .int .i64 turn], .int .i64 ch] : Array Value).toList :=
    .cons _ _ _ _ (.agg _ _ (.cons _ _ _ _ va (.cons _ _ _ _ (.int _ _) .nil))) (.cons _ _ _ _ (.int _ _) .nil)
  refine (startW_true (P := Tryd.prog) mixed (K := KK) (fun c hc => by
    have : c = cW := List.mem_singleton.1 hc
    rw [this]; exact cW_ok) walk hargs).mono fun e W' ⟨he, hgr, hs⟩ => ?_
  subst he
  refine ⟨_, rfl, law_post laidOut (by rw [Tryd.params6]; intro t ht; rcases List.mem_cons.1 ht with rfl | ht; exact ⟨by kernel_rfl, of_decide_eq_true (by kernel_rfl)⟩; rcases List.mem_cons.1 ht with rfl | ht; exact ⟨by kernel_rfl, of_decide_eq_true (by kernel_rfl)⟩; cases ht) rfl (by kernel_rfl) Tryd.underlying4 (fun gs' ⟨q', hq⟩ => ?_) hW' hgr hs⟩
  obtain ⟨rfl, _⟩ := trodVars_none hq
  exact ⟨rfl, rfl, rfl⟩

noncomputable def laidWorld (os : Os) : World :=
  { World.holding Tryd.prog os ⟨#[], #[], []⟩ with heap := (World.holding Tryd.prog os ⟨#[], #[], []⟩).heap.modify 0 fun
      | .cells _ t frozen => .cells #[.int .i64 1099511627776, .int .i64 1099511627776, .int .i64 1099511627776] t frozen
      | o => o }
noncomputable def args0 : Array Value := #[.agg #[.slice none 0 0, .int .i64 0], .int .i64 0]
theorem laid_met (os : Os) : laidMet Tryd.prog Rows.fairSpreadsRow.laid ((laidWorld os).forCall (fun _ _ => 0) ⟨#[], args0, []⟩).memory :=
  laidMet_of_run' 8 (by kernel_rfl) (by kernel_rfl)
theorem reads (os : Os) {H : Type} (enc : TypeId × Value → H) : ∃ places, DataW.whole enc Tryd.prog ((laidWorld os).forCall (fun _ _ => 0) ⟨#[], args0, []⟩).memory Tryd.f6.params.toList Rows.fairSpreadsSpec.vars false args0.toList 8 = some ([.agg [.nil, .lit (.int .i64 0)], .lit (.int .i64 0)], [], places) :=
  ⟨[], by kernel_rfl⟩

theorem lifted (os : Os) (started : os.Started) (H : Type) (enc : TypeId × Value → H) (F : Stop.Interp) :
    ReturnsInHanded {} Tryd.checked os 6 .any ((OpenSpec.ofChange Rows.fairSpreadsSpec).preRow enc Tryd.prog Tryd.f6 Rows.fairSpreadsRow.domain false Rows.fairSpreadsRow.laid) (((OpenSpec.ofChange Rows.fairSpreadsSpec).at F).post enc Tryd.prog Tryd.f6 false true false false) := by
  obtain ⟨places, hx⟩ := reads os enc
  refine returnsInHanded_of_row (C := Tryd.checked) (s := OpenSpec.ofChange Rows.fairSpreadsSpec) own started (by kernel_rfl) Tryd.func6
    (witness_row_at (enc := enc) (C := Tryd.checked) false (laidWorld os) args0 rfl (by kernel_rfl) (by kernel_rfl) (by kernel_rfl)
      (OpenSpec.preRow_of_cond 8 hx (by kernel_rfl) (fun k hk => by cases hk) (by kernel_rfl) (laid_met os))) ?_
  intro W base args ds gs before hval hW _ _ _ hL _ _
  exact contract H enc W base args ds gs before hval hW hL

theorem said : Rows.FairSpreadsSaid :=
  OpenClaim.holds_of_cond 6 Tryd.f6 rfl rfl rfl rfl rfl rfl rfl ⟨rfl, rfl, rfl, rfl, rfl⟩ rfl rfl rfl rfl rfl (by kernel_rfl) Tryd.func6 (by kernel_rfl)
    (of_decide_eq_true (by kernel_rfl)) (by unfold Func.isWrapper; first | (rw [if_pos (by decide +kernel)]; kernel_rfl) | (rw [if_neg (by decide +kernel)]; exact ⟨rfl, rfl⟩))
    (fun os started H enc _ F => by rw [OpenClaim.pre_eq_preRow]; exact lifted os started H enc F)

theorem stand24 : Tryd.pinned.checked.prog.wantsStandIn 24 = false := by kernel_rfl
theorem stand3 : Tryd.pinned.checked.prog.wantsStandIn 3 = false := by kernel_rfl
theorem plain (f : FuncId) (fn : Func) (hf : Tryd.pinned.checked.prog.funcNamed "tumblehome/tumblehomelaw01.FairSpreads" = some f) (hfn : Tryd.pinned.checked.prog.funcs[f]? = some fn) :
    false = Tryd.pinned.checked.prog.looks [] ∧ ∀ (j : Nat) t, fn.params[j]? = some t → Tryd.pinned.checked.prog.wantsStandIn t = false := by
  obtain rfl : f = 6 := Option.some.inj ((show Tryd.prog.funcNamed "tumblehome/tumblehomelaw01.FairSpreads" = some 6 by kernel_rfl).symm.trans hf) |>.symm
  obtain rfl : fn = Tryd.f6 := (Option.some.inj (Tryd.func6.symm.trans hfn)).symm
  refine ⟨by kernel_rfl, fun j t ht => ?_⟩
  rw [Tryd.params6] at ht
  match j, ht with
  | 0, ht =>
    have e : t = 24 := by simpa using ht.symm
    rw [e]
    exact stand24
  | 1, ht =>
    have e : t = 3 := by simpa using ht.symm
    rw [e]
    exact stand3
  | j + 2, ht => simp at ht

theorem card : Rows.FairSpreadsCardSaid :=
  Claim7.holds_tied_plain_at .later [] _ _ _ _ said (fun _ h => by cases h) (by kernel_rfl) (fun _ h => by cases h) fairSpreads_row_tie rfl ⟨rfl, rfl⟩ (by kernel_rfl) rfl plain (by kernel_rfl)
end Go.Proofs.YtkmdidplmfdikaaDoor.fairSpreads
end
