import Derived.Test.YtkmdidplmfdikabDoorM6
set_option linter.all false
section
namespace Go.Proofs.YtkmdidplmfdikabDoor
open Go.Ev
set_option maxRecDepth 100000
set_option linter.unusedSimpArgs false
set_option linter.unusedVariables false
set_option maxHeartbeats 4000000

theorem tEvbT16 :type_of% (And.intro (And.intro (And.intro (And.intro (And.intro (@zSz) (And.intro (@ia_2) (@sz_2))) (And.intro (@ze_2) (And.intro (@ia_3) (@sz_3)))) (And.intro (And.intro (@zTz) (And.intro (@zUw) (@zRw))) (And.intro (@zPw) (And.intro (@zVx) (@zUy))))) (And.intro (And.intro (And.intro (@zVy) (And.intro (@zXv) (@zXw))) (And.intro (@zTy) (And.intro (@zSv) (@zRv)))) (And.intro (And.intro (@zXz) (And.intro (@zTw) (@yJw))) (And.intro (@yJx) (And.intro (@yJz) (@yFy)))))) (And.intro (And.intro (And.intro (And.intro (@yEx) (And.intro (@ia_98) (@yVx))) (And.intro (@ze_98) (And.intro (@ia_96) (@sz_96)))) (And.intro (And.intro (@ia_95) (And.intro (@sz_95) (@zVv))) (And.intro (@zVw) (And.intro (@zOz) (@zNv))))) (And.intro (And.intro (And.intro (@zNw) (And.intro (@zOw) (@zMv))) (And.intro (@zNz) (And.intro (@zPv) (@zMy)))) (And.intro (And.intro (@zMz) (And.intro (@zPw) (@yFz))) (And.intro (@yCz) (And.intro (@pb_53) (@yPx))))))):=And.intro (And.intro (And.intro (And.intro (And.intro (@zSz) (And.intro (@ia_2) (@sz_2))) (And.intro (@ze_2) (And.intro (@ia_3) (@sz_3)))) (And.intro (And.intro (@zTz) (And.intro (@zUw) (@zRw))) (And.intro (@zPw) (And.intro (@zVx) (@zUy))))) (And.intro (And.intro (And.intro (@zVy) (And.intro (@zXv) (@zXw))) (And.intro (@zTy) (And.intro (@zSv) (@zRv)))) (And.intro (And.intro (@zXz) (And.intro (@zTw) (@yJw))) (And.intro (@yJx) (And.intro (@yJz) (@yFy)))))) (And.intro (And.intro (And.intro (And.intro (@yEx) (And.intro (@ia_98) (@yVx))) (And.intro (@ze_98) (And.intro (@ia_96) (@sz_96)))) (And.intro (And.intro (@ia_95) (And.intro (@sz_95) (@zVv))) (And.intro (@zVw) (And.intro (@zOz) (@zNv))))) (And.intro (And.intro (And.intro (@zNw) (And.intro (@zOw) (@zMv))) (And.intro (@zNz) (And.intro (@zPv) (@zMy)))) (And.intro (And.intro (@zMz) (And.intro (@zPw) (@yFz))) (And.intro (@yCz) (And.intro (@pb_53) (@yPx))))))
def cntI (a b s c:Int):Int:=chgI s (a - 2 * b+c)
theorem count (A:AV) (turn:Int) (x:Stt) (c:Int) (hi:x.i≤1000) (ha:Off x.a) (hb:Off x.b) (hc:Off c) (h:H) (wf:Wf h) :
    (om Tryd.prog KK).call (.fn 33 [.agg [A,ii turn],stv x,ii c]) h = .ok (.tup [stv (nxt x c),ii (cntI x.a x.b x.s c)]) h:=by
  have hst:stv (nxt x c) = .agg [ii ((x.i:Int)+1),ii x.b,ii c,ii (nextSign x.s (x.a - 2 * x.b+c))]:=by
    unfold stv;rw [nxt_s];rfl
  have hct:cntI x.a x.b x.s c=chg x.s (x.a - 2 * x.b+c):=rfl
  rw [hst,hct]
  refine zWv (zLv (fn:=Tryd.f33) Tryd.func33 rfl rfl rfl rfl rfl ?_)
  simp only [zKx]
  unfold stv
  (repeat' (first
  | (with_reducible first|refine zJz ?_|refine zGw ?_|refine zEw ?_|refine zEx ?_|refine zEv ?_|refine zJy ?_|refine zGv ?_|refine zBw ?_|refine zDx ?_|refine zBv ?_|refine zCx ?_|refine zEz ?_|refine zCw ?_|refine zCz ?_|refine zBz ?_|refine zDv ?_|refine zDy ?_|refine zAx ?_|refine zAv ?_)
  | refine zCv ?_|refine zEy rfl ?_|refine zIw ?_|refine zIv ?_
  | ((first|refine zGx rfl rfl rfl rfl rfl fun K_ hK_=>?_|refine zGy rfl rfl rfl rfl rfl fun K_ hK_=>?_);simp only [zAz,zDz,zFw,↓reduceIte,reduceCtorEq,Nat.reduceEqDiff,Bool.not_true,Bool.not_false];refine hK_ _ ?_;clear hK_ K_)
  | refine zDw (by decide) ?_
  | ((try first|refine zJx rfl rfl rfl ?_|refine zIy rfl rfl ?_|refine zJv rfl rfl rfl ?_|refine zIx rfl rfl ?_);(refine zIz fun Q_ hQ_=>?_;simp (disch:=first|omega|(simp only [List.length_cons,List.length_nil,List.length_append];omega)) only [bb,bp,zKx,↓reduceIte,reduceCtorEq,Nat.reduceEqDiff,Nat.reduceLT,Nat.reduceLeDiff,Nat.reduceAdd,Nat.reduceMul,Nat.reduceSub,Nat.reduceBEq,Int.reduceToNat,cond_true,cond_false,eq_self,beq_self_eq_true,zHz wf,zHx wf,zFz wf,zHy wf,zBx wf,zFy,tEvbT16,zHw,zKy,zAw wf,zPy];first|(refine zCy (Q:=Q_) (fun hp_=>?_) (fun hp_=>?_) <;> first|(exfalso;omega)|(refine hQ_ _ _ ?_;clear hQ_ Q_))|(refine zBy (Q:=Q_) (fun hp_=>?_) (fun hp_=>?_) <;> first|(exfalso;omega)|(refine hQ_ _ _ ?_;clear hQ_ Q_))|(refine hQ_ _ _ ?_;clear hQ_ Q_)|(refine yIx (next _ _ _ _ _ (by omega) (by omega) (by omega) (by omega) _ (wf.X (by first|omega|(simp only [List.length_append,List.length_cons,List.length_nil];omega)))) ?_;refine hQ_ _ _ ?_;clear hQ_ Q_)))
  | (refine zFv fun K_ hK_=>?_;simp (disch:=omega) only [zFx,zAz,zGz,↓reduceIte,reduceCtorEq,Nat.reduceEqDiff,Nat.reduceLT];refine hK_ _ ?_;clear hK_ K_)))
  refine zJw _ _ rfl (retc1 (by decide) (by decide) (by simp (disch:=first|omega|(simp only [List.length_cons,List.length_nil,List.length_append];omega)) only [bb,bp,zKx,↓reduceIte,reduceCtorEq,Nat.reduceEqDiff,Nat.reduceLT,Nat.reduceLeDiff,Nat.reduceAdd,Nat.reduceMul,Nat.reduceSub,Nat.reduceBEq,Int.reduceToNat,cond_true,cond_false,eq_self,beq_self_eq_true,zFz wf,tEvbT16,zHw,zKy,zAw wf,zPy];rfl)) ?_
  simp only [zAz,↓reduceIte,reduceCtorEq,Nat.reduceEqDiff]
  refine zLx rfl (by omega) ?_
  exact ⟨rfl,rfl⟩
theorem countStep (A:AV) (turn:Int):StepOK (.fn 33 [.agg [A,ii turn]] []) cntI where
  flat:=⟨rfl,rfl⟩
  run:=fun x c hi ha hb hc h wf=>by
    rw [yFx,pb_33]
    exact count A turn x c hi ha hb hc h wf
  le:=fun a b s c ha hb hc=>by have:=chgI_01 s (a - 2 * b+c);unfold cntI;omega

theorem reached (a:AV) (turn i:Int) (q:Pos) (n:Nat) (h:H) (wf:Wf h) (J:List AO) (w:Nat) (hw:w≤h.clock+J.length) :
    (om Tryd.prog KK).call (.fn 34 [prv a turn q n,ii i]) (X h J w) = .ok (.fn 53 [] [.ptr (nx h J.length) 0,.ptr (nx h (J.length+1)) 0]) (X h (J++[.cells (zAy [a,ii turn,.sl q 0 n (some n) 75]) 56,.cells (zAy [ii i]) 3]) w):=by
  have wf':=wf.X hw
  have key : ∀ hb,Wf hb→(om Tryd.prog KK).call (.fn 34 [prv a turn q n,ii i]) hb = .ok (.fn 53 [] [.ptr (nx hb 0) 0,.ptr (nx hb 1) 0]) (X hb [.cells (zAy [a,ii turn,.sl q 0 n (some n) 75]) 56,.cells (zAy [ii i]) 3] hb.w):=by
    clear wf wf'
    intro hb wf
    refine zWv (zLv (fn:=Tryd.f34) Tryd.func34 rfl rfl rfl rfl rfl ?_)
    simp only [zKx]
    unfold prv
    (repeat' (first
  | (with_reducible first|refine zJz ?_|refine zGw ?_|refine zEw ?_|refine zEx ?_|refine zEv ?_|refine zJy ?_|refine zGv ?_|refine zBw ?_|refine zDx ?_|refine zBv ?_|refine zCx ?_|refine zEz ?_|refine zCw ?_|refine zCz ?_|refine zBz ?_|refine zDv ?_|refine zDy ?_|refine zAx ?_|refine zAv ?_)
  | refine zCv ?_|refine zEy rfl ?_|refine zIw ?_|refine zIv ?_
  | ((first|refine zGx rfl rfl rfl rfl rfl fun K_ hK_=>?_|refine zGy rfl rfl rfl rfl rfl fun K_ hK_=>?_);simp only [zAz,zDz,zFw,↓reduceIte,reduceCtorEq,Nat.reduceEqDiff,Bool.not_true,Bool.not_false];refine hK_ _ ?_;clear hK_ K_)
  | refine zDw (by decide) ?_
  | ((try first|refine zJx rfl rfl rfl ?_|refine zIy rfl rfl ?_|refine zJv rfl rfl rfl ?_|refine zIx rfl rfl ?_);(refine zIz fun Q_ hQ_=>?_;simp (disch:=first|omega|(simp only [List.length_cons,List.length_nil,List.length_append];omega)) only [bb,bp,zKx,↓reduceIte,reduceCtorEq,Nat.reduceEqDiff,Nat.reduceLT,Nat.reduceLeDiff,Nat.reduceAdd,Nat.reduceMul,Nat.reduceSub,Nat.reduceBEq,Int.reduceToNat,cond_true,cond_false,eq_self,beq_self_eq_true,zHz wf,zHx wf,zFz wf,zHy wf,zBx wf,zFy,tEvbT16,zHw,zKy,zAw wf,zPy];first|(refine zCy (Q:=Q_) (fun hp_=>?_) (fun hp_=>?_) <;> first|(exfalso;omega)|(refine hQ_ _ _ ?_;clear hQ_ Q_))|(refine zBy (Q:=Q_) (fun hp_=>?_) (fun hp_=>?_) <;> first|(exfalso;omega)|(refine hQ_ _ _ ?_;clear hQ_ Q_))|(refine hQ_ _ _ ?_;clear hQ_ Q_)))
  | (refine zFv fun K_ hK_=>?_;simp (disch:=omega) only [zFx,zAz,zGz,↓reduceIte,reduceCtorEq,Nat.reduceEqDiff,Nat.reduceLT];refine hK_ _ ?_;clear hK_ K_)))
    refine zJw _ _ rfl (ret1 (by decide)) ?_
    simp only [zAz,↓reduceIte,reduceCtorEq,Nat.reduceEqDiff]
    refine yCy (by
      show (_ && flat (.fn 53 [] [.ptr _ 0,.ptr _ 0]))=false
      exact Bool.and_false _) ?_
    refine ⟨rfl,?_⟩
    rw [Nat.min_eq_left wf.wle]
  rw [key _ wf',X_X,nx_X,nx_X,X_w]
  rfl

structure RcIn (hb:H) (p q tq:Pos) (a:AV) (i:Nat) (sp:List (Int × Int)):Prop where
  wf:Wf hb
  lp : ∀ J w,load1 p 0 (X hb J w)=some a
  lt : ∀ J w,load1 p 2 (X hb J w)=some (.sl tq 0 (sp.length - 1) (some (sp.length - 1)) 75)
  lq : ∀ J w,load1 q 0 (X hb J w)=some (ii (i:Int))
  sl:Sl hb a 2 sp.length (zKv sp)
  tf:TabF hb
theorem RcIn.of {h:H} (wf:Wf h) {L:List AO} {w k m:Nat} {a:AV} {turn:Int} {i:Nat} {sp:List (Int × Int)} {tq:Pos} (hw:w≤h.clock+L.length) (hk:L[k]? = some (.cells (zAy [a,ii turn,.sl tq 0 (sp.length - 1) (some (sp.length - 1)) 75]) 56)) (hm:L[m]? = some (.cells (zAy [ii (i:Int)]) 3)) (hs:Sl h a 2 sp.length (zKv sp)) (tf:TabF h):RcIn (X h L w) (nx h k) (nx h m) tq a i sp:=by
  have hk' : ∀ J:List AO,(L++J)[k]? = some (.cells (zAy [a,ii turn,.sl tq 0 (sp.length - 1) (some (sp.length - 1)) 75]) 56):=fun J=>by rw [List.getElem?_append_left (zHv hk),hk]
  have hm' : ∀ J:List AO,(L++J)[m]? = some (.cells (zAy [ii (i:Int)]) 3):=fun J=>by rw [List.getElem?_append_left (zHv hm),hm]
  exact ⟨wf.X hw,fun J w'=>by rw [X_X,zHx wf,hk'];rfl,fun J w'=>by rw [X_X,zHx wf,hk'];rfl,fun J w'=>by rw [X_X,zHx wf,hm'];rfl,hs.up wf _ _,tf.up wf _ _⟩
def RowIn (hb:H) (tq:Pos) (i:Nat) (Tb:List Int):Prop:=∀ J w,loadAgg tq ((i - 1) * 75) (some 75) (X hb J w)=some (.agg ((rowT Tb i).map ii))
def HandsB (P:Program) (K:List Con) (B0 B:H→Prop) (fv:AV) (xs:List (List AV)):Prop:=
  ∀ (l:Pos) (hb0:H) (I:Nat→H→Prop) (D:H→Prop) (lo:Nat) (c:Nat→Nat) (d:Nat),lo≤hb0.w→hb0.w≤hb0.clock→(∀ k,c k≤hb0.clock)→d≤hb0.clock→(∀ i h,I i h→B h∧Same hb0 h)→(∀ h,D h→Wf h) →
    (∀ i x,xs[i]? = some x → ∀ hb J w,I i hb→lo≤w→w≤hb.clock+J.length→WV ((om P K).call (.yld l x) (X hb J w)) (YRC lo (c i) d hb J w (I (i+1)) D)) →
    I 0 hb0→B0 hb0→WV (callV P (om P K) fv [.yld l] hb0) fun _ h'=>∃ hb J w,h'=X hb J w∧Same hb0 hb∧lo≤w∧w≤hb0.w∧(I xs.length hb∧(∀ k,k<xs.length→w<c k)∨D hb∧w<d)
def ylds (ys:List (Stt × Int)):List (List AV):=ys.map fun y=>[stv y.1,ii y.2]

theorem yVy {α : Type} {f : α → AV} (xs:List α) (h : ∀ x,oneB (f x)=true):allOne (xs.map f)=true:=by
  induction xs with
  | nil=>rfl
  | cons x xs ih=>rw [List.map_cons,zYv,h x,ih];rfl
theorem app_assoc1 {α : Type} {x : α} {p r:List α} : (p++[x])++r=p++x :: r:=by rw [List.append_assoc];rfl
theorem size2 :pureRun Tryd.prog (sizeOf 2)=some 1:=by kernel_rfl
theorem noGuard109 :Tryd.prog.eqGuardType Tryd.prog.depth 95=false:=by kernel_rfl
theorem reached1 (p q tq:Pos) (a:AV) (i:Nat) (sp:List (Int × Int)) (hsp:SpotsOK sp) (hi:1≤i∧i<sp.length) (Tb:List Int) (hTl:Tb.length=(sp.length - 1) * 75) (hne:0<(reachL sp i Tb).length) :
    HandsB Tryd.prog KK (fun hb=>RowIn hb tq i Tb) (fun hb=>RcIn hb p q tq a i sp) (.fn 53 [] [.ptr p 0,.ptr q 0]) (ylds (reachL sp i Tb)):=by
  intro l hb0 I D lo c d0 hlo0 hlow hc0 hd0 hI hD hy h0 hr0
  have hB:=(hI 0 hb0 h0).1
  have wf:=hB.wf
  have n24:=hsp.n24
  rw [yFx,pb_53]
  show WV ((om Tryd.prog KK).call (.fn 53 [.yld l,.ptr p 0,.ptr q 0]) hb0) _
  refine zLv (fn:=Tryd.f53) Tryd.func53 rfl rfl rfl rfl rfl ?_
  simp only [zKx]
  have hlt:=hB.lt
  have hlq:=hB.lq
  have same0:=(hI 0 hb0 h0).2
  have e1:((i:Int) - 1)=((i - 1:Nat):Int):=by omega
  have j1:=ix_65 (q:=tq) (show i - 1<sp.length - 1 by omega)
  have hrl:(i - 1) * 75+75≤Tb.length:=by
    rw [hTl]
    have:=Nat.mul_le_mul_right 75 (show i - 1+1≤sp.length - 1 by omega)
    omega
  have hrow:=hr0
  unfold RowIn at hrow
  (repeat' (first
  | (with_reducible first|refine zJz ?_|refine zGw ?_|refine zEw ?_|refine zEx ?_|refine zEv ?_|refine zJy ?_|refine zGv ?_|refine zBw ?_|refine zDx ?_|refine zBv ?_|refine zCx ?_|refine zEz ?_|refine zCw ?_|refine zCz ?_|refine zBz ?_|refine zDv ?_|refine zDy ?_|refine zAx ?_|refine zAv ?_)
  | refine zCv ?_|refine zEy rfl ?_|refine zIw ?_|refine zIv ?_
  | ((first|refine zGx rfl rfl rfl rfl rfl fun K_ hK_=>?_|refine zGy rfl rfl rfl rfl rfl fun K_ hK_=>?_);simp only [zAz,zDz,zFw,↓reduceIte,reduceCtorEq,Nat.reduceEqDiff,Bool.not_true,Bool.not_false];refine hK_ _ ?_;clear hK_ K_)
  | refine zDw (by decide) ?_
  | ((try first|refine zJx rfl rfl rfl ?_|refine zIy rfl rfl ?_|refine zJv rfl rfl rfl ?_|refine zIx rfl rfl ?_);(refine zIz fun Q_ hQ_=>?_;simp (disch:=first|omega|(simp only [List.length_cons,List.length_nil,List.length_append];omega)) only [bb,bp,zKx,↓reduceIte,reduceCtorEq,Nat.reduceEqDiff,Nat.reduceLT,Nat.reduceLeDiff,Nat.reduceAdd,Nat.reduceMul,Nat.reduceSub,Nat.reduceBEq,Int.reduceToNat,cond_true,cond_false,eq_self,beq_self_eq_true,hlt,hlq,e1,j1,hrow,zHz wf,zHx wf,zFz wf,zHy wf,zBx wf,zFy,tEvbT16,zHw,zKy,zAw wf,zPy];first|(refine zCy (Q:=Q_) (fun hp_=>?_) (fun hp_=>?_) <;> first|(exfalso;omega)|(refine hQ_ _ _ ?_;clear hQ_ Q_))|(refine zBy (Q:=Q_) (fun hp_=>?_) (fun hp_=>?_) <;> first|(exfalso;omega)|(refine hQ_ _ _ ?_;clear hQ_ Q_))|(refine hQ_ _ _ ?_;clear hQ_ Q_)))
  | (refine zFv fun K_ hK_=>?_;simp (disch:=omega) only [zFx,zAz,zGz,↓reduceIte,reduceCtorEq,Nat.reduceEqDiff,Nat.reduceLT];refine hK_ _ ?_;clear hK_ K_)))
  have hrowl:((rowT Tb i).map ii).length=75:=by
    rw [List.length_map];unfold rowT;rw [List.length_take,List.length_drop];omega
  have hall1:allOne ((rowT Tb i).map ii)=true:=yVy _ fun _=>rfl
  refine zIy rfl rfl (yIx (v:=.tup []) (h:=X hb0 [.cells (zAy ((rowT Tb i).map ii)) 98] hb0.clock) (by
    rw [x_store,zFx (by decide),on1_ok,zFx (by decide),on1_ok]
    simp only [zAz,↓reduceIte,reduceCtorEq,Nat.reduceEqDiff]
    rw [xHv (old:=List.replicate 75 (.int .i64 0)) (ee:=98) wf yVx (by decide) hrowl (by simp) rfl hall1]
    simp [Nat.min_eq_left]
    rfl) ?_)
  (repeat' (first
  | (with_reducible first|refine zJz ?_|refine zGw ?_|refine zEw ?_|refine zEx ?_|refine zEv ?_|refine zJy ?_|refine zGv ?_|refine zBw ?_|refine zDx ?_|refine zBv ?_|refine zCx ?_|refine zEz ?_|refine zCw ?_|refine zCz ?_|refine zBz ?_|refine zDv ?_|refine zDy ?_|refine zAx ?_|refine zAv ?_)
  | refine zCv ?_|refine zEy rfl ?_|refine zIw ?_|refine zIv ?_
  | ((first|refine zGx rfl rfl rfl rfl rfl fun K_ hK_=>?_|refine zGy rfl rfl rfl rfl rfl fun K_ hK_=>?_);simp only [zAz,zDz,zFw,↓reduceIte,reduceCtorEq,Nat.reduceEqDiff,Bool.not_true,Bool.not_false];refine hK_ _ ?_;clear hK_ K_)
  | refine zDw (by decide) ?_
  | ((try first|refine zJx rfl rfl rfl ?_|refine zIy rfl rfl ?_|refine zJv rfl rfl rfl ?_|refine zIx rfl rfl ?_);(refine zIz fun Q_ hQ_=>?_;simp (disch:=first|omega|(simp only [List.length_cons,List.length_nil,List.length_append];omega)) only [bb,bp,zKx,↓reduceIte,reduceCtorEq,Nat.reduceEqDiff,Nat.reduceLT,Nat.reduceLeDiff,Nat.reduceAdd,Nat.reduceMul,Nat.reduceSub,Nat.reduceBEq,Int.reduceToNat,cond_true,cond_false,eq_self,beq_self_eq_true,zHz wf,zHx wf,zFz wf,zHy wf,zBx wf,zFy,tEvbT16,zHw,zKy,zAw wf,zPy];first|(refine zCy (Q:=Q_) (fun hp_=>?_) (fun hp_=>?_) <;> first|(exfalso;omega)|(refine hQ_ _ _ ?_;clear hQ_ Q_))|(refine zBy (Q:=Q_) (fun hp_=>?_) (fun hp_=>?_) <;> first|(exfalso;omega)|(refine hQ_ _ _ ?_;clear hQ_ Q_))|(refine hQ_ _ _ ?_;clear hQ_ Q_)))
  | (refine zFv fun K_ hK_=>?_;simp (disch:=omega) only [zFx,zAz,zGz,↓reduceIte,reduceCtorEq,Nat.reduceEqDiff,Nat.reduceLT];refine hK_ _ ?_;clear hK_ K_)))
  have hrg : ∀ u v s,u<5→v<5→s<3→((rowT Tb i).map ii)[u * 15+v * 3+s]? = some (ii (tc Tb i u v s)):=fun u v s hu hv hs=>by
    rw [List.getElem?_map,rowT_get hrl (by omega)];rfl
  generalize hys:reachL sp i Tb=ys at *
  generalize hro:AO.cells (zAy ((rowT Tb i).map ii)) 98=ro at *
  have hyl:(ylds ys).length=ys.length:=by unfold ylds;rw [List.length_map]
  have i1:i - 1<sp.length:=by omega
  have i2:i<sp.length:=hi.2
  obtain ⟨⟨o1,o2⟩,⟨o3,o4⟩,o5,o6⟩:=hsp.at i1
  obtain ⟨⟨r1,r2⟩,⟨r3,r4⟩,r5,r6⟩:=hsp.at i2
  clear hlt hlq wf hB hrow hr0
  refine zVz (fun (u:Nat) f d h'=>u≤5∧(f 0 = .yld l∧f 1 = .ptr p 0∧f 2 = .ptr q 0∧f 4 = .ptr (nx hb0 0) 0)∧f 16=ii (u:Int)∧d=[] ∧ ∃ hb J w pre,h'=X hb (ro :: J) w∧I pre.length hb∧pre++aoF sp i Tb (5 - u)=ys∧lo≤w∧w≤hb.clock∧(∀ j,j<pre.length→w<c j)) (fun u=>5 - u) ?_ (5+1) 0 (by omega) ?_
  rotate_left 1
  · exact ⟨by omega,⟨by ((try simp only [zAz,↓reduceIte,reduceCtorEq,Nat.reduceEqDiff]) <;> (try rfl)),by ((try simp only [zAz,↓reduceIte,reduceCtorEq,Nat.reduceEqDiff]) <;> (try rfl)),by ((try simp only [zAz,↓reduceIte,reduceCtorEq,Nat.reduceEqDiff]) <;> (try rfl)),by ((try simp only [zAz,↓reduceIte,reduceCtorEq,Nat.reduceEqDiff]) <;> (try rfl))⟩,by ((try simp only [zAz,↓reduceIte,reduceCtorEq,Nat.reduceEqDiff]) <;> (try rfl)),rfl,hb0,[],_,[],rfl,h0,by rw [← hys];rfl,by omega,by omega,fun j hj=>absurd hj (Nat.not_lt_zero _)⟩
  rintro u f d h' ⟨hu,⟨g0,g1,g2,g4⟩,g16,rfl,hb,J,w,pre,rfl,hIk,hpre,hlo,hw,hwc⟩
  have wf:=(hI _ hb hIk).1.wf
  by_cases hlu:u<5
  · (repeat' (first
  | (with_reducible first|refine zJz ?_|refine zGw ?_|refine zEw ?_|refine zEx ?_|refine zEv ?_|refine zJy ?_|refine zGv ?_|refine zBw ?_|refine zDx ?_|refine zBv ?_|refine zCx ?_|refine zEz ?_|refine zCw ?_|refine zCz ?_|refine zBz ?_|refine zDv ?_|refine zDy ?_|refine zAx ?_|refine zAv ?_)
  | refine zCv ?_|refine zEy rfl ?_|refine zIw ?_|refine zIv ?_
  | ((first|refine zGx rfl rfl rfl rfl rfl fun K_ hK_=>?_|refine zGy rfl rfl rfl rfl rfl fun K_ hK_=>?_);simp only [zAz,zDz,zFw,↓reduceIte,reduceCtorEq,Nat.reduceEqDiff,Bool.not_true,Bool.not_false];refine hK_ _ ?_;clear hK_ K_)
  | refine zDw (by decide) ?_
  | ((try first|refine zJx rfl rfl rfl ?_|refine zIy rfl rfl ?_|refine zJv rfl rfl rfl ?_|refine zIx rfl rfl ?_);(refine zIz fun Q_ hQ_=>?_;simp (disch:=first|omega|(simp only [List.length_cons,List.length_nil,List.length_append];omega)) only [bb,bp,zKx,↓reduceIte,reduceCtorEq,Nat.reduceEqDiff,Nat.reduceLT,Nat.reduceLeDiff,Nat.reduceAdd,Nat.reduceMul,Nat.reduceSub,Nat.reduceBEq,Int.reduceToNat,cond_true,cond_false,eq_self,beq_self_eq_true,g0,g1,g2,g4,g16,tEvbT16,zHw,zKy,zAw wf,zPy];first|(refine zCy (Q:=Q_) (fun hp_=>?_) (fun hp_=>?_) <;> first|(exfalso;omega)|(refine hQ_ _ _ ?_;clear hQ_ Q_))|(refine zBy (Q:=Q_) (fun hp_=>?_) (fun hp_=>?_) <;> first|(exfalso;omega)|(refine hQ_ _ _ ?_;clear hQ_ Q_))|(refine hQ_ _ _ ?_;clear hQ_ Q_)))
  | (refine zFv fun K_ hK_=>?_;simp (disch:=omega) only [zFx,zAz,zGz,↓reduceIte,reduceCtorEq,Nat.reduceEqDiff,Nat.reduceLT];refine hK_ _ ?_;clear hK_ K_)))
    rw [aoF_step hlu] at hpre
    refine zVz (fun (v:Nat) f d h'=>v≤5∧(f 0 = .yld l∧f 1 = .ptr p 0∧f 2 = .ptr q 0∧f 4 = .ptr (nx hb0 0) 0)∧(f 16=ii (u:Int)∧f 5=ii (u:Int))∧f 19=ii (v:Int)∧d=[] ∧ ∃ hb J w pre,h'=X hb (ro :: J) w∧I pre.length hb∧pre++(boF sp i Tb u (5 - v)++aoF sp i Tb (4 - u))=ys∧lo≤w∧w≤hb.clock∧(∀ j,j<pre.length→w<c j)) (fun v=>5 - v) ?_ (5+1) 0 (by omega) ?_
    rotate_left 1
    · exact ⟨by omega,⟨by simp only [zAz,↓reduceIte,reduceCtorEq,Nat.reduceEqDiff];exact g0,by simp only [zAz,↓reduceIte,reduceCtorEq,Nat.reduceEqDiff];exact g1,by simp only [zAz,↓reduceIte,reduceCtorEq,Nat.reduceEqDiff];exact g2,by simp only [zAz,↓reduceIte,reduceCtorEq,Nat.reduceEqDiff];exact g4⟩,⟨by simp only [zAz,↓reduceIte,reduceCtorEq,Nat.reduceEqDiff];exact g16,by simp only [zAz,↓reduceIte,reduceCtorEq,Nat.reduceEqDiff]⟩,by simp only [zAz,↓reduceIte,reduceCtorEq,Nat.reduceEqDiff];rfl,rfl,hb,J,w,pre,rfl,hIk,hpre,hlo,hw,hwc⟩
    clear g0 g1 g2 g4 g16 wf hIk hpre hlo hw hwc
    rintro v f d h' ⟨hv,⟨g0,g1,g2,g4⟩,⟨g16,g5⟩,g19,rfl,hb,J,w,pre,rfl,hIk,hpre,hlo,hw,hwc⟩
    have wf:=(hI _ hb hIk).1.wf
    by_cases hlv:v<5
    · have hB:=(hI _ hb hIk).1
      have hs:=(hI _ hb hIk).2
      have hG : ∀ l w,loadAgg (posN 0) 0 (some 3) (X hb l w)=some (.agg [ii farI,ii farI,ii farI]):=fun l w=>(hB.tf.up wf l w).load
      have j2:=ix_112 (q:=nx hb 0) (off:=0) hlu
      rw [Nat.zero_add] at j2
      have j3:=ix_110 (q:=nx hb 0) (off:=u * 15) hlv
      have g4':=g4
      rw [← hs.nx] at g4'
      have hcell : ∀ J w,loadAgg (nx hb 0) (u * 15+v * 3) (some 3) (X hb (ro :: J) w)=some (.agg [ii (tc Tb i u v 0),ii (tc Tb i u v 1),ii (tc Tb i u v 2)]):=fun J w=>by
        rw [zFz wf,List.getElem?_cons_zero,← hro,zOx (by decide),if_pos (by rw [hrowl];omega)]
        congr 2
        refine List.ext_getElem? fun k=>?_
        rw [List.getElem?_take]
        by_cases hk:k<3
        · rw [if_pos hk,List.getElem?_drop,hrg u v k hlu hlv hk]
          rcases (show k=0∨k=1∨k=2 by omega) with rfl|rfl|rfl <;> rfl
        · rw [if_neg hk,List.getElem?_eq_none (by simp;omega)]
      have heq : ∀ (x y:Operand),binE Tryd.prog .eql 95 x y (.agg [ii (tc Tb i u v 0),ii (tc Tb i u v 1),ii (tc Tb i u v 2)]) (.agg [ii farI,ii farI,ii farI])=some (.bool (decide (NoneT Tb i u v))):=fun x y=>b_arr3 un_95 un_2 size2 noGuard109
      by_cases hn:NoneT Tb i u v
      · rw [decide_eq_true hn] at heq
        (repeat' (first
  | (with_reducible first|refine zJz ?_|refine zGw ?_|refine zEw ?_|refine zEx ?_|refine zEv ?_|refine zJy ?_|refine zGv ?_|refine zBw ?_|refine zDx ?_|refine zBv ?_|refine zCx ?_|refine zEz ?_|refine zCw ?_|refine zCz ?_|refine zBz ?_|refine zDv ?_|refine zDy ?_|refine zAx ?_|refine zAv ?_)
  | refine zCv ?_|refine zEy rfl ?_|refine zIw ?_|refine zIv ?_
  | ((first|refine zGx rfl rfl rfl rfl rfl fun K_ hK_=>?_|refine zGy rfl rfl rfl rfl rfl fun K_ hK_=>?_);simp only [zAz,zDz,zFw,↓reduceIte,reduceCtorEq,Nat.reduceEqDiff,Bool.not_true,Bool.not_false];refine hK_ _ ?_;clear hK_ K_)
  | refine zDw (by decide) ?_
  | ((try first|refine zJx rfl rfl rfl ?_|refine zIy rfl rfl ?_|refine zJv rfl rfl rfl ?_|refine zIx rfl rfl ?_);(refine zIz fun Q_ hQ_=>?_;simp (disch:=first|omega|(simp only [List.length_cons,List.length_nil,List.length_append];omega)) only [bb,bp,zKx,↓reduceIte,reduceCtorEq,Nat.reduceEqDiff,Nat.reduceLT,Nat.reduceLeDiff,Nat.reduceAdd,Nat.reduceMul,Nat.reduceSub,Nat.reduceBEq,Int.reduceToNat,cond_true,cond_false,eq_self,beq_self_eq_true,g0,g1,g2,g4',g5,g16,g19,tEvbT16,zHw,zKy,zAw wf,zPy];first|(refine zCy (Q:=Q_) (fun hp_=>?_) (fun hp_=>?_) <;> first|(exfalso;omega)|(refine hQ_ _ _ ?_;clear hQ_ Q_))|(refine zBy (Q:=Q_) (fun hp_=>?_) (fun hp_=>?_) <;> first|(exfalso;omega)|(refine hQ_ _ _ ?_;clear hQ_ Q_))|(refine hQ_ _ _ ?_;clear hQ_ Q_)))
  | (refine zFv fun K_ hK_=>?_;simp (disch:=omega) only [zFx,zAz,zGz,↓reduceIte,reduceCtorEq,Nat.reduceEqDiff,Nat.reduceLT];refine hK_ _ ?_;clear hK_ K_)))
        refine zMw [.no,.no,.no,.no,.no,.no,.full] (by kernel_rfl) ?_
        (repeat' (first
  | (with_reducible first|refine zJz ?_|refine zGw ?_|refine zEw ?_|refine zEx ?_|refine zEv ?_|refine zJy ?_|refine zGv ?_|refine zBw ?_|refine zDx ?_|refine zBv ?_|refine zCx ?_|refine zEz ?_|refine zCw ?_|refine zCz ?_|refine zBz ?_|refine zDv ?_|refine zDy ?_|refine zAx ?_|refine zAv ?_)
  | refine zCv ?_|refine zEy rfl ?_|refine zIw ?_|refine zIv ?_
  | ((first|refine zGx rfl rfl rfl rfl rfl fun K_ hK_=>?_|refine zGy rfl rfl rfl rfl rfl fun K_ hK_=>?_);simp only [zAz,zDz,zFw,↓reduceIte,reduceCtorEq,Nat.reduceEqDiff,Bool.not_true,Bool.not_false];refine hK_ _ ?_;clear hK_ K_)
  | refine zDw (by decide) ?_
  | ((try first|refine zJx rfl rfl rfl ?_|refine zIy rfl rfl ?_|refine zJv rfl rfl rfl ?_|refine zIx rfl rfl ?_);(refine zIz fun Q_ hQ_=>?_;simp (disch:=first|omega|(simp only [List.length_cons,List.length_nil,List.length_append];omega)) only [bb,bp,zKx,↓reduceIte,reduceCtorEq,Nat.reduceEqDiff,Nat.reduceLT,Nat.reduceLeDiff,Nat.reduceAdd,Nat.reduceMul,Nat.reduceSub,Nat.reduceBEq,Int.reduceToNat,cond_true,cond_false,eq_self,beq_self_eq_true,g0,g1,g2,g4',g5,g16,g19,j2,j3,hcell,hG,heq,zHz wf,zHx wf,zFz wf,zHy wf,zBx wf,zFy,tEvbT16,zHw,zKy,zAw wf,zPy];first|(refine zCy (Q:=Q_) (fun hp_=>?_) (fun hp_=>?_) <;> first|(exfalso;omega)|(refine hQ_ _ _ ?_;clear hQ_ Q_))|(refine zBy (Q:=Q_) (fun hp_=>?_) (fun hp_=>?_) <;> first|(exfalso;omega)|(refine hQ_ _ _ ?_;clear hQ_ Q_))|(refine hQ_ _ _ ?_;clear hQ_ Q_)))
  | (refine zFv fun K_ hK_=>?_;simp (disch:=omega) only [zFx,zAz,zGz,↓reduceIte,reduceCtorEq,Nat.reduceEqDiff,Nat.reduceLT];refine hK_ _ ?_;clear hK_ K_)))
        rw [boF_none hlv hn,List.nil_append] at hpre
        exact zKw (u+1) (by omega) ⟨hlu,⟨by simp only [zAz,↓reduceIte,reduceCtorEq,Nat.reduceEqDiff];exact g0,by simp only [zAz,↓reduceIte,reduceCtorEq,Nat.reduceEqDiff];exact g1,by simp only [zAz,↓reduceIte,reduceCtorEq,Nat.reduceEqDiff];exact g2,by simp only [zAz,↓reduceIte,reduceCtorEq,Nat.reduceEqDiff];exact g4⟩,by simp only [zAz,↓reduceIte,reduceCtorEq,Nat.reduceEqDiff];rfl,rfl,hb,J,w,pre,rfl,hIk,by rw [show 5 - (u+1)=4 - u from by omega];exact hpre,hlo,hw,hwc⟩
      · rw [decide_eq_false hn] at heq
        (repeat' (first
  | (with_reducible first|refine zJz ?_|refine zGw ?_|refine zEw ?_|refine zEx ?_|refine zEv ?_|refine zJy ?_|refine zGv ?_|refine zBw ?_|refine zDx ?_|refine zBv ?_|refine zCx ?_|refine zEz ?_|refine zCw ?_|refine zCz ?_|refine zBz ?_|refine zDv ?_|refine zDy ?_|refine zAx ?_|refine zAv ?_)
  | refine zCv ?_|refine zEy rfl ?_|refine zIw ?_|refine zIv ?_
  | ((first|refine zGx rfl rfl rfl rfl rfl fun K_ hK_=>?_|refine zGy rfl rfl rfl rfl rfl fun K_ hK_=>?_);simp only [zAz,zDz,zFw,↓reduceIte,reduceCtorEq,Nat.reduceEqDiff,Bool.not_true,Bool.not_false];refine hK_ _ ?_;clear hK_ K_)
  | refine zDw (by decide) ?_
  | ((try first|refine zJx rfl rfl rfl ?_|refine zIy rfl rfl ?_|refine zJv rfl rfl rfl ?_|refine zIx rfl rfl ?_);(refine zIz fun Q_ hQ_=>?_;simp (disch:=first|omega|(simp only [List.length_cons,List.length_nil,List.length_append];omega)) only [bb,bp,zKx,↓reduceIte,reduceCtorEq,Nat.reduceEqDiff,Nat.reduceLT,Nat.reduceLeDiff,Nat.reduceAdd,Nat.reduceMul,Nat.reduceSub,Nat.reduceBEq,Int.reduceToNat,cond_true,cond_false,eq_self,beq_self_eq_true,g0,g1,g2,g4',g5,g16,g19,tEvbT16,zHw,zKy,zAw wf,zPy];first|(refine zCy (Q:=Q_) (fun hp_=>?_) (fun hp_=>?_) <;> first|(exfalso;omega)|(refine hQ_ _ _ ?_;clear hQ_ Q_))|(refine zBy (Q:=Q_) (fun hp_=>?_) (fun hp_=>?_) <;> first|(exfalso;omega)|(refine hQ_ _ _ ?_;clear hQ_ Q_))|(refine hQ_ _ _ ?_;clear hQ_ Q_)))
  | (refine zFv fun K_ hK_=>?_;simp (disch:=omega) only [zFx,zAz,zGz,↓reduceIte,reduceCtorEq,Nat.reduceEqDiff,Nat.reduceLT];refine hK_ _ ?_;clear hK_ K_)))
        refine zMw [.no,.no,.no,.no,.no,.no,.full] (by kernel_rfl) ?_
        (repeat' (first
  | (with_reducible first|refine zJz ?_|refine zGw ?_|refine zEw ?_|refine zEx ?_|refine zEv ?_|refine zJy ?_|refine zGv ?_|refine zBw ?_|refine zDx ?_|refine zBv ?_|refine zCx ?_|refine zEz ?_|refine zCw ?_|refine zCz ?_|refine zBz ?_|refine zDv ?_|refine zDy ?_|refine zAx ?_|refine zAv ?_)
  | refine zCv ?_|refine zEy rfl ?_|refine zIw ?_|refine zIv ?_
  | ((first|refine zGx rfl rfl rfl rfl rfl fun K_ hK_=>?_|refine zGy rfl rfl rfl rfl rfl fun K_ hK_=>?_);simp only [zAz,zDz,zFw,↓reduceIte,reduceCtorEq,Nat.reduceEqDiff,Bool.not_true,Bool.not_false];refine hK_ _ ?_;clear hK_ K_)
  | refine zDw (by decide) ?_
  | ((try first|refine zJx rfl rfl rfl ?_|refine zIy rfl rfl ?_|refine zJv rfl rfl rfl ?_|refine zIx rfl rfl ?_);(refine zIz fun Q_ hQ_=>?_;simp (disch:=first|omega|(simp only [List.length_cons,List.length_nil,List.length_append];omega)) only [bb,bp,zKx,↓reduceIte,reduceCtorEq,Nat.reduceEqDiff,Nat.reduceLT,Nat.reduceLeDiff,Nat.reduceAdd,Nat.reduceMul,Nat.reduceSub,Nat.reduceBEq,Int.reduceToNat,cond_true,cond_false,eq_self,beq_self_eq_true,g0,g1,g2,g4',g5,g16,g19,j2,j3,hcell,hG,heq,zHz wf,zHx wf,zFz wf,zHy wf,zBx wf,zFy,tEvbT16,zHw,zKy,zAw wf,zPy];first|(refine zCy (Q:=Q_) (fun hp_=>?_) (fun hp_=>?_) <;> first|(exfalso;omega)|(refine hQ_ _ _ ?_;clear hQ_ Q_))|(refine zBy (Q:=Q_) (fun hp_=>?_) (fun hp_=>?_) <;> first|(exfalso;omega)|(refine hQ_ _ _ ?_;clear hQ_ Q_))|(refine hQ_ _ _ ?_;clear hQ_ Q_)))
  | (refine zFv fun K_ hK_=>?_;simp (disch:=omega) only [zFx,zAz,zGz,↓reduceIte,reduceCtorEq,Nat.reduceEqDiff,Nat.reduceLT];refine hK_ _ ?_;clear hK_ K_)))
        rw [boF_step hlv hn,List.append_assoc] at hpre
        refine zVz (fun (s:Nat) f d h'=>s≤3∧(f 0 = .yld l∧f 1 = .ptr p 0∧f 2 = .ptr q 0∧f 4 = .ptr (nx hb0 0) 0)∧(f 16=ii (u:Int)∧f 5=ii (u:Int)∧f 19=ii (v:Int)∧f 6=ii (v:Int))∧f 33 = .agg [ii (tc Tb i u v 0),ii (tc Tb i u v 1),ii (tc Tb i u v 2)]∧f 34=ii (s:Int)∧d=[] ∧ ∃ hb J w pre,h'=X hb (ro :: J) w∧I pre.length hb∧pre++(sgF sp i Tb u v (3 - s)++(boF sp i Tb u (4 - v)++aoF sp i Tb (4 - u)))=ys∧lo≤w∧w≤hb.clock∧(∀ j,j<pre.length→w<c j)) (fun s=>3 - s) ?_ (3+1) 0 (by omega) ?_
        rotate_left 1
        · exact ⟨by omega,⟨by simp only [zAz,↓reduceIte,reduceCtorEq,Nat.reduceEqDiff];exact g0,by simp only [zAz,↓reduceIte,reduceCtorEq,Nat.reduceEqDiff];exact g1,by simp only [zAz,↓reduceIte,reduceCtorEq,Nat.reduceEqDiff];exact g2,by simp only [zAz,↓reduceIte,reduceCtorEq,Nat.reduceEqDiff];exact g4⟩,⟨by simp only [zAz,↓reduceIte,reduceCtorEq,Nat.reduceEqDiff];exact g16,by simp only [zAz,↓reduceIte,reduceCtorEq,Nat.reduceEqDiff];exact g5,by simp only [zAz,↓reduceIte,reduceCtorEq,Nat.reduceEqDiff];exact g19,by simp only [zAz,↓reduceIte,reduceCtorEq,Nat.reduceEqDiff]⟩,by simp only [zAz,↓reduceIte,reduceCtorEq,Nat.reduceEqDiff],by simp only [zAz,↓reduceIte,reduceCtorEq,Nat.reduceEqDiff];rfl,rfl,hb,J,w,pre,rfl,hIk,hpre,hlo,hw,hwc⟩
        clear g0 g1 g2 g4 g4' g5 g16 g19 wf hB hs hG j2 j3 hcell heq hIk hpre hlo hw hwc
        rintro s f d h' ⟨hs3,⟨g0,g1,g2,g4⟩,⟨g16,g5,g19,g6⟩,g33,g34,rfl,hb,J,w,pre,rfl,hIk,hpre,hlo,hw,hwc⟩
        have hB:=(hI _ hb hIk).1
        have wf:=hB.wf
        have hs:=(hI _ hb hIk).2
        by_cases hls:s<3
        · have hlp:=hB.lp
          have hlq:=hB.lq
          obtain ⟨id0,off0,hix0,hld0⟩:=hB.sl.at wf i1 yLz
          obtain ⟨id1,off1,hix1,hld1⟩:=hB.sl.at wf i2 yLz
          have hlo0 : ∀ l w,load1 id0 off0 (X hb l w)=some (ii (spot sp (i - 1)).1):=fun l w=>by have:=(hld0 l w).1 0 (by decide);rw [Nat.add_zero,(zUx i1).1,zPz] at this;exact this
          have hlo1 : ∀ l w,load1 id1 off1 (X hb l w)=some (ii (spot sp i).1):=fun l w=>by have:=(hld1 l w).1 0 (by decide);rw [Nat.add_zero,(zUx i2).1,zPz] at this;exact this
          have hidx : ∀ (x:Operand),indexE Tryd.prog 95 (.agg [ii (tc Tb i u v 0),ii (tc Tb i u v 1),ii (tc Tb i u v 2)]) (.int .i64 (s:Int))=some (ii (tc Tb i u v s)):=fun x=>index_agg un_95 sz_2 ia_2 hls (by
            rcases (show s=0∨s=1∨s=2 by omega) with rfl|rfl|rfl <;> rfl)
          have hidx':=hidx (.tmp 0)
          have hsA : ∀ w',w'≤hb.clock+(J.length+2)→(om Tryd.prog KK).call (.fn 30 [.sl (nx hb (J.length+1)) 0 2 (some 2) 1]) (X hb (ro :: (J++[.cells (zAy [ii (spot sp (i - 1)).1,ii (u:Int)]) 2])) w') = .ok (ii ((spot sp (i - 1)).1+(u:Int))) (X hb (ro :: (J++[.cells (zAy [ii (spot sp (i - 1)).1,ii (u:Int)]) 2])) w'):=fun w' hw'=>sum2 wf (by rw [List.getElem?_cons_succ,zNx];rfl) (by simp only [List.length_append,List.length_cons,List.length_nil];omega) (by omega) (by omega)
          have hsB : ∀ (o:AO) w',w'≤hb.clock+(J.length+3)→(om Tryd.prog KK).call (.fn 30 [.sl (nx hb (J.length+1+1)) 0 2 (some 2) 1]) (X hb (ro :: (J++[o,.cells (zAy [ii (spot sp i).1,ii (v:Int)]) 2])) w') = .ok (ii ((spot sp i).1+(v:Int))) (X hb (ro :: (J++[o,.cells (zAy [ii (spot sp i).1,ii (v:Int)]) 2])) w'):=fun o w' hw'=>sum2 wf (by rw [List.getElem?_cons_succ,zLw];rfl) (by simp only [List.length_append,List.length_cons,List.length_nil];omega) (by omega) (by omega)
          have g4':=g4
          rw [← hs.nx] at g4'
          clear hidx
          by_cases hfar:tc Tb i u v s<farI
          · rw [sgF_step hls hfar,List.cons_append] at hpre
            have hget:(ylds ys)[pre.length]? = some [stv (stt sp i u v s),ii (tc Tb i u v s)]:=by
              unfold ylds
              rw [List.getElem?_map,← hpre,zNx];rfl
            have hst:stv (stt sp i u v s) = .agg [ii (i:Int),ii ((spot sp (i - 1)).1+(u:Int)),ii ((spot sp i).1+(v:Int)),ii (s:Int)]:=rfl
            rw [hst] at hget
            have hfar':tc Tb i u v s<1099511627776:=hfar
            clear hst hfar
            generalize hst:stt sp i u v s=xst at hpre
            generalize tc Tb i u v s=tv at *
            (repeat' (first
  | (with_reducible first|refine zJz ?_|refine zGw ?_|refine zEw ?_|refine zEx ?_|refine zEv ?_|refine zJy ?_|refine zGv ?_|refine zBw ?_|refine zDx ?_|refine zBv ?_|refine zCx ?_|refine zEz ?_|refine zCw ?_|refine zCz ?_|refine zBz ?_|refine zDv ?_|refine zDy ?_|refine zAx ?_|refine zAv ?_)
  | refine zCv ?_|refine zEy rfl ?_|refine zIw ?_|refine zIv ?_
  | ((first|refine zGx rfl rfl rfl rfl rfl fun K_ hK_=>?_|refine zGy rfl rfl rfl rfl rfl fun K_ hK_=>?_);simp only [zAz,zDz,zFw,↓reduceIte,reduceCtorEq,Nat.reduceEqDiff,Bool.not_true,Bool.not_false];refine hK_ _ ?_;clear hK_ K_)
  | refine zDw (by decide) ?_
  | ((try first|refine zJx rfl rfl rfl ?_|refine zIy rfl rfl ?_|refine zJv rfl rfl rfl ?_|refine zIx rfl rfl ?_);(refine zIz fun Q_ hQ_=>?_;simp (disch:=first|omega|(simp only [List.length_cons,List.length_nil,List.length_append];omega)) only [bb,bp,zKx,↓reduceIte,reduceCtorEq,Nat.reduceEqDiff,Nat.reduceLT,Nat.reduceLeDiff,Nat.reduceAdd,Nat.reduceMul,Nat.reduceSub,Nat.reduceBEq,Int.reduceToNat,cond_true,cond_false,eq_self,beq_self_eq_true,g0,g1,g2,g4',g5,g16,g19,g6,g33,g34,hidx',hlp,hlq,e1,hix0,hix1,hlo0,hlo1,hsA,hsB,zHz wf,zHx wf,zFz wf,zHy wf,zBx wf,zFy,tEvbT16,zHw,zKy,zAw wf,zPy];first|(refine zCy (Q:=Q_) (fun hp_=>?_) (fun hp_=>?_) <;> first|(exfalso;omega)|(refine hQ_ _ _ ?_;clear hQ_ Q_))|(refine zBy (Q:=Q_) (fun hp_=>?_) (fun hp_=>?_) <;> first|(exfalso;omega)|(refine hQ_ _ _ ?_;clear hQ_ Q_))|(refine hQ_ _ _ ?_;clear hQ_ Q_)))
  | (refine zFv fun K_ hK_=>?_;simp (disch:=omega) only [zFx,zAz,zGz,↓reduceIte,reduceCtorEq,Nat.reduceEqDiff,Nat.reduceLT];refine hK_ _ ?_;clear hK_ K_)))
            refine zMw [.no,.no,.no,.no,.no,.no,.no,.no,.no,.no,.no,.no,.no,.no,.no,.no,.no,.no,.no,.no,.no,.no,.no,.no,.no,.no,.no,.full] (by kernel_rfl) ?_
            (repeat' (first
  | (with_reducible first|refine zJz ?_|refine zGw ?_|refine zEw ?_|refine zEx ?_|refine zEv ?_|refine zJy ?_|refine zGv ?_|refine zBw ?_|refine zDx ?_|refine zBv ?_|refine zCx ?_|refine zEz ?_|refine zCw ?_|refine zCz ?_|refine zBz ?_|refine zDv ?_|refine zDy ?_|refine zAx ?_|refine zAv ?_)
  | refine zCv ?_|refine zEy rfl ?_|refine zIw ?_|refine zIv ?_
  | ((first|refine zGx rfl rfl rfl rfl rfl fun K_ hK_=>?_|refine zGy rfl rfl rfl rfl rfl fun K_ hK_=>?_);simp only [zAz,zDz,zFw,↓reduceIte,reduceCtorEq,Nat.reduceEqDiff,Bool.not_true,Bool.not_false];refine hK_ _ ?_;clear hK_ K_)
  | refine zDw (by decide) ?_
  | ((try first|refine zJx rfl rfl rfl ?_|refine zIy rfl rfl ?_|refine zJv rfl rfl rfl ?_|refine zIx rfl rfl ?_);(refine zIz fun Q_ hQ_=>?_;simp (disch:=first|omega|(simp only [List.length_cons,List.length_nil,List.length_append];omega)) only [bb,bp,zKx,↓reduceIte,reduceCtorEq,Nat.reduceEqDiff,Nat.reduceLT,Nat.reduceLeDiff,Nat.reduceAdd,Nat.reduceMul,Nat.reduceSub,Nat.reduceBEq,Int.reduceToNat,cond_true,cond_false,eq_self,beq_self_eq_true,g0,g1,g2,g4',g5,g16,g19,g6,g33,g34,hidx',hlp,hlq,e1,hix0,hix1,hlo0,hlo1,hsA,hsB,zHz wf,zHx wf,zFz wf,zHy wf,zBx wf,zFy,tEvbT16,zHw,zKy,zAw wf,zPy];first|(refine zCy (Q:=Q_) (fun hp_=>?_) (fun hp_=>?_) <;> first|(exfalso;omega)|(refine hQ_ _ _ ?_;clear hQ_ Q_))|(refine zBy (Q:=Q_) (fun hp_=>?_) (fun hp_=>?_) <;> first|(exfalso;omega)|(refine hQ_ _ _ ?_;clear hQ_ Q_))|(refine hQ_ _ _ ?_;clear hQ_ Q_)))
  | (refine zFv fun K_ hK_=>?_;simp (disch:=omega) only [zFx,zAz,zGz,↓reduceIte,reduceCtorEq,Nat.reduceEqDiff,Nat.reduceLT];refine hK_ _ ?_;clear hK_ K_)))
            refine zIz fun Q_ hQ_=>?_
            simp (disch:=first|omega|(simp only [List.length_cons,List.length_nil,List.length_append];omega)) only [bb,bp,zKx,↓reduceIte,reduceCtorEq,Nat.reduceEqDiff,Nat.reduceLT,Nat.reduceLeDiff,Nat.reduceAdd,Nat.reduceMul,Nat.reduceSub,Nat.reduceBEq,Int.reduceToNat,cond_true,cond_false,eq_self,beq_self_eq_true,ySw,g0,zFz wf,tEvbT16,zHw,zKy,zAw wf,zPy]
            refine WV_yieldOC (hy _ _ hget hb _ _ hIk (by omega) (by simp only [List.length_cons,List.length_append,List.length_nil];omega)) (fun hb' J' w' sm hl' hle'=>⟨fun hw' hI'=>hQ_ _ _ ?_,fun hw' hD'=>hQ_ _ _ ?_⟩)
            · clear hQ_ Q_
              have sc:=sm.clock
              (repeat' (first
  | (with_reducible first|refine zJz ?_|refine zGw ?_|refine zEw ?_|refine zEx ?_|refine zEv ?_|refine zJy ?_|refine zGv ?_|refine zBw ?_|refine zDx ?_|refine zBv ?_|refine zCx ?_|refine zEz ?_|refine zCw ?_|refine zCz ?_|refine zBz ?_|refine zDv ?_|refine zDy ?_|refine zAx ?_|refine zAv ?_)
  | refine zCv ?_|refine zEy rfl ?_|refine zIw ?_|refine zIv ?_
  | ((first|refine zGx rfl rfl rfl rfl rfl fun K_ hK_=>?_|refine zGy rfl rfl rfl rfl rfl fun K_ hK_=>?_);simp only [zAz,zDz,zFw,↓reduceIte,reduceCtorEq,Nat.reduceEqDiff,Bool.not_true,Bool.not_false];refine hK_ _ ?_;clear hK_ K_)
  | refine zDw (by decide) ?_
  | ((try first|refine zJx rfl rfl rfl ?_|refine zIy rfl rfl ?_|refine zJv rfl rfl rfl ?_|refine zIx rfl rfl ?_);(refine zIz fun Q_ hQ_=>?_;simp (disch:=first|omega|(simp only [List.length_cons,List.length_nil,List.length_append];omega)) only [bb,bp,zKx,↓reduceIte,reduceCtorEq,Nat.reduceEqDiff,Nat.reduceLT,Nat.reduceLeDiff,Nat.reduceAdd,Nat.reduceMul,Nat.reduceSub,Nat.reduceBEq,Int.reduceToNat,cond_true,cond_false,eq_self,beq_self_eq_true,g0,g1,g2,g4,g5,g16,g19,g6,g33,g34,tEvbT16,zHw,zKy,zAw wf,zPy];first|(refine zCy (Q:=Q_) (fun hp_=>?_) (fun hp_=>?_) <;> first|(exfalso;omega)|(refine hQ_ _ _ ?_;clear hQ_ Q_))|(refine zBy (Q:=Q_) (fun hp_=>?_) (fun hp_=>?_) <;> first|(exfalso;omega)|(refine hQ_ _ _ ?_;clear hQ_ Q_))|(refine hQ_ _ _ ?_;clear hQ_ Q_)))
  | (refine zFv fun K_ hK_=>?_;simp (disch:=omega) only [zFx,zAz,zGz,↓reduceIte,reduceCtorEq,Nat.reduceEqDiff,Nat.reduceLT];refine hK_ _ ?_;clear hK_ K_)))
              rw [← app_assoc1] at hpre
              exact zKw (s+1) (by omega) ⟨hls,⟨by simp only [zAz,↓reduceIte,reduceCtorEq,Nat.reduceEqDiff];exact g0,by simp only [zAz,↓reduceIte,reduceCtorEq,Nat.reduceEqDiff];exact g1,by simp only [zAz,↓reduceIte,reduceCtorEq,Nat.reduceEqDiff];exact g2,by simp only [zAz,↓reduceIte,reduceCtorEq,Nat.reduceEqDiff];exact g4⟩,⟨by simp only [zAz,↓reduceIte,reduceCtorEq,Nat.reduceEqDiff];exact g16,by simp only [zAz,↓reduceIte,reduceCtorEq,Nat.reduceEqDiff];exact g5,by simp only [zAz,↓reduceIte,reduceCtorEq,Nat.reduceEqDiff];exact g19,by simp only [zAz,↓reduceIte,reduceCtorEq,Nat.reduceEqDiff];exact g6⟩,by simp only [zAz,↓reduceIte,reduceCtorEq,Nat.reduceEqDiff];exact g33,by simp only [zAz,↓reduceIte,reduceCtorEq,Nat.reduceEqDiff];rfl,rfl,hb',_,_,pre++[(xst,tv)],rfl,by rw [List.length_append];exact hI',by rw [show 3 - (s+1)=2 - s from by omega];exact hpre,by omega,by omega,fun j hj=>by
                rw [List.length_append,List.length_cons,List.length_nil] at hj
                by_cases e:j=pre.length
                · rw [e];omega
                · have:=hwc j (by omega);omega⟩
            · clear hQ_ Q_
              have sc:=sm.clock
              have wf':=hD _ hD'
              (repeat' (first
  | (with_reducible first|refine zJz ?_|refine zGw ?_|refine zEw ?_|refine zEx ?_|refine zEv ?_|refine zJy ?_|refine zGv ?_|refine zBw ?_|refine zDx ?_|refine zBv ?_|refine zCx ?_|refine zEz ?_|refine zCw ?_|refine zCz ?_|refine zBz ?_|refine zDv ?_|refine zDy ?_|refine zAx ?_|refine zAv ?_)
  | refine zCv ?_|refine zEy rfl ?_|refine zIw ?_|refine zIv ?_
  | ((first|refine zGx rfl rfl rfl rfl rfl fun K_ hK_=>?_|refine zGy rfl rfl rfl rfl rfl fun K_ hK_=>?_);simp only [zAz,zDz,zFw,↓reduceIte,reduceCtorEq,Nat.reduceEqDiff,Bool.not_true,Bool.not_false];refine hK_ _ ?_;clear hK_ K_)
  | refine zDw (by decide) ?_
  | ((try first|refine zJx rfl rfl rfl ?_|refine zIy rfl rfl ?_|refine zJv rfl rfl rfl ?_|refine zIx rfl rfl ?_);(refine zIz fun Q_ hQ_=>?_;simp (disch:=first|omega|(simp only [List.length_cons,List.length_nil,List.length_append];omega)) only [bb,bp,zKx,↓reduceIte,reduceCtorEq,Nat.reduceEqDiff,Nat.reduceLT,Nat.reduceLeDiff,Nat.reduceAdd,Nat.reduceMul,Nat.reduceSub,Nat.reduceBEq,Int.reduceToNat,cond_true,cond_false,eq_self,beq_self_eq_true,g0,g1,g2,g4,g5,g16,g19,g6,g33,g34,tEvbT16,zHw,zKy,zAw wf,zPy];first|(refine zCy (Q:=Q_) (fun hp_=>?_) (fun hp_=>?_) <;> first|(exfalso;omega)|(refine hQ_ _ _ ?_;clear hQ_ Q_))|(refine zBy (Q:=Q_) (fun hp_=>?_) (fun hp_=>?_) <;> first|(exfalso;omega)|(refine hQ_ _ _ ?_;clear hQ_ Q_))|(refine hQ_ _ _ ?_;clear hQ_ Q_)))
  | (refine zFv fun K_ hK_=>?_;simp (disch:=omega) only [zFx,zAz,zGz,↓reduceIte,reduceCtorEq,Nat.reduceEqDiff,Nat.reduceLT];refine hK_ _ ?_;clear hK_ K_)))
              have hs':=hs.trans sm
              have hsc:=hs'.clock
              exact zJw _ (.tup []) rfl rfl (yPz (by omega) ⟨hb',_,_,rfl,hs',by omega,Nat.min_le_left _ _,.inr ⟨hD',by omega⟩⟩)
          · rw [sgF_far hls hfar] at hpre
            have hfar' : ¬ tc Tb i u v s<1099511627776:=hfar
            clear hfar
            generalize hsg:sgF sp i Tb u v (2 - s)=sgr at hpre
            generalize tc Tb i u v s=tv at *
            (repeat' (first
  | (with_reducible first|refine zJz ?_|refine zGw ?_|refine zEw ?_|refine zEx ?_|refine zEv ?_|refine zJy ?_|refine zGv ?_|refine zBw ?_|refine zDx ?_|refine zBv ?_|refine zCx ?_|refine zEz ?_|refine zCw ?_|refine zCz ?_|refine zBz ?_|refine zDv ?_|refine zDy ?_|refine zAx ?_|refine zAv ?_)
  | refine zCv ?_|refine zEy rfl ?_|refine zIw ?_|refine zIv ?_
  | ((first|refine zGx rfl rfl rfl rfl rfl fun K_ hK_=>?_|refine zGy rfl rfl rfl rfl rfl fun K_ hK_=>?_);simp only [zAz,zDz,zFw,↓reduceIte,reduceCtorEq,Nat.reduceEqDiff,Bool.not_true,Bool.not_false];refine hK_ _ ?_;clear hK_ K_)
  | refine zDw (by decide) ?_
  | ((try first|refine zJx rfl rfl rfl ?_|refine zIy rfl rfl ?_|refine zJv rfl rfl rfl ?_|refine zIx rfl rfl ?_);(refine zIz fun Q_ hQ_=>?_;simp (disch:=first|omega|(simp only [List.length_cons,List.length_nil,List.length_append];omega)) only [bb,bp,zKx,↓reduceIte,reduceCtorEq,Nat.reduceEqDiff,Nat.reduceLT,Nat.reduceLeDiff,Nat.reduceAdd,Nat.reduceMul,Nat.reduceSub,Nat.reduceBEq,Int.reduceToNat,cond_true,cond_false,eq_self,beq_self_eq_true,g0,g1,g2,g4',g5,g16,g19,g6,g33,g34,hidx',hlp,hlq,e1,hix0,hix1,hlo0,hlo1,hsA,hsB,zHz wf,zHx wf,zFz wf,zHy wf,zBx wf,zFy,tEvbT16,zHw,zKy,zAw wf,zPy];first|(refine zCy (Q:=Q_) (fun hp_=>?_) (fun hp_=>?_) <;> first|(exfalso;omega)|(refine hQ_ _ _ ?_;clear hQ_ Q_))|(refine zBy (Q:=Q_) (fun hp_=>?_) (fun hp_=>?_) <;> first|(exfalso;omega)|(refine hQ_ _ _ ?_;clear hQ_ Q_))|(refine hQ_ _ _ ?_;clear hQ_ Q_)))
  | (refine zFv fun K_ hK_=>?_;simp (disch:=omega) only [zFx,zAz,zGz,↓reduceIte,reduceCtorEq,Nat.reduceEqDiff,Nat.reduceLT];refine hK_ _ ?_;clear hK_ K_)))
            refine zMw [.no,.no,.no,.no,.no,.no,.no,.no,.no,.no,.no,.no,.no,.no,.no,.no,.no,.no,.no,.no,.no,.no,.no,.no,.no,.no,.no,.full] (by kernel_rfl) ?_
            (repeat' (first
  | (with_reducible first|refine zJz ?_|refine zGw ?_|refine zEw ?_|refine zEx ?_|refine zEv ?_|refine zJy ?_|refine zGv ?_|refine zBw ?_|refine zDx ?_|refine zBv ?_|refine zCx ?_|refine zEz ?_|refine zCw ?_|refine zCz ?_|refine zBz ?_|refine zDv ?_|refine zDy ?_|refine zAx ?_|refine zAv ?_)
  | refine zCv ?_|refine zEy rfl ?_|refine zIw ?_|refine zIv ?_
  | ((first|refine zGx rfl rfl rfl rfl rfl fun K_ hK_=>?_|refine zGy rfl rfl rfl rfl rfl fun K_ hK_=>?_);simp only [zAz,zDz,zFw,↓reduceIte,reduceCtorEq,Nat.reduceEqDiff,Bool.not_true,Bool.not_false];refine hK_ _ ?_;clear hK_ K_)
  | refine zDw (by decide) ?_
  | ((try first|refine zJx rfl rfl rfl ?_|refine zIy rfl rfl ?_|refine zJv rfl rfl rfl ?_|refine zIx rfl rfl ?_);(refine zIz fun Q_ hQ_=>?_;simp (disch:=first|omega|(simp only [List.length_cons,List.length_nil,List.length_append];omega)) only [bb,bp,zKx,↓reduceIte,reduceCtorEq,Nat.reduceEqDiff,Nat.reduceLT,Nat.reduceLeDiff,Nat.reduceAdd,Nat.reduceMul,Nat.reduceSub,Nat.reduceBEq,Int.reduceToNat,cond_true,cond_false,eq_self,beq_self_eq_true,g0,g1,g2,g4',g5,g16,g19,g6,g33,g34,hidx',hlp,hlq,e1,hix0,hix1,hlo0,hlo1,hsA,hsB,zHz wf,zHx wf,zFz wf,zHy wf,zBx wf,zFy,tEvbT16,zHw,zKy,zAw wf,zPy];first|(refine zCy (Q:=Q_) (fun hp_=>?_) (fun hp_=>?_) <;> first|(exfalso;omega)|(refine hQ_ _ _ ?_;clear hQ_ Q_))|(refine zBy (Q:=Q_) (fun hp_=>?_) (fun hp_=>?_) <;> first|(exfalso;omega)|(refine hQ_ _ _ ?_;clear hQ_ Q_))|(refine hQ_ _ _ ?_;clear hQ_ Q_)))
  | (refine zFv fun K_ hK_=>?_;simp (disch:=omega) only [zFx,zAz,zGz,↓reduceIte,reduceCtorEq,Nat.reduceEqDiff,Nat.reduceLT];refine hK_ _ ?_;clear hK_ K_)))
            rw [← hsg] at hpre
            exact zKw (s+1) (by omega) ⟨hls,⟨by simp only [zAz,↓reduceIte,reduceCtorEq,Nat.reduceEqDiff];exact g0,by simp only [zAz,↓reduceIte,reduceCtorEq,Nat.reduceEqDiff];exact g1,by simp only [zAz,↓reduceIte,reduceCtorEq,Nat.reduceEqDiff];exact g2,by simp only [zAz,↓reduceIte,reduceCtorEq,Nat.reduceEqDiff];exact g4⟩,⟨by simp only [zAz,↓reduceIte,reduceCtorEq,Nat.reduceEqDiff];exact g16,by simp only [zAz,↓reduceIte,reduceCtorEq,Nat.reduceEqDiff];exact g5,by simp only [zAz,↓reduceIte,reduceCtorEq,Nat.reduceEqDiff];exact g19,by simp only [zAz,↓reduceIte,reduceCtorEq,Nat.reduceEqDiff];exact g6⟩,by simp only [zAz,↓reduceIte,reduceCtorEq,Nat.reduceEqDiff];exact g33,by simp only [zAz,↓reduceIte,reduceCtorEq,Nat.reduceEqDiff];rfl,rfl,hb,_,_,pre,rfl,hIk,by rw [show 3 - (s+1)=2 - s from by omega];exact hpre,by omega,by omega,fun j hj=>by have:=hwc j hj;omega⟩
        · have hse:s=3:=by omega
          subst hse
          (repeat' (first
  | (with_reducible first|refine zJz ?_|refine zGw ?_|refine zEw ?_|refine zEx ?_|refine zEv ?_|refine zJy ?_|refine zGv ?_|refine zBw ?_|refine zDx ?_|refine zBv ?_|refine zCx ?_|refine zEz ?_|refine zCw ?_|refine zCz ?_|refine zBz ?_|refine zDv ?_|refine zDy ?_|refine zAx ?_|refine zAv ?_)
  | refine zCv ?_|refine zEy rfl ?_|refine zIw ?_|refine zIv ?_
  | ((first|refine zGx rfl rfl rfl rfl rfl fun K_ hK_=>?_|refine zGy rfl rfl rfl rfl rfl fun K_ hK_=>?_);simp only [zAz,zDz,zFw,↓reduceIte,reduceCtorEq,Nat.reduceEqDiff,Bool.not_true,Bool.not_false];refine hK_ _ ?_;clear hK_ K_)
  | refine zDw (by decide) ?_
  | ((try first|refine zJx rfl rfl rfl ?_|refine zIy rfl rfl ?_|refine zJv rfl rfl rfl ?_|refine zIx rfl rfl ?_);(refine zIz fun Q_ hQ_=>?_;simp (disch:=first|omega|(simp only [List.length_cons,List.length_nil,List.length_append];omega)) only [bb,bp,zKx,↓reduceIte,reduceCtorEq,Nat.reduceEqDiff,Nat.reduceLT,Nat.reduceLeDiff,Nat.reduceAdd,Nat.reduceMul,Nat.reduceSub,Nat.reduceBEq,Int.reduceToNat,cond_true,cond_false,eq_self,beq_self_eq_true,g0,g1,g2,g4,g5,g16,g19,g6,g33,g34,tEvbT16,zHw,zKy,zAw wf,zPy];first|(refine zCy (Q:=Q_) (fun hp_=>?_) (fun hp_=>?_) <;> first|(exfalso;omega)|(refine hQ_ _ _ ?_;clear hQ_ Q_))|(refine zBy (Q:=Q_) (fun hp_=>?_) (fun hp_=>?_) <;> first|(exfalso;omega)|(refine hQ_ _ _ ?_;clear hQ_ Q_))|(refine hQ_ _ _ ?_;clear hQ_ Q_)))
  | (refine zFv fun K_ hK_=>?_;simp (disch:=omega) only [zFx,zAz,zGz,↓reduceIte,reduceCtorEq,Nat.reduceEqDiff,Nat.reduceLT];refine hK_ _ ?_;clear hK_ K_)))
          exact zKw (v+1) (by omega) ⟨hlv,⟨by simp only [zAz,↓reduceIte,reduceCtorEq,Nat.reduceEqDiff];exact g0,by simp only [zAz,↓reduceIte,reduceCtorEq,Nat.reduceEqDiff];exact g1,by simp only [zAz,↓reduceIte,reduceCtorEq,Nat.reduceEqDiff];exact g2,by simp only [zAz,↓reduceIte,reduceCtorEq,Nat.reduceEqDiff];exact g4⟩,⟨by simp only [zAz,↓reduceIte,reduceCtorEq,Nat.reduceEqDiff];exact g16,by simp only [zAz,↓reduceIte,reduceCtorEq,Nat.reduceEqDiff];exact g5⟩,by simp only [zAz,↓reduceIte,reduceCtorEq,Nat.reduceEqDiff];rfl,rfl,hb,J,w,pre,rfl,hIk,by rw [show 5 - (v+1)=4 - v from by omega];exact hpre,hlo,hw,hwc⟩
    · have hve:v=5:=by omega
      subst hve
      (repeat' (first
  | (with_reducible first|refine zJz ?_|refine zGw ?_|refine zEw ?_|refine zEx ?_|refine zEv ?_|refine zJy ?_|refine zGv ?_|refine zBw ?_|refine zDx ?_|refine zBv ?_|refine zCx ?_|refine zEz ?_|refine zCw ?_|refine zCz ?_|refine zBz ?_|refine zDv ?_|refine zDy ?_|refine zAx ?_|refine zAv ?_)
  | refine zCv ?_|refine zEy rfl ?_|refine zIw ?_|refine zIv ?_
  | ((first|refine zGx rfl rfl rfl rfl rfl fun K_ hK_=>?_|refine zGy rfl rfl rfl rfl rfl fun K_ hK_=>?_);simp only [zAz,zDz,zFw,↓reduceIte,reduceCtorEq,Nat.reduceEqDiff,Bool.not_true,Bool.not_false];refine hK_ _ ?_;clear hK_ K_)
  | refine zDw (by decide) ?_
  | ((try first|refine zJx rfl rfl rfl ?_|refine zIy rfl rfl ?_|refine zJv rfl rfl rfl ?_|refine zIx rfl rfl ?_);(refine zIz fun Q_ hQ_=>?_;simp (disch:=first|omega|(simp only [List.length_cons,List.length_nil,List.length_append];omega)) only [bb,bp,zKx,↓reduceIte,reduceCtorEq,Nat.reduceEqDiff,Nat.reduceLT,Nat.reduceLeDiff,Nat.reduceAdd,Nat.reduceMul,Nat.reduceSub,Nat.reduceBEq,Int.reduceToNat,cond_true,cond_false,eq_self,beq_self_eq_true,g0,g1,g2,g4,g5,g16,g19,tEvbT16,zHw,zKy,zAw wf,zPy];first|(refine zCy (Q:=Q_) (fun hp_=>?_) (fun hp_=>?_) <;> first|(exfalso;omega)|(refine hQ_ _ _ ?_;clear hQ_ Q_))|(refine zBy (Q:=Q_) (fun hp_=>?_) (fun hp_=>?_) <;> first|(exfalso;omega)|(refine hQ_ _ _ ?_;clear hQ_ Q_))|(refine hQ_ _ _ ?_;clear hQ_ Q_)))
  | (refine zFv fun K_ hK_=>?_;simp (disch:=omega) only [zFx,zAz,zGz,↓reduceIte,reduceCtorEq,Nat.reduceEqDiff,Nat.reduceLT];refine hK_ _ ?_;clear hK_ K_)))
      exact zKw (u+1) (by omega) ⟨hlu,⟨by simp only [zAz,↓reduceIte,reduceCtorEq,Nat.reduceEqDiff];exact g0,by simp only [zAz,↓reduceIte,reduceCtorEq,Nat.reduceEqDiff];exact g1,by simp only [zAz,↓reduceIte,reduceCtorEq,Nat.reduceEqDiff];exact g2,by simp only [zAz,↓reduceIte,reduceCtorEq,Nat.reduceEqDiff];exact g4⟩,by simp only [zAz,↓reduceIte,reduceCtorEq,Nat.reduceEqDiff];rfl,rfl,hb,J,w,pre,rfl,hIk,by rw [show 5 - (u+1)=4 - u from by omega];exact hpre,hlo,hw,hwc⟩
  · have hue:u=5:=by omega
    subst hue
    have hs:=(hI _ hb hIk).2
    have sc:=hs.clock
    have hpl:pre=ys:=by have:pre++[]=ys:=hpre;rwa [List.append_nil] at this
    subst hpl
    (repeat' (first
  | (with_reducible first|refine zJz ?_|refine zGw ?_|refine zEw ?_|refine zEx ?_|refine zEv ?_|refine zJy ?_|refine zGv ?_|refine zBw ?_|refine zDx ?_|refine zBv ?_|refine zCx ?_|refine zEz ?_|refine zCw ?_|refine zCz ?_|refine zBz ?_|refine zDv ?_|refine zDy ?_|refine zAx ?_|refine zAv ?_)
  | refine zCv ?_|refine zEy rfl ?_|refine zIw ?_|refine zIv ?_
  | ((first|refine zGx rfl rfl rfl rfl rfl fun K_ hK_=>?_|refine zGy rfl rfl rfl rfl rfl fun K_ hK_=>?_);simp only [zAz,zDz,zFw,↓reduceIte,reduceCtorEq,Nat.reduceEqDiff,Bool.not_true,Bool.not_false];refine hK_ _ ?_;clear hK_ K_)
  | refine zDw (by decide) ?_
  | ((try first|refine zJx rfl rfl rfl ?_|refine zIy rfl rfl ?_|refine zJv rfl rfl rfl ?_|refine zIx rfl rfl ?_);(refine zIz fun Q_ hQ_=>?_;simp (disch:=first|omega|(simp only [List.length_cons,List.length_nil,List.length_append];omega)) only [bb,bp,zKx,↓reduceIte,reduceCtorEq,Nat.reduceEqDiff,Nat.reduceLT,Nat.reduceLeDiff,Nat.reduceAdd,Nat.reduceMul,Nat.reduceSub,Nat.reduceBEq,Int.reduceToNat,cond_true,cond_false,eq_self,beq_self_eq_true,g0,g1,g2,g4,g16,tEvbT16,zHw,zKy,zAw wf,zPy];first|(refine zCy (Q:=Q_) (fun hp_=>?_) (fun hp_=>?_) <;> first|(exfalso;omega)|(refine hQ_ _ _ ?_;clear hQ_ Q_))|(refine zBy (Q:=Q_) (fun hp_=>?_) (fun hp_=>?_) <;> first|(exfalso;omega)|(refine hQ_ _ _ ?_;clear hQ_ Q_))|(refine hQ_ _ _ ?_;clear hQ_ Q_)))
  | (refine zFv fun K_ hK_=>?_;simp (disch:=omega) only [zFx,zAz,zGz,↓reduceIte,reduceCtorEq,Nat.reduceEqDiff,Nat.reduceLT];refine hK_ _ ?_;clear hK_ K_)))
    have hlast:=hwc (pre.length - 1) (by omega)
    have hck:=hc0 (pre.length - 1)
    exact endQ_norm _ (.tup []) rfl rfl (yPz (by omega) ⟨hb,_,_,rfl,hs,by omega,Nat.min_le_left _ _,.inl ⟨by rw [hyl];exact hIk,fun j hj=>by rw [hyl] at hj;have:=hwc j hj;omega⟩⟩)
end Go.Proofs.YtkmdidplmfdikabDoor
end

section
namespace Go.Proofs.YtkmdidplmfdikabDoor
open Go.Ev
set_option maxRecDepth 100000
set_option linter.unusedSimpArgs false
set_option linter.unusedVariables false

def relax (pf:Int→Int→Int→Int→Int) (sp:List (Int × Int)) (p:Stt × Int) (Tb:List Int) (c:Int):List Int:=Tb.set ((nxt p.1 c).ix sp) (min (Tb.getD ((nxt p.1 c).ix sp) 0) (p.2+pf p.1.a p.1.b p.1.s c))
def relaxC (pf:Int→Int→Int→Int→Int) (sp:List (Int × Int)) (i:Nat) (Tb:List Int) (p:Stt × Int):List Int:=(offs (spot sp (i+1))).foldl (relax pf sp p) Tb
def level (pf:Int→Int→Int→Int→Int) (sp:List (Int × Int)) (Tb:List Int) (i:Nat):List Int:=(reachL sp i Tb).foldl (relaxC pf sp i) Tb
def startT (sp:List (Int × Int)) (ys:List Stt):List Int:=ys.foldl (fun T x=>T.set (x.ix sp) 0) (List.replicate ((sp.length - 1) * 75) farI)
def paidU (pf:Int→Int→Int→Int→Int) (sp:List (Int × Int)):Nat→List Int
  | 0=>startT sp (startsL sp)
  | k+1=>level pf sp (paidU pf sp k) (k+1)
def paidT (pf:Int→Int→Int→Int→Int) (sp:List (Int × Int)):List Int:=paidU pf sp (sp.length - 2)

theorem getD_set {Tb:List Int} {k m:Nat} {v:Int} (hk:k<Tb.length):(Tb.set k v).getD m 0=if k=m then v else Tb.getD m 0:=by
  by_cases e:k=m
  · subst e;rw [if_pos rfl];simp [List.getD,hk]
  · rw [if_neg e];simp only [List.getD];rw [List.getElem?_set_ne e]
structure WT (sp:List (Int × Int)) (Tb:List Int):Prop where
  len:Tb.length=(sp.length - 1) * 75
  bd : ∀ m,0≤Tb.getD m 0∧Tb.getD m 0≤farI
  ok : ∀ i a b s,1≤i→i<sp.length→a<5→b<5→s<3→tc Tb i a b s<farI→(stt sp i a b s).Ok sp
theorem ix_stt {sp:List (Int × Int)} {i a b s:Nat} : (stt sp i a b s).ix sp=(i - 1) * 75+(a * 15+b * 3+s):=by
  unfold stt Stt.ix
  dsimp only
  rw [show ((spot sp (i - 1)).1+(a:Int) - (spot sp (i - 1)).1).toNat=a from by omega,show ((spot sp i).1+(b:Int) - (spot sp i).1).toNat=b from by omega]
  omega
theorem stt_of {sp:List (Int × Int)} (hsp:SpotsOK sp) {x:Stt} (hx:x.Ok sp) : ∃ a b,a<5∧b<5∧x.s<3∧x=stt sp x.i a b x.s:=by
  obtain ⟨⟨h1,h2⟩,h3,h4,h5⟩:=hx
  obtain ⟨_,_,_,n1⟩:=hsp.at (i:=x.i - 1) (by omega)
  obtain ⟨_,_,_,n2⟩:=hsp.at h2
  refine ⟨(x.a - (spot sp (x.i - 1)).1).toNat,(x.b - (spot sp x.i).1).toNat,by omega,by omega,h5,?_⟩
  obtain ⟨i,a,b,s⟩:=x
  unfold stt
  dsimp only at *
  rw [show (spot sp (i - 1)).1+((a - (spot sp (i - 1)).1).toNat:Int)=a from by omega,show (spot sp i).1+((b - (spot sp i).1).toNat:Int)=b from by omega]
theorem ix_inj {sp:List (Int × Int)} {i a b s i' a' b' s':Nat} (hi:1≤i) (hi':1≤i') (ha:a<5) (hb:b<5) (hs:s<3) (ha':a'<5) (hb':b'<5) (hs':s'<3) (e:(i - 1) * 75+(a * 15+b * 3+s)=(i' - 1) * 75+(a' * 15+b' * 3+s')):i=i'∧a=a'∧b=b'∧s=s':=by
  omega
theorem WT.set {sp:List (Int × Int)} (hsp:SpotsOK sp) {Tb:List Int} (x:WT sp Tb) {y:Stt} (hy:y.Ok sp) {v:Int} (hv:0≤v∧v≤farI):WT sp (Tb.set (y.ix sp) v):=by
  have hl:=(hy.lt hsp.narrow).1
  have hlt:y.ix sp<Tb.length:=by rw [x.len];exact hl
  refine ⟨by rw [List.length_set,x.len],fun m=>?_,fun i a b s h1 h2 h3 h4 h5 h6=>?_⟩
  · rw [getD_set hlt]
    by_cases e:y.ix sp=m
    · rw [if_pos e];exact hv
    · rw [if_neg e];exact x.bd m
  · unfold tc at h6
    rw [getD_set hlt] at h6
    by_cases e:y.ix sp=(i - 1) * 75+(a * 15+b * 3+s)
    · obtain ⟨a',b',k1,k2,k3,k4⟩:=stt_of hsp hy
      have e':=e
      rw [k4,ix_stt] at e'
      obtain ⟨e1,e2,e3,e4⟩:=ix_inj (sp:=sp) hy.1.1 h1 k1 k2 k3 h3 h4 h5 e'
      rw [← e1,← e2,← e3,← e4,← k4];exact hy
    · rw [if_neg e] at h6;exact x.ok i a b s h1 h2 h3 h4 h5 h6
theorem mem_sgF {sp:List (Int × Int)} {i:Nat} {Tb:List Int} {a b:Nat} {p:Stt × Int} : ∀ {m:Nat},m≤3→p ∈ sgF sp i Tb a b m → ∃ s,3 - m≤s∧s<3∧p=(stt sp i a b s,tc Tb i a b s)∧tc Tb i a b s<farI
  | 0,_,h=>by cases h
  | m+1,hm,h=>by
    unfold sgF at h
    rcases List.mem_append.1 h with h|h
    · split at h
      · rename_i hf
        rw [List.mem_singleton] at h
        exact ⟨2 - m,by omega,by omega,h,hf⟩
      · cases h
    · obtain ⟨s,h1,h2,h3⟩:=mem_sgF (by omega) h
      exact ⟨s,by omega,h2,h3⟩
theorem mem_boF {sp:List (Int × Int)} {i:Nat} {Tb:List Int} {a:Nat} {p:Stt × Int} : ∀ {m:Nat},m≤5→p ∈ boF sp i Tb a m → ∃ b s,b<5∧s<3∧p=(stt sp i a b s,tc Tb i a b s)∧tc Tb i a b s<farI
  | 0,_,h=>by cases h
  | m+1,hm,h=>by
    unfold boF at h
    split at h
    · cases h
    rcases List.mem_append.1 h with h|h
    · obtain ⟨s,_,h2,h3⟩:=mem_sgF (by omega) h
      exact ⟨4 - m,s,by omega,h2,h3⟩
    · exact mem_boF (by omega) h
theorem mem_aoF {sp:List (Int × Int)} {i:Nat} {Tb:List Int} {p:Stt × Int} : ∀ {m:Nat},m≤5→p ∈ aoF sp i Tb m → ∃ a b s,a<5∧b<5∧s<3∧p=(stt sp i a b s,tc Tb i a b s)∧tc Tb i a b s<farI
  | 0,_,h=>by cases h
  | m+1,hm,h=>by
    unfold aoF at h
    rcases List.mem_append.1 h with h|h
    · obtain ⟨b,s,h3⟩:=mem_boF (by omega) h
      exact ⟨4 - m,b,s,by omega,h3⟩
    · exact mem_aoF (by omega) h
theorem yGx {sp:List (Int × Int)} {i:Nat} {Tb:List Int} (w:WT sp Tb) (hi:1≤i∧i<sp.length) {p:Stt × Int} (h:p ∈ reachL sp i Tb):p.1.Ok sp∧p.1.i=i∧p.2=Tb.getD (p.1.ix sp) 0∧0≤p.2∧p.2<farI:=by
  obtain ⟨a,b,s,h1,h2,h3,rfl,h4⟩:=mem_aoF (Nat.le_refl 5) h
  have hb:=w.bd ((i - 1) * 75+(a * 15+b * 3+s))
  refine ⟨w.ok i a b s hi.1 hi.2 h1 h2 h3 h4,rfl,?_,hb.1,h4⟩
  show tc Tb i a b s=Tb.getD ((stt sp i a b s).ix sp) 0
  rw [ix_stt];rfl
end Go.Proofs.YtkmdidplmfdikabDoor
end

section
namespace Go.Proofs.YtkmdidplmfdikabDoor
open Go.Ev
set_option maxRecDepth 100000
set_option linter.unusedSimpArgs false
set_option linter.unusedVariables false

def tb (sp:List (Int × Int)) (Tb:List Int) (x:Stt):Int:=Tb.getD (x.ix sp) 0
theorem tb_set {sp:List (Int × Int)} (hsp:SpotsOK sp) {Tb:List Int} (w:WT sp Tb) {y:Stt} (hy:y.Ok sp) {v:Int} {x:Stt} (hx:x.Ok sp):(x=y→tb sp (Tb.set (y.ix sp) v) x=v)∧(x≠y→tb sp (Tb.set (y.ix sp) v) x=tb sp Tb x):=by
  have hlt:y.ix sp<Tb.length:=by rw [w.len];exact (hy.lt hsp.narrow).1
  unfold tb
  rw [getD_set hlt]
  exact ⟨fun e=>by rw [e,if_pos rfl],fun e=>by rw [if_neg (fun e2=>e (hx.inj hsp.narrow hy e2.symm))]⟩
structure RL (pf:Int→Int→Int→Int→Int) (sp:List (Int × Int)) (i:Nat) (qs:List ((Stt × Int) × Int)) (Tb T:List Int):Prop where
  wt:WT sp T
  same : ∀ x,x.Ok sp→x.i≠i+1→tb sp T x=tb sp Tb x
  mono : ∀ x,x.Ok sp→tb sp T x≤tb sp Tb x
  le : ∀ p c,(p,c) ∈ qs→tb sp T (nxt p.1 c)≤p.2+pf p.1.a p.1.b p.1.s c
  att : ∀ y,y.Ok sp→tb sp T y=tb sp Tb y ∨ ∃ p c,(p,c) ∈ qs∧nxt p.1 c=y∧tb sp T y=p.2+pf p.1.a p.1.b p.1.s c
structure StepIn (pf:Int→Int→Int→Int→Int) (sp:List (Int × Int)) (i:Nat) (q:(Stt × Int) × Int):Prop where
  ok:q.1.1.Ok sp
  at':q.1.1.i=i
  nx:i+1<sp.length
  c:(spot sp (i+1)).1≤q.2∧q.2≤(spot sp (i+1)).2
  bd:0≤q.1.2∧q.1.2<farI
  pf:0≤pf q.1.1.a q.1.1.b q.1.1.s q.2
theorem StepIn.nok {pf:Int→Int→Int→Int→Int} {sp:List (Int × Int)} {i:Nat} {q:(Stt × Int) × Int} (x:StepIn pf sp i q):(nxt q.1.1 q.2).Ok sp:=
  yWx x.ok (by rw [x.at'];exact x.nx) (by rw [x.at'];exact x.c)
theorem relax_wt {pf:Int→Int→Int→Int→Int} {sp:List (Int × Int)} (hsp:SpotsOK sp) {i:Nat} {Tb:List Int} (w:WT sp Tb) {q:(Stt × Int) × Int} (x:StepIn pf sp i q):WT sp (relax pf sp q.1 Tb q.2):=by
  refine w.set hsp x.nok ?_
  have h1:=w.bd ((nxt q.1.1 q.2).ix sp)
  have h2:=x.bd
  have h3:=x.pf
  omega
theorem RL.of {pf:Int→Int→Int→Int→Int} {sp:List (Int × Int)} (hsp:SpotsOK sp) {i:Nat} : ∀ (qs:List ((Stt × Int) × Int)) (Tb:List Int),WT sp Tb→(∀ q ∈ qs,StepIn pf sp i q)→RL pf sp i qs Tb (qs.foldl (fun T q=>relax pf sp q.1 T q.2) Tb)
  | [],Tb,w,_=>⟨w,fun _ _ _=>rfl,fun _ _=>Int.le_refl _,fun _ _ h=>(by cases h),fun _ _=>.inl rfl⟩
  | q :: qs,Tb,w,h=>by
    have hq:=h q (by simp)
    have hn:=hq.nok
    have w1:=relax_wt hsp w hq
    have ih:=RL.of hsp qs (relax pf sp q.1 Tb q.2) w1 fun r hr=>h r (by simp [hr])
    have hset : ∀ x,x.Ok sp→(x=nxt q.1.1 q.2→tb sp (relax pf sp q.1 Tb q.2) x=min (tb sp Tb (nxt q.1.1 q.2)) (q.1.2+pf q.1.1.a q.1.1.b q.1.1.s q.2))∧(x≠nxt q.1.1 q.2→tb sp (relax pf sp q.1 Tb q.2) x=tb sp Tb x):=fun x hx=>tb_set hsp w hn hx
    have hni:(nxt q.1.1 q.2).i=i+1:=by show q.1.1.i+1=_;rw [hq.at']
    rw [List.foldl_cons]
    refine ⟨ih.wt,fun x hx hi=>?_,fun x hx=>?_,fun p c hp=>?_,fun y hy=>?_⟩
    · rw [ih.same x hx hi,(hset x hx).2 (fun e=>hi (by rw [e,hni]))]
    · have h1:=ih.mono x hx
      by_cases e:x=nxt q.1.1 q.2
      · have h2:=(hset x hx).1 e
        rw [← e] at h2
        omega
      · rw [(hset x hx).2 e] at h1;exact h1
    · rcases List.mem_cons.1 hp with hp|hp
      · have h1:=ih.mono _ hn
        rw [(hset _ hn).1 rfl] at h1
        subst hp
        have h2:tb sp (qs.foldl (fun T q=>relax pf sp q.1 T q.2) (relax pf sp p Tb c)) (nxt p.1 c)≤min (tb sp Tb (nxt p.1 c)) (p.2+pf p.1.a p.1.b p.1.s c):=h1
        show tb sp (qs.foldl (fun T q=>relax pf sp q.1 T q.2) (relax pf sp p Tb c)) (nxt p.1 c)≤p.2+pf p.1.a p.1.b p.1.s c
        omega
      · exact ih.le p c hp
    · rcases ih.att y hy with h1|⟨p,c,h1,h2,h3⟩
      · by_cases e:y=nxt q.1.1 q.2
        · have h2:=(hset y hy).1 e
          rw [← e] at h2
          rw [h2] at h1
          by_cases hm:tb sp Tb y≤q.1.2+pf q.1.1.a q.1.1.b q.1.1.s q.2
          · exact .inl (by omega)
          · exact .inr ⟨q.1,q.2,by simp,e.symm,by omega⟩
        · rw [(hset y hy).2 e] at h1;exact .inl h1
      · exact .inr ⟨p,c,by simp [h1],h2,h3⟩
def stepsOf (sp:List (Int × Int)) (i:Nat) (ps:List (Stt × Int)):List ((Stt × Int) × Int):=ps.flatMap fun p=>(offs (spot sp (i+1))).map fun c=>(p,c)
theorem xSy (pf:Int→Int→Int→Int→Int) (sp:List (Int × Int)) (i:Nat) (p:Stt × Int) : ∀ (cs:List Int) (Tb:List Int),cs.foldl (relax pf sp p) Tb=(cs.map fun c=>(p,c)).foldl (fun T q=>relax pf sp q.1 T q.2) Tb
  | [],_=>rfl
  | c :: cs,Tb=>by rw [List.foldl_cons,List.map_cons,List.foldl_cons];exact xSy pf sp i p cs _
theorem level_eq (pf:Int→Int→Int→Int→Int) (sp:List (Int × Int)) (i:Nat) : ∀ (ps:List (Stt × Int)) (Tb:List Int),ps.foldl (relaxC pf sp i) Tb=(stepsOf sp i ps).foldl (fun T q=>relax pf sp q.1 T q.2) Tb
  | [],_=>rfl
  | p :: ps,Tb=>by
    rw [List.foldl_cons]
    unfold stepsOf
    rw [List.flatMap_cons,List.foldl_append]
    have:=level_eq pf sp i ps (relaxC pf sp i Tb p)
    unfold stepsOf at this
    rw [this]
    unfold relaxC
    rw [xSy pf sp i p]
theorem yDy {sp:List (Int × Int)} {i:Nat} {ps:List (Stt × Int)} {p:Stt × Int} {c:Int} : (p,c) ∈ stepsOf sp i ps ↔ p ∈ ps∧(spot sp (i+1)).1≤c∧c≤(spot sp (i+1)).2:=by
  unfold stepsOf
  simp only [List.mem_flatMap,List.mem_map,zXy]
  constructor
  · rintro ⟨q,hq,d,hd,e⟩
    cases e
    exact ⟨hq,hd⟩
  · rintro ⟨h1,h2⟩
    exact ⟨p,h1,c,h2,rfl⟩

structure PD (pf:Int→Int→Int→Int→Int) (sp:List (Int × Int)) (k:Nat) (Tb:List Int):Prop where
  wt:WT sp Tb
  one : ∀ x,x.Ok sp→x.i=1→tb sp Tb x=if x.s=0 then 0 else farI
  far : ∀ x,x.Ok sp→k<x.i→tb sp Tb x=farI
  le : ∀ x c,x.Ok sp→x.i<k→tb sp Tb x<farI→(spot sp (x.i+1)).1≤c→c≤(spot sp (x.i+1)).2→tb sp Tb (nxt x c)≤tb sp Tb x+pf x.a x.b x.s c
  ex : ∀ y,y.Ok sp→2≤y.i→tb sp Tb y=farI ∨ ∃ x,x.Ok sp∧x.i+1=y.i∧nxt x y.b=y∧tb sp Tb x<farI∧tb sp Tb y=tb sp Tb x+pf x.a x.b x.s y.b
  sm : ∀ x,x.Ok sp→tb sp Tb x<farI→tb sp Tb x≤5000000 * (x.i:Int)
  full : ∀ i u v,1≤i→i≤k→i<sp.length→(spot sp (i - 1)).1≤u∧u≤(spot sp (i - 1)).2→(spot sp i).1≤v∧v≤(spot sp i).2 → ∃ s,s<3∧tb sp Tb ⟨i,u,v,s⟩<farI

theorem sgF_mem {sp:List (Int × Int)} {i:Nat} {Tb:List Int} {a b s:Nat} (hf:tc Tb i a b s<farI) : ∀ {m:Nat},m≤3→3 - m≤s→s<3→(stt sp i a b s,tc Tb i a b s) ∈ sgF sp i Tb a b m
  | 0,_,h1,h2=>by omega
  | m+1,hm,h1,h2=>by
    unfold sgF
    by_cases e:2 - m=s
    · rw [e,if_pos hf];simp
    · exact List.mem_append.2 (.inr (sgF_mem hf (by omega) (by omega) h2))
theorem boF_mem {sp:List (Int × Int)} {i:Nat} {Tb:List Int} {a b s:Nat} (hf:tc Tb i a b s<farI) (hs:s<3) (hn : ∀ b',b'≤b → ¬ NoneT Tb i a b') : ∀ {m:Nat},m≤5→5 - m≤b→b<5→(stt sp i a b s,tc Tb i a b s) ∈ boF sp i Tb a m
  | 0,_,h1,h2=>by omega
  | m+1,hm,h1,h2=>by
    unfold boF
    rw [if_neg (hn _ (by omega))]
    by_cases e:4 - m=b
    · rw [e];exact List.mem_append.2 (.inl (sgF_mem hf (Nat.le_refl 3) (by omega) hs))
    · exact List.mem_append.2 (.inr (boF_mem hf hs hn (by omega) (by omega) h2))
theorem aoF_mem {sp:List (Int × Int)} {i:Nat} {Tb:List Int} {a b s:Nat} (hf:tc Tb i a b s<farI) (hs:s<3) (hb:b<5) (hn : ∀ b',b'≤b → ¬ NoneT Tb i a b') : ∀ {m:Nat},m≤5→5 - m≤a→a<5→(stt sp i a b s,tc Tb i a b s) ∈ aoF sp i Tb m
  | 0,_,h1,h2=>by omega
  | m+1,hm,h1,h2=>by
    unfold aoF
    by_cases e:4 - m=a
    · rw [e];exact List.mem_append.2 (.inl (boF_mem hf hs hn (Nat.le_refl 5) (by omega) hb))
    · exact List.mem_append.2 (.inr (aoF_mem hf hs hb hn (by omega) (by omega) h2))
theorem PD.reach {pf:Int→Int→Int→Int→Int} {sp:List (Int × Int)} (hsp:SpotsOK sp) {k:Nat} {Tb:List Int} (P:PD pf sp k Tb) {x:Stt} (hx:x.Ok sp) (hk:x.i≤k) (hf:tb sp Tb x<farI):(x,tb sp Tb x) ∈ reachL sp x.i Tb:=by
  obtain ⟨a,b,h1,h2,h3,h4⟩:=stt_of hsp hx
  have e:tc Tb x.i a b x.s=tb sp Tb x:=by
    unfold tb tc
    rw [h4,ix_stt];rfl
  have:=aoF_mem (sp:=sp) (i:=x.i) (Tb:=Tb) (a:=a) (b:=b) (s:=x.s) (by rw [e];exact hf) h3 h2 (fun b' hb' hn=>by
    obtain ⟨⟨i1,i2⟩,i3,i4,_⟩:=hx
    have ha:x.a=(spot sp (x.i - 1)).1+(a:Int):=congrArg Stt.a h4
    have hb:x.b=(spot sp x.i).1+(b:Int):=congrArg Stt.b h4
    obtain ⟨s,hs,hlt⟩:=P.full x.i x.a ((spot sp x.i).1+(b':Int)) i1 hk i2 i3 ⟨by omega,by omega⟩
    have e2:tb sp Tb ⟨x.i,x.a,(spot sp x.i).1+(b':Int),s⟩=tc Tb x.i a b' s:=by
      rw [ha]
      show Tb.getD ((stt sp x.i a b' s).ix sp) 0=_
      rw [ix_stt];rfl
    rw [e2] at hlt
    obtain ⟨n0,n1,n2⟩:=hn
    rcases (show s=0∨s=1∨s=2 by omega) with rfl|rfl|rfl <;> omega) (Nat.le_refl 5) (by omega) h1
  rw [e] at this
  rw [← h4] at this
  exact this

theorem level_rl {pf:Int→Int→Int→Int→Int} {sp:List (Int × Int)} (hsp:SpotsOK sp) (hpf : ∀ (a b s c:Int),Off a→Off b→Off c→0≤pf a b s c∧pf a b s c≤5000000) {k:Nat} {Tb:List Int} (w:WT sp Tb) (hk:1≤k∧k+1<sp.length) :
    (∀ q ∈ stepsOf sp k (reachL sp k Tb),StepIn pf sp k q)∧RL pf sp k (stepsOf sp k (reachL sp k Tb)) Tb (level pf sp Tb k):=by
  have hin : ∀ q ∈ stepsOf sp k (reachL sp k Tb),StepIn pf sp k q:=fun q hq=>by
    obtain ⟨p,c⟩:=q
    obtain ⟨h1,h2⟩:=yDy.1 hq
    obtain ⟨h3,h4,h5,h6,h7⟩:=yGx w ⟨hk.1,by omega⟩ h1
    refine ⟨h3,h4,hk.2,h2,⟨h6,h7⟩,?_⟩
    obtain ⟨⟨i1,i2⟩,i3,i4,_⟩:=h3
    obtain ⟨⟨a1,a2⟩,⟨a3,a4⟩,_,_⟩:=hsp.at (i:=p.1.i - 1) (by omega)
    obtain ⟨⟨b1,b2⟩,⟨b3,b4⟩,_,_⟩:=hsp.at i2
    obtain ⟨⟨c1,c2⟩,⟨c3,c4⟩,_,_⟩:=hsp.at hk.2
    exact (hpf p.1.a p.1.b p.1.s c ⟨by omega,by omega⟩ ⟨by omega,by omega⟩ ⟨by omega,by omega⟩).1
  refine ⟨hin,?_⟩
  unfold level
  rw [level_eq]
  exact RL.of hsp _ _ w hin
theorem PD.next {pf:Int→Int→Int→Int→Int} {sp:List (Int × Int)} (hsp:SpotsOK sp) (hpf : ∀ (a b s c:Int),Off a→Off b→Off c→0≤pf a b s c∧pf a b s c≤5000000) {k:Nat} {Tb:List Int} (P:PD pf sp k Tb) (hk:1≤k∧k+1<sp.length):PD pf sp (k+1) (level pf sp Tb k):=by
  obtain ⟨hin,R⟩:=level_rl hsp hpf P.wt hk
  have n24:=hsp.n24
  have key : ∀ x c,x.Ok sp→x.i=k→tb sp Tb x<farI→(spot sp (k+1)).1≤c→c≤(spot sp (k+1)).2→((x,tb sp Tb x),c) ∈ stepsOf sp k (reachL sp k Tb):=fun x c hx hi hf h1 h2=>by
    refine yDy.2 ⟨?_,h1,h2⟩
    have:=P.reach hsp hx (by omega) hf
    rwa [hi] at this
  refine ⟨R.wt,fun x hx hi=>?_,fun x hx hi=>?_,fun x c hx hi hf h1 h2=>?_,fun y hy hi=>?_,fun x hx hf=>?_,fun i u v h1 h2 h3 h4 h5=>?_⟩
  · rw [R.same x hx (by omega)];exact P.one x hx hi
  · rw [R.same x hx (by omega)];exact P.far x hx (by omega)
  · rw [R.same x hx (by omega)] at hf ⊢
    by_cases e:x.i=k
    · rw [e] at h1 h2
      exact R.le (x,tb sp Tb x) c (key x c hx e hf h1 h2)
    · have:=P.le x c hx (by omega) hf h1 h2
      have hn:=yWx hx (by omega) ⟨h1,h2⟩
      rw [R.same _ hn (by show x.i+1≠k+1;omega)]
      exact this
  · by_cases e:y.i=k+1
    · rcases R.att y hy with h1|⟨p,c,h1,h2,h3⟩
      · rw [P.far y hy (by omega)] at h1;exact .inl h1
      · have hp:=hin _ h1
        obtain ⟨h4,_⟩:=yDy.1 h1
        obtain ⟨m1,m2,m3,m4,m5⟩:=yGx P.wt ⟨hk.1,by omega⟩ h4
        have m3':p.2=tb sp Tb p.1:=m3
        have hb:y.b=c:=by rw [← h2];rfl
        refine .inr ⟨p.1,m1,by rw [m2,e],by rw [hb];exact h2,?_,?_⟩
        · rw [R.same _ m1 (by omega)];omega
        · rw [R.same _ m1 (by omega),h3,hb,m3']
    · rw [R.same y hy e]
      rcases P.ex y hy hi with h1|⟨x,x1,x2,x3,x4,x5⟩
      · exact .inl h1
      · refine .inr ⟨x,x1,x2,x3,?_,?_⟩
        · by_cases e2:x.i=k+1
          · have:=P.far x x1 (by omega);omega
          · rw [R.same x x1 e2];exact x4
        · by_cases e2:x.i=k+1
          · have:=P.far x x1 (by omega);omega
          · rw [R.same x x1 e2];exact x5
  · rcases R.att x hx with h1|⟨p,c,h1,h2,h3⟩
    · rw [h1] at hf ⊢;exact P.sm x hx hf
    · have hp:=hin _ h1
      obtain ⟨h4,hc⟩:=yDy.1 h1
      obtain ⟨m1,m2,m3,m4,m5⟩:=yGx P.wt ⟨hk.1,by omega⟩ h4
      have m3':p.2=tb sp Tb p.1:=m3
      have hs:=P.sm p.1 m1 (by omega)
      obtain ⟨⟨i1,i2⟩,i3,i4,_⟩:=m1
      obtain ⟨⟨a1,a2⟩,⟨a3,a4⟩,_,_⟩:=hsp.at (i:=p.1.i - 1) (by omega)
      obtain ⟨⟨b1,b2⟩,⟨b3,b4⟩,_,_⟩:=hsp.at i2
      obtain ⟨⟨c1,c2⟩,⟨c3,c4⟩,_,_⟩:=hsp.at hk.2
      have:=(hpf p.1.a p.1.b p.1.s c ⟨by omega,by omega⟩ ⟨by omega,by omega⟩ ⟨by omega,by omega⟩).2
      have hi:x.i=k+1:=by rw [← h2];show p.1.i+1=_;rw [m2]
      rw [h3,hi]
      omega
  · by_cases e:i=k+1
    · subst e
      obtain ⟨d1,d2,d3,d4⟩:=hsp.at (i:=k - 1) (by omega)
      obtain ⟨s,hs,hlt⟩:=P.full k (spot sp (k - 1)).1 u hk.1 (Nat.le_refl k) (by omega) ⟨Int.le_refl _,d3⟩ (by simpa using h4)
      have hx:(⟨k,(spot sp (k - 1)).1,u,s⟩:Stt).Ok sp:=⟨⟨hk.1,by show k<_;omega⟩,⟨Int.le_refl _,d3⟩,by simpa using h4,hs⟩
      have hle:=R.le (⟨k,(spot sp (k - 1)).1,u,s⟩,tb sp Tb ⟨k,(spot sp (k - 1)).1,u,s⟩) v (key _ v hx rfl hlt h5.1 h5.2)
      have hsm:=P.sm _ hx hlt
      obtain ⟨⟨a1,a2⟩,⟨a3,a4⟩,_,_⟩:=hsp.at (i:=k - 1) (by omega)
      obtain ⟨⟨b1,b2⟩,⟨b3,b4⟩,_,_⟩:=hsp.at (i:=k) (by omega)
      obtain ⟨⟨c1,c2⟩,⟨c3,c4⟩,_,_⟩:=hsp.at hk.2
      have h4':(spot sp k).1≤u∧u≤(spot sp k).2:=by simpa using h4
      have hpf2:=(hpf (spot sp (k - 1)).1 u s v ⟨by omega,by omega⟩ ⟨by omega,by omega⟩ ⟨by omega,by omega⟩).2
      have hn:=yWx hx (c:=v) hk.2 h5
      have e3:nxt ⟨k,(spot sp (k - 1)).1,u,s⟩ v=⟨k+1,u,v,(nxt ⟨k,(spot sp (k - 1)).1,u,s⟩ v).s⟩:=rfl
      refine ⟨(nxt ⟨k,(spot sp (k - 1)).1,u,s⟩ v).s,hn.2.2.2,?_⟩
      rw [← e3]
      have h5':tb sp (level pf sp Tb k) (nxt ⟨k,(spot sp (k - 1)).1,u,s⟩ v)≤tb sp Tb ⟨k,(spot sp (k - 1)).1,u,s⟩+pf (spot sp (k - 1)).1 u s v:=hle
      have hsm':tb sp Tb ⟨k,(spot sp (k - 1)).1,u,s⟩≤5000000 * (k:Int):=hsm
      unfold farI
      omega
    · obtain ⟨s,hs,hlt⟩:=P.full i u v h1 (by omega) h3 h4 h5
      have hx:(⟨i,u,v,s⟩:Stt).Ok sp:=⟨⟨h1,h3⟩,h4,h5,hs⟩
      exact ⟨s,hs,by rw [R.same _ hx (by show i≠k+1;exact e)];exact hlt⟩

open Classical in
theorem startFold {sp:List (Int × Int)} (hsp:SpotsOK sp) : ∀ (ys:List Stt) (Tb:List Int),WT sp Tb→(∀ y ∈ ys,y.Ok sp)→WT sp (ys.foldl (fun T x=>T.set (x.ix sp) 0) Tb) ∧ ∀ x,x.Ok sp→tb sp (ys.foldl (fun T x=>T.set (x.ix sp) 0) Tb) x=if x ∈ ys then 0 else tb sp Tb x
  | [],Tb,w,_=>⟨w,fun x _=>by rw [if_neg (by simp)];rfl⟩
  | y :: ys,Tb,w,h=>by
    have hy:=h y (by simp)
    have w1:=w.set hsp hy (v:=0) ⟨Int.le_refl _,by unfold farI;omega⟩
    obtain ⟨i1,i2⟩:=startFold hsp ys _ w1 fun z hz=>h z (by simp [hz])
    refine ⟨i1,fun x hx=>?_⟩
    rw [List.foldl_cons,i2 x hx]
    by_cases e:x ∈ ys
    · rw [if_pos e,if_pos (by simp [e])]
    · rw [if_neg e]
      by_cases e2:x=y
      · rw [(tb_set hsp w hy hx).1 e2,if_pos (by simp [e2])]
      · rw [(tb_set hsp w hy hx).2 e2,if_neg (by simp [e,e2])]
theorem WT.rep {sp:List (Int × Int)} : WT sp (List.replicate ((sp.length - 1) * 75) farI):=by
  have hg : ∀ m,(List.replicate ((sp.length - 1) * 75) farI).getD m 0=farI∨(sp.length - 1) * 75≤m:=fun m=>by
    by_cases h:m<(sp.length - 1) * 75
    · left;simp [List.getD,List.getElem?_replicate,h]
    · right;omega
  refine ⟨by simp,fun m=>?_,fun i a b s h1 h2 h3 h4 h5 h6=>?_⟩
  · rcases hg m with h|h
    · rw [h];unfold farI;omega
    · rw [show (List.replicate ((sp.length - 1) * 75) farI).getD m 0=0 from by simp only [List.getD];rw [List.getElem?_eq_none (by simpa using h)];rfl];unfold farI;omega
  · unfold tc at h6
    have hlt:(i - 1) * 75+(a * 15+b * 3+s)<(sp.length - 1) * 75:=by
      have:=Nat.mul_le_mul_right 75 (show i - 1+1≤sp.length - 1 by omega)
      omega
    rcases hg ((i - 1) * 75+(a * 15+b * 3+s)) with h|h
    · rw [h] at h6;omega
    · omega
theorem xTv {sp:List (Int × Int)} {x:Stt} (hx:x.Ok sp):x ∈ startsL sp ↔ x.i=1∧x.s=0:=by
  unfold startsL
  rw [List.mem_map]
  constructor
  · rintro ⟨p,_,rfl⟩;exact ⟨rfl,rfl⟩
  · rintro ⟨h1,h2⟩
    obtain ⟨i,a,b,s⟩:=x
    obtain ⟨_,h3,h4,_⟩:=hx
    dsimp only at h1 h2 h3 h4
    subst h1
    subst h2
    exact ⟨(a,b),xGx.2 ⟨h3,h4⟩,rfl⟩
theorem PD.start {pf:Int→Int→Int→Int→Int} {sp:List (Int × Int)} (hsp:SpotsOK sp):PD pf sp 1 (startT sp (startsL sp)):=by
  have n2:=hsp.n2
  obtain ⟨w,h⟩:=startFold hsp (startsL sp) _ WT.rep fun y hy=>yQw hsp hy
  have hrep : ∀ x,x.Ok sp→tb sp (List.replicate ((sp.length - 1) * 75) farI) x=farI:=fun x hx=>by
    have:=(hx.lt hsp.narrow).1
    unfold tb
    simp [List.getD,List.getElem?_replicate,this]
  have hv : ∀ x,x.Ok sp→tb sp (startT sp (startsL sp)) x=if x.i=1∧x.s=0 then 0 else farI:=fun x hx=>by
    have:=h x hx
    unfold startT
    rw [this]
    by_cases e:x ∈ startsL sp
    · rw [if_pos e,if_pos ((xTv hx).1 e)]
    · rw [if_neg e,if_neg (fun k=>e ((xTv hx).2 k)),hrep x hx]
  refine ⟨w,fun x hx hi=>?_,fun x hx hi=>?_,fun x c hx hi=>?_,fun y hy hi=>?_,fun x hx hf=>?_,fun i u v h1 h2 h3 h4 h5=>?_⟩
  · rw [hv x hx]
    by_cases e:x.s=0
    · rw [if_pos ⟨hi,e⟩,if_pos e]
    · rw [if_neg (fun k=>e k.2),if_neg e]
  · rw [hv x hx,if_neg (by omega)]
  · have:=hx.1.1;omega
  · exact .inl (by rw [hv y hy,if_neg (by omega)])
  · rw [hv x hx] at hf ⊢
    split
    · omega
    · rename_i e;rw [if_neg e] at hf;omega
  · have:i=1:=by omega
    subst this
    refine ⟨0,by decide,?_⟩
    rw [hv ⟨1,u,v,0⟩ ⟨⟨Nat.le_refl 1,h3⟩,h4,h5,(show 0<3 from by decide)⟩,if_pos ⟨rfl,rfl⟩]
    unfold farI;omega
theorem PD.all {pf:Int→Int→Int→Int→Int} {sp:List (Int × Int)} (hsp:SpotsOK sp) (hpf : ∀ (a b s c:Int),Off a→Off b→Off c→0≤pf a b s c∧pf a b s c≤5000000) : ∀ k,k+1<sp.length→PD pf sp (k+1) (paidU pf sp k)
  | 0,_=>PD.start hsp
  | k+1,hk=>(PD.all hsp hpf k (by omega)).next hsp hpf ⟨by omega,hk⟩
theorem PD.last {pf:Int→Int→Int→Int→Int} {sp:List (Int × Int)} (hsp:SpotsOK sp) (hpf : ∀ (a b s c:Int),Off a→Off b→Off c→0≤pf a b s c∧pf a b s c≤5000000):PD pf sp (sp.length - 1) (paidT pf sp):=by
  have n2:=hsp.n2
  have:=PD.all hsp hpf (sp.length - 2) (by omega)
  rwa [show sp.length - 2+1=sp.length - 1 from by omega] at this
theorem PD.ne {pf:Int→Int→Int→Int→Int} {sp:List (Int × Int)} (hsp:SpotsOK sp) {k i:Nat} {Tb:List Int} (P:PD pf sp k Tb) (hi:1≤i∧i≤k∧i<sp.length):0<(reachL sp i Tb).length:=by
  obtain ⟨_,_,h0,_⟩:=hsp.at (i:=i - 1) (by omega)
  obtain ⟨_,_,h1,_⟩:=hsp.at (i:=i) hi.2.2
  obtain ⟨s,hs,hlt⟩:=P.full i (spot sp (i - 1)).1 (spot sp i).1 hi.1 hi.2.1 hi.2.2 ⟨Int.le_refl _,h0⟩ ⟨Int.le_refl _,h1⟩
  exact List.length_pos_of_mem (P.reach hsp (x:=⟨i,(spot sp (i - 1)).1,(spot sp i).1,s⟩) ⟨⟨hi.1,hi.2.2⟩,⟨Int.le_refl _,h0⟩,⟨Int.le_refl _,h1⟩,hs⟩ hi.2.1 hlt)
end Go.Proofs.YtkmdidplmfdikabDoor
end

section
namespace Go.Ev
section
variable {P:Program}
def SlAt (h:H) (G:List AO) (v:AV) (sz e len:Nat) (cs:List AV) (o:Option Nat):Prop:=
  cs.length=len * sz∧match o with
    | none=>len=0∧v = .nils
    | some idx=>v = .sl (nx h idx) 0 len none sz∧G[idx]? = some (.cells (zAy cs) e)
theorem SlAt.nil (h:H) (G:List AO) (sz e:Nat):SlAt h G .nils sz e 0 [] none:=⟨by simp,rfl,rfl⟩
theorem SlAt.sl {h:H} (wf:Wf h) {G:List AO} {v:AV} {sz e len:Nat} {o:Option Nat} {cs:List AV} (x:SlAt h G v sz e len cs o) (w:Nat):Sl (X h G w) v sz len cs:=by
  cases o with
  | none=>
    obtain ⟨hl,rfl,rfl⟩:=x
    have:cs=[]:=List.length_eq_zero_iff.1 (by simpa using hl)
    subst this
    exact Sl.nil _ _
  | some idx=>
    obtain ⟨hl,rfl,hg⟩:=x
    have g:Grow h [] G (.sl (nx h idx) 0 len none sz) sz e len cs:=⟨hl,.inr ⟨idx,by rw [List.length_nil,Nat.zero_add],hg⟩⟩
    exact g.sl wf w
theorem SlAt.resz {h:H} {G:List AO} {v:AV} {sz e len:Nat} {o:Option Nat} {cs:List AV} (x:SlAt h G v sz e len cs o) (t:TypeId):reszT P t v=v:=by
  cases o with
  | none=>obtain ⟨_,_,rfl⟩:=x;exact yGz
  | some idx=>obtain ⟨_,rfl,_⟩:=x;exact yCw
theorem SlAt.flat {h:H} {G:List AO} {v:AV} {sz e len:Nat} {o:Option Nat} {cs:List AV} (x:SlAt h G v sz e len cs o):AV.cells v=[v]∧oneB v=true:=by
  cases o with
  | none=>obtain ⟨_,_,rfl⟩:=x;exact ⟨rfl,rfl⟩
  | some idx=>obtain ⟨_,rfl,_⟩:=x;exact ⟨rfl,rfl⟩
theorem SlAt.lt {h:H} {G:List AO} {v:AV} {sz e len idx:Nat} {cs:List AV} (x:SlAt h G v sz e len cs (some idx)):idx<G.length:=(List.getElem?_eq_some_iff.1 x.2.2).1
theorem SlAt.keep {h:H} {G G':List AO} {v:AV} {sz e len:Nat} {o:Option Nat} {cs:List AV} (x:SlAt h G v sz e len cs o) (k : ∀ i ob,o=some i→G[i]? = some ob→G'[i]? = some ob):SlAt h G' v sz e len cs o:=by
  cases o with
  | none=>exact x
  | some idx=>exact ⟨x.1,x.2.1,k idx _ rfl x.2.2⟩
theorem SlAt.more {h:H} {G:List AO} {v:AV} {sz e len:Nat} {o:Option Nat} {cs:List AV} (x:SlAt h G v sz e len cs o) (M:List AO):SlAt h (G++M) v sz e len cs o:=
  x.keep fun i ob _ hq=>by rw [List.getElem?_append_left (List.getElem?_eq_some_iff.1 hq).1];exact hq
theorem SlAt.set {h:H} {G:List AO} {v:AV} {sz e len:Nat} {o:Option Nat} {cs:List AV} (x:SlAt h G v sz e len cs o) {p:Nat} (hp:o≠some p) (ob:AO):SlAt h (G.set p ob) v sz e len cs o:=
  x.keep fun i _ hi hq=>by rw [List.getElem?_set_ne (fun e=>hp (by rw [hi,e]))];exact hq
theorem SlAt.app {h:H} (wf:Wf h) {G:List AO} {v:AV} {sz e len bytes:Nat} {o:Option Nat} {z:AV} {cs:List AV} (x:SlAt h G v sz e len cs o) {t:TypeId} (hu:P.underlying t=some (.slice e)) (hz:sizeE P e=some sz) (E:El P e sz bytes z)
    {new:List AV} (hn:len+1≤10000000) (hb:bytes≤100000) (hc:new.length=sz) (ho:allOne new=true) (c:Nat) (w:Nat) (hw:h.clock≤w) :
    ∃ v' G' w',SlAt h G' v' sz e (len+1) (cs++new) (some (G.length+1))∧G'.length=G.length+2∧(∀ q ob,o≠some q→G[q]? = some ob→G'[q]? = some ob)∧h.clock≤w'∧w'≤w ∧
      appendE P t v (.sl (nx h G.length) 0 1 (some c) sz) (X h (G++[.cells (zAy new) e]) w) = .ok v' (X h G' w'):=by
  have hsrc : ∀ w,srcCells (X h (G++[.cells (zAy new) e]) w) sz (.sl (nx h G.length) 0 1 (some c) sz)=some (1,new):=fun w=>xEy (e:=e) wf (by rw [zNx];rfl) (by rw [hc,Nat.one_mul])
  cases o with
  | none=>
    obtain ⟨hl,rfl,rfl⟩:=x
    have hcs:cs=[]:=List.length_eq_zero_iff.1 (by simpa using hl)
    subst hcs
    have:=yZy (P:=P) wf hu hz E (x:=.sl (nx h G.length) 0 1 (some c) sz) (l:=G++[.cells (zAy new) e]) (w:=w) (by decide) (by decide) hb (hsrc w) (by rw [hc,Nat.one_mul])
    rw [List.length_append,List.append_assoc] at this
    refine ⟨_,_,w,⟨by rw [List.nil_append,hc];omega,rfl,?_⟩,by simp,fun q o _ hq=>?_,hw,Nat.le_refl w,this⟩
    · show (G++([AO.cells (zAy new) e]++[AO.cells (zAy new) e]))[G.length+1]? = _
      rw [zLw];rfl
    · rw [List.getElem?_append_left (List.getElem?_eq_some_iff.1 hq).1];exact hq
  | some idx=>
    have hi:=x.lt
    obtain ⟨hl,rfl,hg⟩:=x
    have hgi:(G++[AO.cells (zAy new) e])[idx]? = some (.cells (zAy cs) e):=by rw [List.getElem?_append_left hi];exact hg
    have:=yOv (P:=P) wf hu hz E (x:=.sl (nx h G.length) 0 1 (some c) sz) (k:=idx) (l:=G++[.cells (zAy new) e]) (w:=w) hn (by decide) hb hgi hl (hsrc w) (by rw [hc,Nat.one_mul]) ho
    rw [List.length_append,List.set_append_left _ _ hi,List.append_assoc] at this
    refine ⟨_,_,_,⟨by rw [List.length_append,hl,hc,Nat.add_mul,Nat.one_mul],rfl,?_⟩,by simp,fun q o hne hq=>?_,by omega,Nat.min_le_right _ _,this⟩
    · show (G.set idx AO.dead++([AO.cells (zAy new) e]++[AO.cells (zAy (cs++new)) e]))[G.length+1]? = _
      have:(G.set idx AO.dead).length=G.length:=List.length_set
      rw [← this,zLw];rfl
    · have hq':=(List.getElem?_eq_some_iff.1 hq).1
      rw [List.getElem?_append_left (by rw [List.length_set];exact hq'),List.getElem?_set_ne (fun e=>hne (congrArg some e))]
      exact hq
end
end Go.Ev
end

section
namespace Go.Ev
abbrev KT :=Nat→Option (Nat × AO)
def kt (T:KT) (k:Nat) (x:Option (Nat × AO)):KT:=fun i=>if i=k then x else T i
theorem yBx {T:KT} {k:Nat} {x:Option (Nat × AO)} {i:Nat} : kt T k x i=if i=k then x else T i:=rfl
structure Held (L:List AO) (T:KT):Prop where
  at' : ∀ k p ob,T k=some (p,ob)→L[p]? = some ob
  inj : ∀ k k' p ob ob',T k=some (p,ob)→T k'=some (p,ob')→k=k'
section
variable {P:Program} {L:List AO} {T:KT}
theorem Held.get (x:Held L T) {k p:Nat} {ob:AO} (h:T k=some (p,ob)):L[p]? = some ob:=x.at' _ _ _ h
theorem Held.lt (x:Held L T) {k p:Nat} {ob:AO} (h:T k=some (p,ob)):p<L.length:=(List.getElem?_eq_some_iff.1 (x.get h)).1
theorem Held.push (x:Held L T) (M:List AO):Held (L++M) T:=
  ⟨fun k p ob h=>by rw [List.getElem?_append_left (x.lt h)];exact x.get h,x.inj⟩
theorem Held.new (x:Held L T) (k:Nat) (ob:AO) (M:List AO):Held (L++ob :: M) (kt T k (some (L.length,ob))):=by
  refine ⟨fun i p o h=>?_,fun i j p o o' h h'=>?_⟩
  · rw [yBx] at h
    by_cases hi:i=k
    · rw [if_pos hi] at h;cases h;exact zNx
    · rw [if_neg hi] at h;exact (x.push _).get h
  · rw [yBx] at h h'
    by_cases hi:i=k
    · by_cases hj:j=k
      · rw [hi,hj]
      · rw [if_pos hi] at h;rw [if_neg hj] at h';cases h;exact absurd (x.lt h') (Nat.lt_irrefl _)
    · by_cases hj:j=k
      · rw [if_neg hi] at h;rw [if_pos hj] at h';cases h';exact absurd (x.lt h) (Nat.lt_irrefl _)
      · rw [if_neg hi] at h;rw [if_neg hj] at h';exact x.inj _ _ _ _ _ h h'
theorem Held.set (x:Held L T) {k p:Nat} {ob:AO} (hk:T k=some (p,ob)) (ob':AO):Held (L.set p ob') (kt T k (some (p,ob'))):=by
  refine ⟨fun i q o h=>?_,fun i j q o o' h h'=>?_⟩
  · rw [yBx] at h
    by_cases hi:i=k
    · rw [if_pos hi] at h;cases h
      rw [List.getElem?_set_self (x.lt hk)]
    · rw [if_neg hi] at h
      rw [List.getElem?_set_ne (fun e=>hi (by subst e;exact x.inj _ _ _ _ _ h hk))]
      exact x.get h
  · rw [yBx] at h h'
    by_cases hi:i=k
    · by_cases hj:j=k
      · rw [hi,hj]
      · rw [if_pos hi] at h;rw [if_neg hj] at h';cases h;exact absurd (x.inj _ _ _ _ _ h' hk) hj
    · by_cases hj:j=k
      · rw [if_neg hi] at h;rw [if_pos hj] at h';cases h';exact absurd (x.inj _ _ _ _ _ h hk) hi
      · rw [if_neg hi] at h;rw [if_neg hj] at h';exact x.inj _ _ _ _ _ h h'
theorem Held.drop (x:Held L T) (k:Nat):Held L (kt T k none):=by
  refine ⟨fun i p o h=>?_,fun i j p o o' h h'=>?_⟩
  · rw [yBx] at h
    by_cases hi:i=k
    · rw [if_pos hi] at h;cases h
    · rw [if_neg hi] at h;exact x.get h
  · rw [yBx] at h h'
    by_cases hi:i=k
    · rw [if_pos hi] at h;cases h
    · by_cases hj:j=k
      · rw [if_pos hj] at h';cases h'
      · rw [if_neg hi] at h;rw [if_neg hj] at h';exact x.inj _ _ _ _ _ h h'
theorem Held.empty (L:List AO):Held L (fun _=>none):=⟨fun _ _ _ h=>(by cases h),fun _ _ _ _ _ h _=>(by cases h)⟩

def SlK (h:H) (T:KT) (k:Nat) (v:AV) (sz e len:Nat) (cs:List AV):Prop:=
  cs.length=len * sz∧((len=0∧v = .nils∧T k=none) ∨ ∃ idx,v = .sl (nx h idx) 0 len none sz∧T k=some (idx,.cells (zAy cs) e))
theorem SlK.nil (h:H) (T:KT) (k sz e:Nat) (hk:T k=none):SlK h T k .nils sz e 0 []:=⟨by simp,.inl ⟨rfl,rfl,hk⟩⟩
theorem SlK.keep {h:H} {T T':KT} {k sz e len:Nat} {v:AV} {cs:List AV} (x:SlK h T k v sz e len cs) (e':T' k=T k):SlK h T' k v sz e len cs:=by
  unfold SlK at *;rw [e'];exact x
theorem SlK.sl {h:H} (wf:Wf h) {k sz e len:Nat} {v:AV} {cs:List AV} (x:SlK h T k v sz e len cs) (hh:Held L T) (w:Nat):Sl (X h L w) v sz len cs:=by
  obtain ⟨hl,⟨rfl,rfl,_⟩|⟨idx,rfl,hk⟩⟩:=x
  · have:cs=[]:=List.length_eq_zero_iff.1 (by simpa using hl)
    subst this;exact Sl.nil _ _
  · exact Sl.new wf hl (hh.get hk)
theorem SlK.resz {h:H} {k sz e len:Nat} {v:AV} {cs:List AV} (x:SlK h T k v sz e len cs) (t:TypeId):reszT P t v=v:=by
  obtain ⟨hl,⟨rfl,rfl,_⟩|⟨idx,rfl,hk⟩⟩:=x
  · exact yGz
  · exact yCw
theorem SlK.flat {h:H} {k sz e len:Nat} {v:AV} {cs:List AV} (x:SlK h T k v sz e len cs):AV.cells v=[v]∧oneB v=true:=by
  obtain ⟨hl,⟨rfl,rfl,_⟩|⟨idx,rfl,hk⟩⟩:=x <;> exact ⟨rfl,rfl⟩
theorem SlK.capu {h:H} {k sz e len:Nat} {v:AV} {cs:List AV} (x:SlK h T k v sz e len cs) (hm:len≠0) : ∃ idx,v = .sl (nx h idx) 0 len none sz∧T k=some (idx,.cells (zAy cs) e):=by
  obtain ⟨hl,⟨rfl,rfl,_⟩|h⟩:=x
  · exact absurd rfl hm
  · exact h
theorem SlK.app {h:H} (wf:Wf h) {k sz e len bytes:Nat} {z v:AV} {cs:List AV} (x:SlK h T k v sz e len cs) (hh:Held L T) {t:TypeId} (hu:P.underlying t=some (.slice e)) (hz:sizeE P e=some sz) (E:El P e sz bytes z)
    {new:List AV} (hn:len+1≤10000000) (hb:bytes≤100000) (hc:new.length=sz) (ho:allOne new=true) (c:Nat) (w:Nat) (hw:h.clock≤w) :
    ∃ v' L' w',SlK h (kt T k (some (L.length+1,.cells (zAy (cs++new)) e))) k v' sz e (len+1) (cs++new)∧Held L' (kt T k (some (L.length+1,.cells (zAy (cs++new)) e)))∧L'.length=L.length+2∧h.clock≤w'∧w'≤w ∧
      appendE P t v (.sl (nx h L.length) 0 1 (some c) sz) (X h (L++[.cells (zAy new) e]) w) = .ok v' (X h L' w'):=by
  have sa:SlAt h L v sz e len cs ((T k).map (·.1)):=by
    obtain ⟨hl,⟨rfl,rfl,hk⟩|⟨idx,rfl,hk⟩⟩:=x
    · rw [hk];exact ⟨hl,rfl,rfl⟩
    · rw [hk];exact ⟨hl,rfl,hh.get hk⟩
  obtain ⟨v',G',w',s',hl',keep,h1,h2,happ⟩:=sa.app (P:=P) wf hu hz E hn hb hc ho c w hw
  refine ⟨v',G',w',⟨s'.1,.inr ⟨_,s'.2.1,by rw [yBx,if_pos rfl]⟩⟩,⟨fun i p o hi=>?_,fun i j p o o' hi hj=>?_⟩,hl',h1,h2,happ⟩
  · rw [yBx] at hi
    by_cases hik:i=k
    · rw [if_pos hik] at hi;cases hi;exact s'.2.2
    · rw [if_neg hik] at hi
      refine keep p o (fun he=>?_) (hh.get hi)
      cases hk:T k with
      | none=>rw [hk] at he;cases he
      | some q=>
        obtain ⟨q,o2⟩:=q
        rw [hk] at he
        have:q=p:=by simpa using he
        subst this
        exact hik (hh.inj _ _ _ _ _ hi hk)
  · rw [yBx] at hi hj
    by_cases hik:i=k
    · by_cases hjk:j=k
      · rw [hik,hjk]
      · rw [if_pos hik] at hi;rw [if_neg hjk] at hj;cases hi
        have:=hh.lt hj
        omega
    · by_cases hjk:j=k
      · rw [if_neg hik] at hi;rw [if_pos hjk] at hj;cases hj
        have:=hh.lt hi
        omega
      · rw [if_neg hik] at hi;rw [if_neg hjk] at hj;exact hh.inj _ _ _ _ _ hi hj
end
end Go.Ev
namespace Go.Ev
theorem Held.add {L:List AO} {T:KT} (x:Held L T) (k p:Nat) (ob:AO) (h:L[p]? = some ob) (hn : ∀ i o,T i≠some (p,o)):Held L (kt T k (some (p,ob))):=by
  refine ⟨fun i q o hi=>?_,fun i j q o o' hi hj=>?_⟩
  · rw [yBx] at hi
    by_cases hk:i=k
    · rw [if_pos hk] at hi;cases hi;exact h
    · rw [if_neg hk] at hi;exact x.get hi
  · rw [yBx] at hi hj
    by_cases hik:i=k
    · by_cases hjk:j=k
      · rw [hik,hjk]
      · rw [if_pos hik] at hi;rw [if_neg hjk] at hj;cases hi;exact absurd hj (hn _ _)
    · by_cases hjk:j=k
      · rw [if_neg hik] at hi;rw [if_pos hjk] at hj;cases hj;exact absurd hi (hn _ _)
      · rw [if_neg hik] at hi;rw [if_neg hjk] at hj;exact x.inj _ _ _ _ _ hi hj
end Go.Ev
end

section
namespace Go.Proofs.YtkmdidplmfdikabDoor
open Go.Ev
set_option maxRecDepth 100000
set_option linter.unusedSimpArgs false
set_option linter.unusedVariables false
set_option maxHeartbeats 4000000

theorem tEvbT19 :type_of% (And.intro (And.intro (And.intro (And.intro (And.intro (@zSz) (And.intro (@ia_2) (@sz_2))) (And.intro (And.intro (@ze_2) (@ia_3)) (And.intro (@sz_3) (@ze_3)))) (And.intro (And.intro (@zTz) (And.intro (@zUw) (@zRw))) (And.intro (And.intro (@zPw) (@zVx)) (And.intro (@zUy) (@zVy))))) (And.intro (And.intro (And.intro (@zXv) (And.intro (@zXw) (@zTy))) (And.intro (And.intro (@zSv) (@zRv)) (And.intro (@zXz) (@zTw)))) (And.intro (And.intro (And.intro (@yJw) (@yJx)) (And.intro (@yJz) (@yFy))) (And.intro (And.intro (@yEx) (@xMv)) (And.intro (@yVw) (@xZv)))))) (And.intro (And.intro (And.intro (And.intro (@ia_98) (And.intro (@yVx) (@ze_98))) (And.intro (And.intro (@ia_96) (@sz_96)) (And.intro (@ia_95) (@sz_95)))) (And.intro (And.intro (And.intro (@zVv) (@zVw)) (And.intro (@zOz) (@zNv))) (And.intro (And.intro (@zNw) (@zOw)) (And.intro (@zMv) (@zNz))))) (And.intro (And.intro (And.intro (@zPv) (And.intro (@zMy) (@zMz))) (And.intro (And.intro (@zPw) (@yFz)) (And.intro (@yCz) (@pb_53)))) (And.intro (And.intro (And.intro (@pb_43) (@xBz)) (And.intro (@pb_24) (@xAv))) (And.intro (And.intro (@pb_34) (@xNz)) (And.intro (@yRy) (@yPx))))))):=And.intro (And.intro (And.intro (And.intro (And.intro (@zSz) (And.intro (@ia_2) (@sz_2))) (And.intro (And.intro (@ze_2) (@ia_3)) (And.intro (@sz_3) (@ze_3)))) (And.intro (And.intro (@zTz) (And.intro (@zUw) (@zRw))) (And.intro (And.intro (@zPw) (@zVx)) (And.intro (@zUy) (@zVy))))) (And.intro (And.intro (And.intro (@zXv) (And.intro (@zXw) (@zTy))) (And.intro (And.intro (@zSv) (@zRv)) (And.intro (@zXz) (@zTw)))) (And.intro (And.intro (And.intro (@yJw) (@yJx)) (And.intro (@yJz) (@yFy))) (And.intro (And.intro (@yEx) (@xMv)) (And.intro (@yVw) (@xZv)))))) (And.intro (And.intro (And.intro (And.intro (@ia_98) (And.intro (@yVx) (@ze_98))) (And.intro (And.intro (@ia_96) (@sz_96)) (And.intro (@ia_95) (@sz_95)))) (And.intro (And.intro (And.intro (@zVv) (@zVw)) (And.intro (@zOz) (@zNv))) (And.intro (And.intro (@zNw) (@zOw)) (And.intro (@zMv) (@zNz))))) (And.intro (And.intro (And.intro (@zPv) (And.intro (@zMy) (@zMz))) (And.intro (And.intro (@zPw) (@yFz)) (And.intro (@yCz) (@pb_53)))) (And.intro (And.intro (And.intro (@pb_43) (@xBz)) (And.intro (@pb_24) (@xAv))) (And.intro (And.intro (@pb_34) (@xNz)) (And.intro (@yRy) (@yPx))))))
noncomputable def ET (E:List AO) (kt:Nat) (Tb:List Int):List AO:=E.set kt (.cells (zAy (Tb.map ii)) 98)
theorem zTx (E:List AO) (kt:Nat) (Tb:List Int):(ET E kt Tb).length=E.length:=List.length_set
theorem xHx {E:List AO} {kt:Nat} (h:kt<E.length) (Tb:List Int):(ET E kt Tb)[kt]? = some (.cells (zAy (Tb.map ii)) 98):=List.getElem?_set_self h
theorem zZv {E:List AO} {kt j:Nat} (h:kt≠j) (Tb:List Int):(ET E kt Tb)[j]? = E[j]?:=List.getElem?_set_ne h
theorem yEy {E:List AO} {kt:Nat} (h:kt<E.length) (Tb:List Int) (F:List AO):ET E kt Tb++F=ET (E++F) kt Tb:=(List.set_append_left _ _ h).symm
theorem yXy {E:List AO} {kt j:Nat} (h:kt≠j) (Tb:List Int) (o:AO):(ET E kt Tb).set j o=ET (E.set j o) kt Tb:=List.set_comm _ _ h
theorem ET_put (E:List AO) (kt:Nat) (Tb Tb':List Int):(ET E kt Tb).set kt (.cells (zAy (Tb'.map ii)) 98)=ET E kt Tb':=List.set_set _
theorem ET_of {E:List AO} {kt:Nat} {Tb:List Int} (h:E[kt]? = some (.cells (zAy (Tb.map ii)) 98)):E=ET E kt Tb:=by
  refine List.ext_getElem? fun i=>?_
  by_cases e:kt=i
  · subst e;rw [xHx (zHv h),h]
  · rw [zZv e]

theorem set_same {α : Type} {l:List α} {i:Nat} {x : α} (h:l[i]? = some x):l.set i x=l:=by
  refine List.ext_getElem? fun j=>?_
  by_cases e:i=j
  · subst e;rw [List.getElem?_set_self (zHv h),h]
  · rw [List.getElem?_set_ne e]
theorem paid {byv:AV} {pf:Int→Int→Int→Int→Int} (S:StepOK byv pf) (sp:List (Int × Int)) (hsp:SpotsOK sp) (a:AV) (turn:Int) (h:H) (wf:Wf h) (ht:TabF h) (hs:Sl h a 2 sp.length (zKv sp)) :
    WV ((om Tryd.prog KK).call (.fn 32 [.agg [a,ii turn],byv]) h) fun v h'=>∃ (L:List AO) (k:Nat),v=prv a turn (nx h k) (sp.length - 1)∧h'=X h L h.w∧L[k]? = some (.cells (zAy ((paidT pf sp).map ii)) 98):=by
  have n2:=hsp.n2
  have n24:=hsp.n24
  have hby:=S.flat
  have ha1:oneB a=true∧AV.cells a=[a]:=by obtain ⟨_,⟨rfl,_⟩|⟨_,_,_,_,_,_,rfl,_⟩⟩:=hs <;> exact ⟨rfl,rfl⟩
  refine zLv (fn:=Tryd.f32) Tryd.func32 rfl rfl rfl rfl rfl ?_
  simp only [zKx]
  obtain ⟨v,h',e1,M,rfl,rfl,hM⟩:=unpriced sp hsp a turn (X h [.cells (zAy [a,ii turn]) 53,.cells (zAy [byv]) 87,.cells (zAy [.nils,.int .i64 0,.nils]) 56] h.clock) (wf.X (by omega)) (ht.up wf _ _) (hs.up wf _ _)
  have hML:=zHv hM
  rw [X_X,nx_X,X_w] at e1
  simp only [List.length_cons,List.length_nil,Nat.reduceAdd,List.cons_append,List.nil_append] at e1
  unfold prv at e1
  have hla : ∀ l w,w≤h.clock+l.length→(om Tryd.prog KK).call (.fn 26 [.agg [a,ii turn]]) (X h l w) = .ok (ii ((sp.length - 1:Nat):Int)) (X h l w):=fun l w hw=>last a turn sp (by omega) _ (wf.X hw) (hs.up wf _ _)
  have hst:=starts a turn h wf (.cells (zAy [a,ii turn]) 53 :: .cells (zAy [byv]) 87 :: .cells (zAy [.nils,.int .i64 0,.nils]) 56 :: (M++[.cells (zAy [a,ii turn,.sl (nx h 7) 0 (sp.length - 1) (some (sp.length - 1)) 75]) 56])) h.clock (by omega)
  simp only [List.length_cons,List.length_append,List.length_nil,List.cons_append,List.append_assoc,List.nil_append,Nat.zero_add] at hst
  (repeat' (first
  | (with_reducible first|refine zJz ?_|refine zGw ?_|refine zEw ?_|refine zEx ?_|refine zEv ?_|refine zJy ?_|refine zGv ?_|refine zBw ?_|refine zDx ?_|refine zBv ?_|refine zCx ?_|refine zEz ?_|refine zCw ?_|refine zCz ?_|refine zBz ?_|refine zDv ?_|refine zDy ?_|refine zAx ?_|refine zAv ?_)
  | refine zCv ?_|refine zEy rfl ?_|refine zIw ?_|refine zIv ?_
  | ((first|refine zGx rfl rfl rfl rfl rfl fun K_ hK_=>?_|refine zGy rfl rfl rfl rfl rfl fun K_ hK_=>?_);simp only [zAz,zDz,zFw,↓reduceIte,reduceCtorEq,Nat.reduceEqDiff,Bool.not_true,Bool.not_false];refine hK_ _ ?_;clear hK_ K_)
  | refine zDw (by decide) ?_
  | ((try first|refine zJx rfl rfl rfl ?_|refine zIy rfl rfl ?_|refine zJv rfl rfl rfl ?_|refine zIx rfl rfl ?_);(refine zIz fun Q_ hQ_=>?_;simp (disch:=first|omega|(simp only [List.length_cons,List.length_nil,List.length_append];omega)) only [bb,bp,zKx,↓reduceIte,reduceCtorEq,Nat.reduceEqDiff,Nat.reduceLT,Nat.reduceLeDiff,Nat.reduceAdd,Nat.reduceMul,Nat.reduceSub,Nat.reduceBEq,Int.reduceToNat,cond_true,cond_false,eq_self,beq_self_eq_true,e1,hla,hst,hby.1,hby.2,ha1.1,ha1.2,zHz wf,zHx wf,zFz wf,zHy wf,zBx wf,zFy,tEvbT19,zHw,zKy,zAw wf];first|(refine zCy (Q:=Q_) (fun hp_=>?_) (fun hp_=>?_) <;> first|(exfalso;omega)|(refine hQ_ _ _ ?_;clear hQ_ Q_))|(refine zBy (Q:=Q_) (fun hp_=>?_) (fun hp_=>?_) <;> first|(exfalso;omega)|(refine hQ_ _ _ ?_;clear hQ_ Q_))|(refine hQ_ _ _ ?_;clear hQ_ Q_)))
  | (refine zFv fun K_ hK_=>?_;simp (disch:=omega) only [zFx,zAz,zGz,↓reduceIte,reduceCtorEq,Nat.reduceEqDiff,Nat.reduceLT];refine hK_ _ ?_;clear hK_ K_)))
  have zlen:(AO.cells (zAy [a,ii turn]) 53 :: .cells (zAy [byv]) 87 :: .cells (zAy [.nils,.int .i64 0,.nils]) 56 :: (M++[.cells (zAy [a,ii turn,.sl (nx h 7) 0 (sp.length - 1) (some (sp.length - 1)) 75]) 56,.cells (zAy [a,ii turn]) 53])).length=M.length+5:=by simp only [List.length_cons,List.length_append,List.length_nil]
  obtain ⟨L0,hL0⟩ : ∃ L0,L0=AO.cells (zAy [a,ii turn]) 53 :: .cells (zAy [byv]) 87 :: .cells (zAy [.nils,.int .i64 0,.nils]) 56 :: (M++[.cells (zAy [a,ii turn,.sl (nx h 7) 0 (sp.length - 1) (some (sp.length - 1)) 75]) 56,.cells (zAy [a,ii turn]) 53]):=⟨_,rfl⟩
  have z0:L0[0]? = some (.cells (zAy [a,ii turn]) 53):=by rw [hL0];rfl
  have z1:L0[1]? = some (.cells (zAy [byv]) 87):=by rw [hL0];rfl
  have z2:L0[2]? = some (.cells (zAy [.nils,.int .i64 0,.nils]) 56):=by rw [hL0];rfl
  have zp:L0[M.length+1+1+1]? = some (.cells (zAy [a,ii turn,.sl (nx h 7) 0 (sp.length - 1) (some (sp.length - 1)) 75]) 56):=by rw [hL0];simp only [List.getElem?_cons_succ,zNx,List.getElem?_cons_zero]
  have zb:L0[M.length+1+1+1+1]? = some (.cells (zAy [a,ii turn]) 53):=by rw [hL0];simp only [List.getElem?_cons_succ,zLw,List.getElem?_cons_zero]
  have zt:L0[7]? = some (.cells (zAy ((startT sp []).map ii)) 98):=by
    rw [hL0]
    simp only [List.getElem?_cons_succ]
    rw [List.getElem?_append_left hML,hM]
    unfold startT
    rw [List.foldl_nil,List.map_replicate];rfl
  rw [← hL0] at zlen
  rw [← hL0]
  have hML7:7<L0.length:=zHv zt
  clear hL0 e1 hst hM
  refine yBv wf rfl (zFx (by decide)) fun o ho=>?_
  simp only [zAz,↓reduceIte,reduceCtorEq,Nat.reduceEqDiff] at ho ⊢
  have startTo : ∀ k,WT sp (startT sp ((startsL sp).take k)):=fun k=>(startFold hsp _ _ WT.rep fun y hy=>yQw hsp (List.mem_of_mem_take hy)).1
  refine WV.mono (starts1 (nx h (M.length+1+1+1+1)) a turn sp ⟨n2,by omega⟩ hsp.ok (nx h (L0.length+1)) _ (fun k hx=>∃ w0,hx=X h (ET (L0++[.dfr,o]) 7 (startT sp ((startsL sp).take k))) w0∧w0≤h.clock+(L0.length+2)) (fun _=>False) h.clock (fun _=>h.clock+8) (h.clock+8) (Nat.le_refl _) (by simp only [X_w,zQx];omega) (fun _=>by simp only [zQx,List.length_append,List.length_cons,List.length_nil];omega) (by simp only [zQx,List.length_append,List.length_cons,List.length_nil];omega) ?_ (fun _ h=>h.elim) ?_ ⟨h.clock,by rw [List.take_zero,← ET_of (by rw [List.getElem?_append_left hML7];exact zt)],by omega⟩) ?_
  · rintro k hx ⟨w0,rfl,hw0⟩
    refine ⟨DrIn.of wf (by rw [zTx];simp only [List.length_append,List.length_cons,List.length_nil];omega) ?_ hs,Same.X (by rw [zTx])⟩
    rw [zZv (by omega),List.getElem?_append_left (zHv zb)];exact zb
  · rintro k x hx hbx J w ⟨w0,rfl,hw0⟩ hlo hw
    rw [List.getElem?_map] at hx
    obtain ⟨y,hy1,rfl⟩:=Option.map_eq_some_iff.1 hx
    have hk:=zHv hy1
    have hyk:(startsL sp)[k]=y:=by rw [List.getElem?_eq_getElem hk] at hy1;exact Option.some.inj hy1
    have hyok:=yQw hsp (List.mem_of_getElem? hy1)
    have hT:=startTo k
    have hnext:startT sp ((startsL sp).take (k+1))=(startT sp ((startsL sp).take k)).set (y.ix sp) 0:=by
      rw [List.take_succ_eq_append_getElem hk,hyk];unfold startT;rw [List.foldl_append];rfl
    rw [hnext]
    generalize startT sp ((startsL sp).take k)=Tk at *
    have hw':w≤h.clock+(L0.length+2)+J.length:=by simp only [zQx,zTx,List.length_append,List.length_cons,List.length_nil] at hw;omega
    rw [X_X,yEy (by simp only [List.length_append];omega),List.append_assoc]
    simp only [List.cons_append,List.nil_append]
    have hE : ∀ (o2:AO) (F:List AO) (j:Nat) ob,j≠7→L0[j]? = some ob→(ET (L0++(.dfr :: o2 :: F)) 7 Tk)[j]? = some ob:=fun o2 F j ob hj hg=>by rw [zZv (by omega),List.getElem?_append_left (zHv hg)];exact hg
    have hEo : ∀ (o2:AO) (F:List AO),(ET (L0++(.dfr :: o2 :: F)) 7 Tk)[L0.length+1]? = some o2:=fun o2 F=>by rw [zZv (by omega),zLw];rfl
    refine yIy wf (k:=L0.length+1) (hEo o J) ho (setParams1 rfl) ?_
    unfold stv
    (repeat' (first
  | (with_reducible first|refine zJz ?_|refine zGw ?_|refine zEw ?_|refine zEx ?_|refine zEv ?_|refine zJy ?_|refine zGv ?_|refine zBw ?_|refine zDx ?_|refine zBv ?_|refine zCx ?_|refine zEz ?_|refine zCw ?_|refine zCz ?_|refine zBz ?_|refine zDv ?_|refine zDy ?_|refine zAx ?_|refine zAv ?_)
  | refine zCv ?_|refine zEy rfl ?_|refine zIw ?_|refine zIv ?_
  | ((first|refine zGx rfl rfl rfl rfl rfl fun K_ hK_=>?_|refine zGy rfl rfl rfl rfl rfl fun K_ hK_=>?_);simp only [zAz,zDz,zFw,↓reduceIte,reduceCtorEq,Nat.reduceEqDiff,Bool.not_true,Bool.not_false];refine hK_ _ ?_;clear hK_ K_)
  | refine zDw (by decide) ?_
  | ((try first|refine zJx rfl rfl rfl ?_|refine zIy rfl rfl ?_|refine zJv rfl rfl rfl ?_|refine zIx rfl rfl ?_);(refine zIz fun Q_ hQ_=>?_;simp (disch:=first|omega|(simp only [List.length_cons,List.length_nil,List.length_append];omega)) only [bb,bp,zKx,↓reduceIte,reduceCtorEq,Nat.reduceEqDiff,Nat.reduceLT,Nat.reduceLeDiff,Nat.reduceAdd,Nat.reduceMul,Nat.reduceSub,Nat.reduceBEq,Int.reduceToNat,cond_true,cond_false,eq_self,beq_self_eq_true,zHz wf,zHx wf,zFz wf,zHy wf,zBx wf,zFy,tEvbT19,zHw,zKy,zAw wf];first|(refine zCy (Q:=Q_) (fun hp_=>?_) (fun hp_=>?_) <;> first|(exfalso;omega)|(refine hQ_ _ _ ?_;clear hQ_ Q_))|(refine zBy (Q:=Q_) (fun hp_=>?_) (fun hp_=>?_) <;> first|(exfalso;omega)|(refine hQ_ _ _ ?_;clear hQ_ Q_))|(refine hQ_ _ _ ?_;clear hQ_ Q_)))
  | (refine zFv fun K_ hK_=>?_;simp (disch:=omega) only [zFx,zAz,zGz,↓reduceIte,reduceCtorEq,Nat.reduceEqDiff,Nat.reduceLT];refine hK_ _ ?_;clear hK_ K_)))
    have hn0 : ∀ o2,(ET (L0++(.dfr :: o2 :: J)) 7 Tk).length=L0.length+(J.length+2):=fun o2=>by rw [zTx];simp only [List.length_append,List.length_cons]
    rw [hn0]
    refine yPv wf (k:=L0.length+1) (o:=o) (by rw [List.getElem?_append_left (by rw [hn0];omega)];exact hEo o J) ho fun o' ho'=>?_
    rw [List.set_append_left _ _ (by rw [hn0];omega),yXy (by omega),zOv]
    simp only [List.set_cons_succ,List.set_cons_zero]
    obtain ⟨Z,hZ⟩ : ∃ Z,Z=ET (L0++(.dfr :: o' :: J)) 7 Tk:=⟨_,rfl⟩
    rw [← hZ]
    have Zl:Z.length=L0.length+(J.length+2):=by rw [hZ];exact hn0 o'
    have Zp : ∀ G,(Z++G)[M.length+1+1+1]? = some (.cells (zAy [a,ii turn,.sl (nx h 7) 0 (sp.length - 1) (some (sp.length - 1)) 75]) 56):=fun G=>by rw [List.getElem?_append_left (by omega),hZ];exact hE o' J _ _ (by omega) zp
    have Zx : ∀ ob G,(Z++ob :: G)[L0.length+(J.length+2)]? = some ob:=fun ob G=>by rw [← Zl,zNx];rfl
    have Zt:(Z++[AO.cells (zAy (cellsS y)) 60])[7]? = some (.cells (zAy (Tk.map ii)) 98):=by rw [List.getElem?_append_left (by omega),hZ];exact xHx (by simp only [List.length_append];omega) _
    have hput : ∀ w',w'≤h.clock+(L0.length+(J.length+3)) → ∃ b1 b2,(om Tryd.prog KK).call (.fn 45 [prv a turn (nx h 7) (sp.length - 1),stv y,ii 0]) (X h (Z++[.cells (zAy (cellsS y)) 60]) w') = .ok (.tup []) (X h (Z.set 7 (.cells (zAy ((Tk.set (y.ix sp) 0).map ii)) 98)++[.cells (zAy (cellsS y)) 60,b1,b2]) (min w' (h.clock+7))):=fun w' hw'=>by
      obtain ⟨b1,b2,e⟩:=put_ sp hsp a turn Tk hT.len y hyok 0 h wf hs (Z++[.cells (zAy (cellsS y)) 60]) 7 w' Zt (by simp only [List.length_append,List.length_cons,List.length_nil];omega)
      refine ⟨b1,b2,?_⟩
      rw [e,List.set_append_left _ _ (by omega),List.append_assoc];rfl
    obtain ⟨b1,b2,hpt⟩:=hput (min (h.clock+(L0.length+1)) (min (h.clock+(L0.length+(J.length+2))) w)) (by omega)
    unfold prv stv cellsS at hpt
    (repeat' (first
  | (with_reducible first|refine zJz ?_|refine zGw ?_|refine zEw ?_|refine zEx ?_|refine zEv ?_|refine zJy ?_|refine zGv ?_|refine zBw ?_|refine zDx ?_|refine zBv ?_|refine zCx ?_|refine zEz ?_|refine zCw ?_|refine zCz ?_|refine zBz ?_|refine zDv ?_|refine zDy ?_|refine zAx ?_|refine zAv ?_)
  | refine zCv ?_|refine zEy rfl ?_|refine zIw ?_|refine zIv ?_
  | ((first|refine zGx rfl rfl rfl rfl rfl fun K_ hK_=>?_|refine zGy rfl rfl rfl rfl rfl fun K_ hK_=>?_);simp only [zAz,zDz,zFw,↓reduceIte,reduceCtorEq,Nat.reduceEqDiff,Bool.not_true,Bool.not_false];refine hK_ _ ?_;clear hK_ K_)
  | refine zDw (by decide) ?_
  | ((try first|refine zJx rfl rfl rfl ?_|refine zIy rfl rfl ?_|refine zJv rfl rfl rfl ?_|refine zIx rfl rfl ?_);(refine zIz fun Q_ hQ_=>?_;simp (disch:=first|omega|(simp only [List.length_cons,List.length_nil,List.length_append];omega)) only [bb,bp,zKx,↓reduceIte,reduceCtorEq,Nat.reduceEqDiff,Nat.reduceLT,Nat.reduceLeDiff,Nat.reduceAdd,Nat.reduceMul,Nat.reduceSub,Nat.reduceBEq,Int.reduceToNat,cond_true,cond_false,eq_self,beq_self_eq_true,Zp,Zx,hpt,zHz wf,zHx wf,zFz wf,zHy wf,zBx wf,zFy,tEvbT19,zHw,zKy,zAw wf];first|(refine zCy (Q:=Q_) (fun hp_=>?_) (fun hp_=>?_) <;> first|(exfalso;omega)|(refine hQ_ _ _ ?_;clear hQ_ Q_))|(refine zBy (Q:=Q_) (fun hp_=>?_) (fun hp_=>?_) <;> first|(exfalso;omega)|(refine hQ_ _ _ ?_;clear hQ_ Q_))|(refine hQ_ _ _ ?_;clear hQ_ Q_)))
  | (refine zFv fun K_ hK_=>?_;simp (disch:=omega) only [zFx,zAz,zGz,↓reduceIte,reduceCtorEq,Nat.reduceEqDiff,Nat.reduceLT];refine hK_ _ ?_;clear hK_ K_)))
    refine yEz wf (k:=L0.length+1) (o:=o') ?_ ho' ?_
    · rw [List.getElem?_append_left (by rw [List.length_set];omega),List.getElem?_set_ne (by omega),hZ];exact hEo o' J
    rw [List.set_append_left _ _ (by rw [List.length_set];omega),hZ,ET_put,yXy (by omega),zOv]
    simp only [List.set_cons_succ,List.set_cons_zero]
    rw [← ho]
    have hXe : ∀ T' G w',X h (ET (L0++(.dfr :: o :: J)) 7 T'++G) w'=X (X h (ET (L0++[.dfr,o]) 7 T') h.clock) (J++G) w':=fun T' G w'=>by
      rw [X_X,← List.append_assoc,yEy (by simp only [List.length_append];omega) _ J,List.append_assoc];rfl
    rw [hXe]
    exact ⟨_,[_,b1,b2],_,rfl,Same.X (by rw [zTx,zTx]),by omega,by omega,.inl ⟨rfl,by omega,h.clock,rfl,by omega⟩⟩
  · rintro v h' ⟨hz,J3,w3,rfl,hsz,hlo3,hw3,⟨⟨w2,rfl,hw2⟩,hc3⟩|⟨hF,_⟩⟩
    rotate_left 1
    · exact hF.elim
    rw [List.length_map,List.take_length] at *
    have hT0:startT sp (startsL sp)=paidU pf sp 0:=rfl
    rw [hT0]
    have hw3':w3≤h.clock+(L0.length+2):=by simp only [X_w] at hw3;omega
    rw [X_X,yEy (by simp only [List.length_append];omega),List.append_assoc]
    simp only [List.cons_append,List.nil_append]
    refine zXx wf (k:=L0.length+1) (o:=o) (by rw [zZv (by omega),zLw];rfl) ho (by decide) fun o6 ho6=>?_
    rw [yXy (by omega),zOv]
    simp only [List.set_cons_succ,List.set_cons_zero]
    obtain ⟨L1,hL1⟩ : ∃ L1,L1=L0++(.dfr :: o6 :: J3):=⟨_,rfl⟩
    rw [← hL1]
    have y0:L1[0]? = some (.cells (zAy [a,ii turn]) 53):=by rw [hL1,List.getElem?_append_left (zHv z0)];exact z0
    have y1:L1[1]? = some (.cells (zAy [byv]) 87):=by rw [hL1,List.getElem?_append_left (zHv z1)];exact z1
    have y2:L1[2]? = some (.cells (zAy [.nils,.int .i64 0,.nils]) 56):=by rw [hL1,List.getElem?_append_left (zHv z2)];exact z2
    have yp:L1[M.length+1+1+1]? = some (.cells (zAy [a,ii turn,.sl (nx h 7) 0 (sp.length - 1) (some (sp.length - 1)) 75]) 56):=by rw [hL1,List.getElem?_append_left (zHv zp)];exact zp
    have yd:L1[L0.length]? = some .dfr:=by rw [hL1,zNx];rfl
    have hl1:L0.length+2≤L1.length:=by rw [hL1];simp only [List.length_append,List.length_cons];omega
    generalize hmin:min (h.clock+(L0.length+1)) w3=w4
    have hw4:h.clock≤w4∧w4≤h.clock+L1.length:=by omega
    have hkp:M.length+1+1+1≠7:=fun e=>by
      rw [e,zt] at zp
      injection zp with zp
      injection zp with _ zp
      exact absurd zp (by decide)
    have hd0:L0.length≠7:=by omega
    clear hL1 z0 z1 z2 zp zb zt hmin hc3 hw3 hw3' hlo3 ho ho6 hsz hT0
    (repeat' (first
  | (with_reducible first|refine zJz ?_|refine zGw ?_|refine zEw ?_|refine zEx ?_|refine zEv ?_|refine zJy ?_|refine zGv ?_|refine zBw ?_|refine zDx ?_|refine zBv ?_|refine zCx ?_|refine zEz ?_|refine zCw ?_|refine zCz ?_|refine zBz ?_|refine zDv ?_|refine zDy ?_|refine zAx ?_|refine zAv ?_)
  | refine zCv ?_|refine zEy rfl ?_|refine zIw ?_|refine zIv ?_
  | ((first|refine zGx rfl rfl rfl rfl rfl fun K_ hK_=>?_|refine zGy rfl rfl rfl rfl rfl fun K_ hK_=>?_);simp only [zAz,zDz,zFw,↓reduceIte,reduceCtorEq,Nat.reduceEqDiff,Bool.not_true,Bool.not_false];refine hK_ _ ?_;clear hK_ K_)
  | refine zDw (by decide) ?_
  | ((try first|refine zJx rfl rfl rfl ?_|refine zIy rfl rfl ?_|refine zJv rfl rfl rfl ?_|refine zIx rfl rfl ?_);(refine zIz fun Q_ hQ_=>?_;simp (disch:=first|omega|(simp only [List.length_cons,List.length_nil,List.length_append];omega)) only [bb,bp,zKx,↓reduceIte,reduceCtorEq,Nat.reduceEqDiff,Nat.reduceLT,Nat.reduceLeDiff,Nat.reduceAdd,Nat.reduceMul,Nat.reduceSub,Nat.reduceBEq,Int.reduceToNat,cond_true,cond_false,eq_self,beq_self_eq_true,zHz wf,zHx wf,zFz wf,zHy wf,zBx wf,zFy,tEvbT19,zHw,zKy,zAw wf];first|(refine zCy (Q:=Q_) (fun hp_=>?_) (fun hp_=>?_) <;> first|(exfalso;omega)|(refine hQ_ _ _ ?_;clear hQ_ Q_))|(refine zBy (Q:=Q_) (fun hp_=>?_) (fun hp_=>?_) <;> first|(exfalso;omega)|(refine hQ_ _ _ ?_;clear hQ_ Q_))|(refine hQ_ _ _ ?_;clear hQ_ Q_)))
  | (refine zFv fun K_ hK_=>?_;simp (disch:=omega) only [zFx,zAz,zGz,↓reduceIte,reduceCtorEq,Nat.reduceEqDiff,Nat.reduceLT];refine hK_ _ ?_;clear hK_ K_)))
    generalize hkpe:M.length+1+1+1=kp at *
    generalize L0.length=kd at *
    have hel:(ET L1 7 (paidU pf sp 0)).length=L1.length:=zTx _ _ _
    refine zVz (fun (k:Nat) f d h'=>k+1<sp.length∧(f 2 = .ptr (nx h 0) 0∧f 3 = .ptr (nx h 1) 0∧f 4 = .ptr (nx h 2) 0∧f 5 = .ptr (nx h kp) 0) ∧ ∃ (L:List AO) (w ki:Nat) (ks:List Nat),f 7 = .ptr (nx h ki) 0∧d=ks.map (nx h)∧h'=X h (ET L 7 (paidU pf sp k)) w∧(L[0]? = some (.cells (zAy [a,ii turn]) 53)∧L[1]? = some (.cells (zAy [byv]) 87)∧L[2]? = some (.cells (zAy [.nils,.int .i64 0,.nils]) 56)∧L[kp]? = some (.cells (zAy [a,ii turn,.sl (nx h 7) 0 (sp.length - 1) (some (sp.length - 1)) 75]) 56))∧L[ki]? = some (.cells (zAy [ii ((k+1:Nat):Int)]) 3)∧7<ki∧ks.Nodup∧(∀ j ∈ ks,L[j]? = some .dfr∧j≠7)∧h.clock≤w∧w≤h.clock+L.length) (fun k=>sp.length - k) ?_ (sp.length+1) 0 (by omega) ?_
    rotate_left 1
    · refine ⟨by omega,⟨by simp only [zAz,↓reduceIte,reduceCtorEq,Nat.reduceEqDiff],by simp only [zAz,↓reduceIte,reduceCtorEq,Nat.reduceEqDiff],by simp only [zAz,↓reduceIte,reduceCtorEq,Nat.reduceEqDiff],by simp only [zAz,↓reduceIte,reduceCtorEq,Nat.reduceEqDiff]⟩,L1++[.cells (zAy [ii 1]) 3],_,L1.length,[kd],by simp only [zAz,↓reduceIte,reduceCtorEq,Nat.reduceEqDiff];rw [hel],rfl,by rw [yEy (by omega)],⟨?_,?_,?_,?_⟩,by rw [zNx];rfl,by omega,by simp,?_,?_,?_⟩
      · rw [List.getElem?_append_left (zHv y0)];exact y0
      · rw [List.getElem?_append_left (zHv y1)];exact y1
      · rw [List.getElem?_append_left (zHv y2)];exact y2
      · rw [List.getElem?_append_left (zHv yp)];exact yp
      · intro j hj
        rw [List.mem_singleton] at hj
        subst hj
        exact ⟨by rw [List.getElem?_append_left (zHv yd)];exact yd,hd0⟩
      · rw [hel];omega
      · rw [hel];simp only [List.length_append,List.length_cons,List.length_nil];omega
    clear y0 y1 y2 yp yd hl1 hw4 hel hd0 hML7
    rintro k f d h' ⟨hk,⟨g2,g3,g4,g5⟩,L,w,ki,ks,g7,rfl,rfl,⟨y0,y1,y2,yp⟩,yi,hki,hks,hkd,hw1,hw2⟩
    have PDk:=PD.all (pf:=pf) hsp S.le k hk
    generalize hTk:paidU pf sp k=Tk at *
    have hL7:7<L.length:=by have:=zHv yi;omega
    have E0 : ∀ G,(ET L 7 Tk++G)[0]? = some (.cells (zAy [a,ii turn]) 53):=fun G=>by rw [List.getElem?_append_left (by rw [zTx];omega),zZv (by omega)];exact y0
    have E0':(ET L 7 Tk)[0]? = some (.cells (zAy [a,ii turn]) 53):=by rw [zZv (by omega)];exact y0
    have Ep:(ET L 7 Tk)[kp]? = some (.cells (zAy [a,ii turn,.sl (nx h 7) 0 (sp.length - 1) (some (sp.length - 1)) 75]) 56):=by rw [zZv (by omega)];exact yp
    have Ei:(ET L 7 Tk)[ki]? = some (.cells (zAy [ii ((k+1:Nat):Int)]) 3):=by rw [zZv (by omega)];exact yi
    have hla' : ∀ w,w≤h.clock+L.length→(om Tryd.prog KK).call (.fn 26 [.agg [a,ii turn]]) (X h (ET L 7 Tk) w) = .ok (ii ((sp.length - 1:Nat):Int)) (X h (ET L 7 Tk) w):=fun w hw=>hla _ w (by rw [zTx];exact hw)
    have hEl:(ET L 7 Tk).length=L.length:=zTx _ _ _
    by_cases hlt:k+1<sp.length - 1
    · have hrd:=reached a turn ((k+1:Nat):Int) (nx h 7) (sp.length - 1) h wf (ET L 7 Tk) w (by rw [hEl];exact hw2)
      rw [hEl] at hrd
      unfold prv at hrd
      (repeat' (first
  | (with_reducible first|refine zJz ?_|refine zGw ?_|refine zEw ?_|refine zEx ?_|refine zEv ?_|refine zJy ?_|refine zGv ?_|refine zBw ?_|refine zDx ?_|refine zBv ?_|refine zCx ?_|refine zEz ?_|refine zCw ?_|refine zCz ?_|refine zBz ?_|refine zDv ?_|refine zDy ?_|refine zAx ?_|refine zAv ?_)
  | refine zCv ?_|refine zEy rfl ?_|refine zIw ?_|refine zIv ?_
  | ((first|refine zGx rfl rfl rfl rfl rfl fun K_ hK_=>?_|refine zGy rfl rfl rfl rfl rfl fun K_ hK_=>?_);simp only [zAz,zDz,zFw,↓reduceIte,reduceCtorEq,Nat.reduceEqDiff,Bool.not_true,Bool.not_false];refine hK_ _ ?_;clear hK_ K_)
  | refine zDw (by decide) ?_
  | ((try first|refine zJx rfl rfl rfl ?_|refine zIy rfl rfl ?_|refine zJv rfl rfl rfl ?_|refine zIx rfl rfl ?_);(refine zIz fun Q_ hQ_=>?_;simp (disch:=first|omega|(simp only [List.length_cons,List.length_nil,List.length_append];omega)) only [bb,bp,zKx,↓reduceIte,reduceCtorEq,Nat.reduceEqDiff,Nat.reduceLT,Nat.reduceLeDiff,Nat.reduceAdd,Nat.reduceMul,Nat.reduceSub,Nat.reduceBEq,Int.reduceToNat,cond_true,cond_false,eq_self,beq_self_eq_true,g2,g3,g4,g5,g7,tEvbT19,zHw,zKy,zAw wf];first|(refine zCy (Q:=Q_) (fun hp_=>?_) (fun hp_=>?_) <;> first|(exfalso;omega)|(refine hQ_ _ _ ?_;clear hQ_ Q_))|(refine zBy (Q:=Q_) (fun hp_=>?_) (fun hp_=>?_) <;> first|(exfalso;omega)|(refine hQ_ _ _ ?_;clear hQ_ Q_))|(refine hQ_ _ _ ?_;clear hQ_ Q_)))
  | (refine zFv fun K_ hK_=>?_;simp (disch:=omega) only [zFx,zAz,zGz,↓reduceIte,reduceCtorEq,Nat.reduceEqDiff,Nat.reduceLT];refine hK_ _ ?_;clear hK_ K_)))
      refine zMw [.no,.no,.no,.full] (by kernel_rfl) ?_
      (repeat' (first
  | (with_reducible first|refine zJz ?_|refine zGw ?_|refine zEw ?_|refine zEx ?_|refine zEv ?_|refine zJy ?_|refine zGv ?_|refine zBw ?_|refine zDx ?_|refine zBv ?_|refine zCx ?_|refine zEz ?_|refine zCw ?_|refine zCz ?_|refine zBz ?_|refine zDv ?_|refine zDy ?_|refine zAx ?_|refine zAv ?_)
  | refine zCv ?_|refine zEy rfl ?_|refine zIw ?_|refine zIv ?_
  | ((first|refine zGx rfl rfl rfl rfl rfl fun K_ hK_=>?_|refine zGy rfl rfl rfl rfl rfl fun K_ hK_=>?_);simp only [zAz,zDz,zFw,↓reduceIte,reduceCtorEq,Nat.reduceEqDiff,Bool.not_true,Bool.not_false];refine hK_ _ ?_;clear hK_ K_)
  | refine zDw (by decide) ?_
  | ((try first|refine zJx rfl rfl rfl ?_|refine zIy rfl rfl ?_|refine zJv rfl rfl rfl ?_|refine zIx rfl rfl ?_);(refine zIz fun Q_ hQ_=>?_;simp (disch:=first|omega|(simp only [List.length_cons,List.length_nil,List.length_append];omega)) only [bb,bp,zKx,↓reduceIte,reduceCtorEq,Nat.reduceEqDiff,Nat.reduceLT,Nat.reduceLeDiff,Nat.reduceAdd,Nat.reduceMul,Nat.reduceSub,Nat.reduceBEq,Int.reduceToNat,cond_true,cond_false,eq_self,beq_self_eq_true,g2,g3,g4,g5,g7,E0',Ep,Ei,hla',hEl,hrd,zHz wf,zHx wf,zFz wf,zHy wf,zBx wf,zFy,tEvbT19,zHw,zKy,zAw wf];first|(refine zCy (Q:=Q_) (fun hp_=>?_) (fun hp_=>?_) <;> first|(exfalso;omega)|(refine hQ_ _ _ ?_;clear hQ_ Q_))|(refine zBy (Q:=Q_) (fun hp_=>?_) (fun hp_=>?_) <;> first|(exfalso;omega)|(refine hQ_ _ _ ?_;clear hQ_ Q_))|(refine hQ_ _ _ ?_;clear hQ_ Q_)))
  | (refine zFv fun K_ hK_=>?_;simp (disch:=omega) only [zFx,zAz,zGz,↓reduceIte,reduceCtorEq,Nat.reduceEqDiff,Nat.reduceLT];refine hK_ _ ?_;clear hK_ K_)))
      have hlev:paidU pf sp (k+1)=(reachL sp (k+1) Tk).foldl (relaxC pf sp (k+1)) Tk:=by show level pf sp (paidU pf sp k) (k+1)=_;rw [hTk];rfl
      have hmem : ∀ p ∈ reachL sp (k+1) Tk,p.1.Ok sp∧p.1.i=k+1∧0≤p.2∧p.2<farI:=fun p hp=>by
        obtain ⟨h1,h2,_,h4,h5⟩:=yGx PDk.wt ⟨by omega,hk⟩ hp
        exact ⟨h1,h2,h4,h5⟩
      have hne:=PDk.ne hsp (i:=k+1) ⟨by omega,Nat.le_refl _,hk⟩
      have hwts : ∀ m,WT sp (((reachL sp (k+1) Tk).take m).foldl (relaxC pf sp (k+1)) Tk):=fun m=>by
        rw [level_eq]
        refine (RL.of (pf:=pf) (i:=k+1) hsp _ _ PDk.wt fun q hq=>?_).wt
        refine (level_rl hsp S.le PDk.wt ⟨by omega,by omega⟩).1 q ?_
        obtain ⟨p,c⟩:=q
        obtain ⟨h1,h2⟩:=yDy.1 hq
        exact yDy.2 ⟨List.mem_of_mem_take h1,h2⟩
      rw [yEy hL7]
      refine yBv wf rfl (zFx (by decide)) fun o ho=>?_
      simp only [zAz,↓reduceIte,reduceCtorEq,Nat.reduceEqDiff] at ho ⊢
      rw [zTx,yEy (by rw [List.length_append];omega)]
      simp only [List.length_append,List.length_cons,List.length_nil,List.append_assoc,List.cons_append,List.nil_append,Nat.zero_add,Nat.reduceAdd]
      obtain ⟨E,hE⟩ : ∃ E,E=L++[AO.cells (zAy [a,ii turn,.sl (nx h 7) 0 (sp.length - 1) (some (sp.length - 1)) 75]) 56,.cells (zAy [ii ((k+1:Nat):Int)]) 3,.dfr,o]:=⟨_,rfl⟩
      rw [← hE]
      have El:E.length=L.length+4:=by rw [hE];simp only [List.length_append,List.length_cons,List.length_nil]
      have Ed:E[L.length+2]? = some .dfr:=by rw [hE,zLw];rfl
      have Eo:E[L.length+2+1]? = some o:=by rw [hE,Nat.add_assoc,zLw];rfl
      have Erp:E[L.length]? = some (.cells (zAy [a,ii turn,.sl (nx h 7) 0 (sp.length - 1) (some (sp.length - 1)) 75]) 56):=by rw [hE,zNx];rfl
      have Eri:E[L.length+1]? = some (.cells (zAy [ii ((k+1:Nat):Int)]) 3):=by rw [hE,zLw];rfl
      have EL : ∀ (j:Nat) ob,L[j]? = some ob→E[j]? = some ob:=fun j ob hg=>by rw [hE,List.getElem?_append_left (zHv hg)];exact hg
      clear hE hrd
      refine WV.mono (reached1 (nx h L.length) (nx h (L.length+1)) (nx h 7) a (k+1) sp hsp ⟨by omega,hk⟩ Tk PDk.wt.len hne (nx h (L.length+2+1)) _ (fun m hx=>∃ w0,hx=X h (ET E 7 (((reachL sp (k+1) Tk).take m).foldl (relaxC pf sp (k+1)) Tk)) w0∧w0≤h.clock+E.length) (fun _=>False) h.clock (fun _=>h.clock+8) (h.clock+8) (by simp only [X_w];omega) (by simp only [X_w,zQx,zTx];omega) (fun _=>by simp only [zQx,zTx];omega) (by simp only [zQx,zTx];omega) ?_ (fun _ h=>h.elim) ?_ ⟨w,by rw [List.take_zero];rfl,by omega⟩ ?_) ?_
      · rintro m hx ⟨w0,rfl,hw0⟩
        refine ⟨RcIn.of wf (turn:=turn) (by rw [zTx];exact hw0) ?_ ?_ hs ht,Same.X (by rw [zTx,zTx])⟩
        · rw [zZv (by omega)];exact Erp
        · rw [zZv (by omega)];exact Eri
      · rintro m x hx hbx J w1 ⟨w0,rfl,hw0⟩ hlo hw
        unfold ylds at hx
        rw [List.getElem?_map] at hx
        obtain ⟨p,hp1,rfl⟩:=Option.map_eq_some_iff.1 hx
        have hm:=zHv hp1
        have hpm:(reachL sp (k+1) Tk)[m]=p:=by rw [List.getElem?_eq_getElem hm] at hp1;exact Option.some.inj hp1
        obtain ⟨pok,pi,pn0,pn1⟩:=hmem p (List.mem_of_getElem? hp1)
        have hT:=hwts m
        have hnext:((reachL sp (k+1) Tk).take (m+1)).foldl (relaxC pf sp (k+1)) Tk=relaxC pf sp (k+1) (((reachL sp (k+1) Tk).take m).foldl (relaxC pf sp (k+1)) Tk) p:=by
          rw [List.take_succ_eq_append_getElem hm,hpm,List.foldl_append];rfl
        rw [hnext]
        generalize ((reachL sp (k+1) Tk).take m).foldl (relaxC pf sp (k+1)) Tk=Tm at *
        have hw':w1≤h.clock+(L.length+4)+J.length:=by simp only [zQx,zTx] at hw;omega
        rw [X_X,yEy (by omega)]
        refine yIy wf (k:=L.length+2+1) (o:=o) (by rw [zZv (by omega),List.getElem?_append_left (by omega)];exact Eo) ho (setParams2 rfl rfl) ?_
        obtain ⟨⟨x,n⟩,rfl⟩ : ∃ q:Stt × Int,q=p:=⟨p,rfl⟩
        dsimp only at pok pi pn0 pn1 ⊢
        have hn0:(ET (E++J) 7 Tm).length=L.length+(J.length+4):=by rw [zTx,List.length_append];omega
        unfold stv
        (repeat' (first
  | (with_reducible first|refine zJz ?_|refine zGw ?_|refine zEw ?_|refine zEx ?_|refine zEv ?_|refine zJy ?_|refine zGv ?_|refine zBw ?_|refine zDx ?_|refine zBv ?_|refine zCx ?_|refine zEz ?_|refine zCw ?_|refine zCz ?_|refine zBz ?_|refine zDv ?_|refine zDy ?_|refine zAx ?_|refine zAv ?_)
  | refine zCv ?_|refine zEy rfl ?_|refine zIw ?_|refine zIv ?_
  | ((first|refine zGx rfl rfl rfl rfl rfl fun K_ hK_=>?_|refine zGy rfl rfl rfl rfl rfl fun K_ hK_=>?_);simp only [zAz,zDz,zFw,↓reduceIte,reduceCtorEq,Nat.reduceEqDiff,Bool.not_true,Bool.not_false];refine hK_ _ ?_;clear hK_ K_)
  | refine zDw (by decide) ?_
  | ((try first|refine zJx rfl rfl rfl ?_|refine zIy rfl rfl ?_|refine zJv rfl rfl rfl ?_|refine zIx rfl rfl ?_);(refine zIz fun Q_ hQ_=>?_;simp (disch:=first|omega|(simp only [List.length_cons,List.length_nil,List.length_append];omega)) only [bb,bp,zKx,↓reduceIte,reduceCtorEq,Nat.reduceEqDiff,Nat.reduceLT,Nat.reduceLeDiff,Nat.reduceAdd,Nat.reduceMul,Nat.reduceSub,Nat.reduceBEq,Int.reduceToNat,cond_true,cond_false,eq_self,beq_self_eq_true,zHz wf,zHx wf,zFz wf,zHy wf,zBx wf,zFy,tEvbT19,zHw,zKy,zAw wf];first|(refine zCy (Q:=Q_) (fun hp_=>?_) (fun hp_=>?_) <;> first|(exfalso;omega)|(refine hQ_ _ _ ?_;clear hQ_ Q_))|(refine zBy (Q:=Q_) (fun hp_=>?_) (fun hp_=>?_) <;> first|(exfalso;omega)|(refine hQ_ _ _ ?_;clear hQ_ Q_))|(refine hQ_ _ _ ?_;clear hQ_ Q_)))
  | (refine zFv fun K_ hK_=>?_;simp (disch:=omega) only [zFx,zAz,zGz,↓reduceIte,reduceCtorEq,Nat.reduceEqDiff,Nat.reduceLT];refine hK_ _ ?_;clear hK_ K_)))
        rw [hn0]
        refine yPv wf (k:=L.length+2+1) (o:=o) (by rw [List.getElem?_append_left (by omega),zZv (by omega),List.getElem?_append_left (by omega)];exact Eo) ho fun o' ho'=>?_
        rw [List.set_append_left _ _ (by omega),yXy (by omega)]
        obtain ⟨F,hF⟩ : ∃ F,F=(E++J).set (L.length+2+1) o':=⟨_,rfl⟩
        rw [← hF]
        have Fl:F.length=L.length+(J.length+4):=by rw [hF,List.length_set,List.length_append];omega
        have FL : ∀ (j:Nat) ob,L[j]? = some ob→F[j]? = some ob:=fun j ob hg=>by
          have:=zHv hg
          rw [hF,List.getElem?_set_ne (by omega),List.getElem?_append_left (by omega)];exact EL j ob hg
        have Fo:F[L.length+2+1]? = some o':=by rw [hF,List.getElem?_set_self (by rw [List.length_append];omega)]
        rw [yEy (by omega)]
        obtain ⟨G,hG⟩ : ∃ G,G=F++[AO.cells (zAy [.int .i64 (x.i:Int),.int .i64 x.a,.int .i64 x.b,.int .i64 (x.s:Int)]) 60,.cells (zAy [ii n]) 2]:=⟨_,rfl⟩
        rw [← hG]
        have Gl:G.length=L.length+(J.length+4)+2:=by rw [hG,List.length_append,Fl];rfl
        have GF : ∀ (j:Nat) ob,F[j]? = some ob→G[j]? = some ob:=fun j ob hg=>by rw [hG,List.getElem?_append_left (zHv hg)];exact hg
        have Gx:G[L.length+(J.length+4)]? = some (.cells (zAy [.int .i64 (x.i:Int),.int .i64 x.a,.int .i64 x.b,.int .i64 (x.s:Int)]) 60):=by rw [hG,← Fl,zNx];rfl
        have Gn:G[L.length+(J.length+4)+1]? = some (.cells (zAy [ii n]) 2):=by rw [hG,← Fl,zLw];rfl
        have Go:=GF _ _ Fo
        generalize hwA:min (h.clock+(L.length+2+1)) (min (h.clock+(L.length+(J.length+4)+1)) (min (h.clock+(L.length+(J.length+4))) w1))=wA
        have hwA1:h.clock≤wA∧wA≤h.clock+(L.length+3):=by omega
        have hi2:k+1+1<sp.length:=by omega
        obtain ⟨⟨r1,r2⟩,⟨r3,r4⟩,r5,r6⟩:=hsp.at hi2
        obtain ⟨id0,off0,hix0,hld0⟩:=hs.at wf hi2 yLz
        have hr0 : ∀ l w,loadAgg id0 off0 (some 2) (X h l w)=some (.agg [ii (spot sp (k+1+1)).1,ii (spot sp (k+1+1)).2]):=fun l w=>by rw [(hld0 l w).2,zWx hi2,zPz hi2]
        have e12:(((k+1:Nat):Int)+1)=((k+1+1:Nat):Int):=by omega
        have hoff:=offsets (spot sp (k+1+1)).1 (spot sp (k+1+1)).2 h wf (ET G 7 Tm) wA (by rw [zTx];omega)
        rw [zTx,yEy (by omega)] at hoff
        have q0:(ET G 7 Tm)[0]? = some (.cells (zAy [a,ii turn]) 53):=by rw [zZv (by omega)];exact GF _ _ (FL _ _ y0)
        have qi:(ET G 7 Tm)[ki]? = some (.cells (zAy [ii ((k+1:Nat):Int)]) 3):=by rw [zZv (by omega)];exact GF _ _ (FL _ _ yi)
        (repeat' (first
  | (with_reducible first|refine zJz ?_|refine zGw ?_|refine zEw ?_|refine zEx ?_|refine zEv ?_|refine zJy ?_|refine zGv ?_|refine zBw ?_|refine zDx ?_|refine zBv ?_|refine zCx ?_|refine zEz ?_|refine zCw ?_|refine zCz ?_|refine zBz ?_|refine zDv ?_|refine zDy ?_|refine zAx ?_|refine zAv ?_)
  | refine zCv ?_|refine zEy rfl ?_|refine zIw ?_|refine zIv ?_
  | ((first|refine zGx rfl rfl rfl rfl rfl fun K_ hK_=>?_|refine zGy rfl rfl rfl rfl rfl fun K_ hK_=>?_);simp only [zAz,zDz,zFw,↓reduceIte,reduceCtorEq,Nat.reduceEqDiff,Bool.not_true,Bool.not_false];refine hK_ _ ?_;clear hK_ K_)
  | refine zDw (by decide) ?_
  | ((try first|refine zJx rfl rfl rfl ?_|refine zIy rfl rfl ?_|refine zJv rfl rfl rfl ?_|refine zIx rfl rfl ?_);(refine zIz fun Q_ hQ_=>?_;simp (disch:=first|omega|(simp only [List.length_cons,List.length_nil,List.length_append];omega)) only [bb,bp,zKx,↓reduceIte,reduceCtorEq,Nat.reduceEqDiff,Nat.reduceLT,Nat.reduceLeDiff,Nat.reduceAdd,Nat.reduceMul,Nat.reduceSub,Nat.reduceBEq,Int.reduceToNat,cond_true,cond_false,eq_self,beq_self_eq_true,g2,g3,g4,g5,g7,q0,qi,e12,hix0,hr0,hoff,zHz wf,zHx wf,zFz wf,zHy wf,zBx wf,zFy,tEvbT19,zHw,zKy,zAw wf];first|(refine zCy (Q:=Q_) (fun hp_=>?_) (fun hp_=>?_) <;> first|(exfalso;omega)|(refine hQ_ _ _ ?_;clear hQ_ Q_))|(refine zBy (Q:=Q_) (fun hp_=>?_) (fun hp_=>?_) <;> first|(exfalso;omega)|(refine hQ_ _ _ ?_;clear hQ_ Q_))|(refine hQ_ _ _ ?_;clear hQ_ Q_)))
  | (refine zFv fun K_ hK_=>?_;simp (disch:=omega) only [zFx,zAz,zGz,↓reduceIte,reduceCtorEq,Nat.reduceEqDiff,Nat.reduceLT];refine hK_ _ ?_;clear hK_ K_)))
        refine xZy wf (k:=L.length+2+1) (o:=o') rfl (zFx (by decide)) (by rw [zZv (by omega),List.getElem?_append_left (by omega)];exact Go) ho' fun o2 ho2=>?_
        rw [yEy (by rw [List.length_append];omega),zTx]
        simp only [zAz,↓reduceIte,reduceCtorEq,Nat.reduceEqDiff,List.length_append,List.length_cons,List.length_nil,List.append_assoc,List.cons_append,List.nil_append,Nat.zero_add] at ho2 ⊢
        try simp only [Gl] at ho2
        simp only [Gl]
        obtain ⟨H2,hH2⟩ : ∃ H2,H2=G++[AO.cells (zAy [ii (spot sp (k+1+1)).1,ii (spot sp (k+1+1)).2]) 35,o2]:=⟨_,rfl⟩
        rw [← hH2]
        have Hl:H2.length=L.length+(J.length+4)+2+2:=by rw [hH2,List.length_append,Gl];rfl
        have HG : ∀ (j:Nat) ob,G[j]? = some ob→H2[j]? = some ob:=fun j ob hg=>by rw [hH2,List.getElem?_append_left (zHv hg)];exact hg
        have Hr:H2[L.length+(J.length+4)+2]? = some (AO.cells (zAy [ii (spot sp (k+1+1)).1,ii (spot sp (k+1+1)).2]) 35):=by rw [hH2,← Gl,zNx];rfl
        have Ho2:H2[L.length+(J.length+4)+2+1]? = some o2:=by rw [hH2,← Gl,zLw];rfl
        have relTo : ∀ c,WT sp (((offs (spot sp (k+1+1))).take c).foldl (relax pf sp (x,n)) Tm):=fun c=>by
          rw [xSy pf sp (k+1) (x,n)]
          refine (RL.of (pf:=pf) (i:=k+1) hsp _ _ hT fun q hq=>?_).wt
          obtain ⟨y,hy,rfl⟩:=List.mem_map.1 hq
          obtain ⟨v1,v2⟩:=zXy.1 (List.mem_of_mem_take hy)
          refine ⟨pok,pi,hi2,⟨v1,v2⟩,⟨pn0,pn1⟩,?_⟩
          obtain ⟨⟨i1,i2⟩,i3,i4,_⟩:=pok
          obtain ⟨⟨a1,a2⟩,⟨a3,a4⟩,_,_⟩:=hsp.at (i:=x.i - 1) (by omega)
          obtain ⟨⟨b1,b2⟩,⟨b3,b4⟩,_,_⟩:=hsp.at i2
          exact (S.le x.a x.b x.s y ⟨by omega,by omega⟩ ⟨by omega,by omega⟩ ⟨by omega,by omega⟩).1
        have hNo:((offs (spot sp (k+1+1))).map fun y=>[ii y]).length=(offs (spot sp (k+1+1))).length:=List.length_map _
        have hNp:0<(offs (spot sp (k+1+1))).length:=by rw [zOy];omega
        refine WV.mono ((offsets1 (t:=60) (nx h (L.length+(J.length+4)+2)) (spot sp (k+1+1)) ⟨⟨r1,r2⟩,⟨r3,r4⟩,r5⟩).plain (nx h (L.length+(J.length+4)+2+1)) _ (fun c hx=>∃ w0,hx=X h (ET H2 7 (((offs (spot sp (k+1+1))).take c).foldl (relax pf sp (x,n)) Tm)) w0∧w0≤h.clock+H2.length) (fun _=>False) h.clock (fun _=>h.clock+8) (h.clock+8) (by simp only [X_w];omega) (by simp only [X_w,zQx,zTx];omega) (fun _=>by simp only [zQx,zTx];omega) (by simp only [zQx,zTx];omega) ?_ (fun _ h=>h.elim) ?_ ⟨wA,by rw [List.take_zero];rfl,by omega⟩) ?_
        · rintro c hx ⟨w0,rfl,hw0⟩
          refine ⟨RangeIn.of wf (by rw [zTx];exact hw0) ?_,Same.X (by rw [zTx,zTx])⟩
          rw [zZv (by omega)];exact Hr
        · rintro c ya hyc hbx J2 w2 ⟨w0',rfl,hw0'⟩ hlo2 hw2'
          have hc:c<(offs (spot sp (k+1+1))).length:=by have:=zHv hyc;rwa [hNo] at this
          have hye:ya=[ii ((spot sp (k+1+1)).1+(c:Int))]:=by
            rw [List.getElem?_map,yKz (by rw [← zOy];exact hc)] at hyc
            exact (Option.some.inj hyc).symm
          subst hye
          have hyin:=zXy.1 (List.mem_of_getElem? (yKz (r:=spot sp (k+1+1)) (k:=c) (by rw [← zOy];exact hc)))
          have hoc:(offs (spot sp (k+1+1)))[c]=(spot sp (k+1+1)).1+(c:Int):=by
            apply Option.some.inj
            rw [← List.getElem?_eq_getElem hc];exact yKz (by rw [← zOy];exact hc)
          have hTc:=relTo c
          have hnx:((offs (spot sp (k+1+1))).take (c+1)).foldl (relax pf sp (x,n)) Tm=relax pf sp (x,n) (((offs (spot sp (k+1+1))).take c).foldl (relax pf sp (x,n)) Tm) ((spot sp (k+1+1)).1+(c:Int)):=by
            rw [List.take_succ_eq_append_getElem hc,hoc,List.foldl_append];rfl
          rw [hnx]
          generalize ((offs (spot sp (k+1+1))).take c).foldl (relax pf sp (x,n)) Tm=Tc at *
          generalize (spot sp (k+1+1)).1+(c:Int)=y at *
          have hzok:=yWx pok (c:=y) (by rw [pi];exact hi2) (by rw [pi];exact hyin)
          have hxx:=pok
          obtain ⟨⟨i1,i2⟩,i3,i4,_⟩:=hxx
          obtain ⟨⟨a1,a2⟩,⟨a3,a4⟩,_,_⟩:=hsp.at (i:=x.i - 1) (by omega)
          obtain ⟨⟨b1,b2⟩,⟨b3,b4⟩,_,_⟩:=hsp.at i2
          have hpc:=S.le x.a x.b x.s y ⟨by omega,by omega⟩ ⟨by omega,by omega⟩ ⟨by omega,by omega⟩
          have hrun : ∀ l w,w≤h.clock+l.length→callV Tryd.prog (om Tryd.prog KK) byv [stv x,ii y] (X h l w) = .ok (.tup [stv (nxt x y),ii (pf x.a x.b x.s y)]) (X h l w):=fun l w hw=>S.run x y (by omega) ⟨by omega,by omega⟩ ⟨by omega,by omega⟩ ⟨by omega,by omega⟩ _ (wf.X hw)
          have hrl:relax pf sp (x,n) Tc y=Tc.set ((nxt x y).ix sp) (min (Tc.getD ((nxt x y).ix sp) 0) (n+pf x.a x.b x.s y)):=rfl
          rw [hrl]
          have htv:=hTc.bd ((nxt x y).ix sp)
          have hw2b:w2≤h.clock+(L.length+(J.length+4)+4)+J2.length:=by simp only [zQx,zTx,Hl] at hw2';omega
          have hfar:farI=1099511627776:=rfl
          rw [X_X,yEy (by omega)]
          refine yIy wf (k:=L.length+(J.length+4)+2+1) (o:=o2) (by rw [zZv (by omega),List.getElem?_append_left (by omega)];exact Ho2) ho2 (setParams1 rfl) ?_
          (repeat' (first
  | (with_reducible first|refine zJz ?_|refine zGw ?_|refine zEw ?_|refine zEx ?_|refine zEv ?_|refine zJy ?_|refine zGv ?_|refine zBw ?_|refine zDx ?_|refine zBv ?_|refine zCx ?_|refine zEz ?_|refine zCw ?_|refine zCz ?_|refine zBz ?_|refine zDv ?_|refine zDy ?_|refine zAx ?_|refine zAv ?_)
  | refine zCv ?_|refine zEy rfl ?_|refine zIw ?_|refine zIv ?_
  | ((first|refine zGx rfl rfl rfl rfl rfl fun K_ hK_=>?_|refine zGy rfl rfl rfl rfl rfl fun K_ hK_=>?_);simp only [zAz,zDz,zFw,↓reduceIte,reduceCtorEq,Nat.reduceEqDiff,Bool.not_true,Bool.not_false];refine hK_ _ ?_;clear hK_ K_)
  | refine zDw (by decide) ?_
  | ((try first|refine zJx rfl rfl rfl ?_|refine zIy rfl rfl ?_|refine zJv rfl rfl rfl ?_|refine zIx rfl rfl ?_);(refine zIz fun Q_ hQ_=>?_;simp (disch:=first|omega|(simp only [List.length_cons,List.length_nil,List.length_append];omega)) only [bb,bp,zKx,↓reduceIte,reduceCtorEq,Nat.reduceEqDiff,Nat.reduceLT,Nat.reduceLeDiff,Nat.reduceAdd,Nat.reduceMul,Nat.reduceSub,Nat.reduceBEq,Int.reduceToNat,cond_true,cond_false,eq_self,beq_self_eq_true,zHz wf,zHx wf,zFz wf,zHy wf,zBx wf,zFy,tEvbT19,zHw,zKy,zAw wf];first|(refine zCy (Q:=Q_) (fun hp_=>?_) (fun hp_=>?_) <;> first|(exfalso;omega)|(refine hQ_ _ _ ?_;clear hQ_ Q_))|(refine zBy (Q:=Q_) (fun hp_=>?_) (fun hp_=>?_) <;> first|(exfalso;omega)|(refine hQ_ _ _ ?_;clear hQ_ Q_))|(refine hQ_ _ _ ?_;clear hQ_ Q_)))
  | (refine zFv fun K_ hK_=>?_;simp (disch:=omega) only [zFx,zAz,zGz,↓reduceIte,reduceCtorEq,Nat.reduceEqDiff,Nat.reduceLT];refine hK_ _ ?_;clear hK_ K_)))
          refine yPv wf (k:=L.length+(J.length+4)+2+1) (o:=o2) (by rw [zZv (by omega),List.getElem?_append_left (by omega)];exact Ho2) ho2 fun o4 ho4=>?_
          rw [yXy (by omega)]
          obtain ⟨K2,hK2⟩ : ∃ K2,K2=(H2++J2).set (L.length+(J.length+4)+2+1) o4:=⟨_,rfl⟩
          rw [← hK2]
          have Kl:K2.length=L.length+(J.length+4)+4+J2.length:=by rw [hK2,List.length_set,List.length_append];omega
          have KL : ∀ (j:Nat) ob,j≠L.length+(J.length+4)+2+1→H2[j]? = some ob→K2[j]? = some ob:=fun j ob hj hg=>by
            rw [hK2,List.getElem?_set_ne (by omega),List.getElem?_append_left (zHv hg)];exact hg
          have Ko:K2[L.length+(J.length+4)+2+1]? = some o4:=by rw [hK2,List.getElem?_set_self (by rw [List.length_append];omega)]
          have p1:(ET K2 7 Tc)[1]? = some (.cells (zAy [byv]) 87):=by rw [zZv (by omega)];exact KL _ _ (by omega) (HG _ _ (GF _ _ (FL _ _ y1)))
          have px:(ET K2 7 Tc)[L.length+(J.length+4)]? = some (.cells (zAy [.int .i64 (x.i:Int),.int .i64 x.a,.int .i64 x.b,.int .i64 (x.s:Int)]) 60):=by rw [zZv (by omega)];exact KL _ _ (by omega) (HG _ _ Gx)
          have kEl:(ET K2 7 Tc).length=K2.length:=zTx _ _ _
          have pn : ∀ R,(ET K2 7 Tc++R)[L.length+(J.length+4)+1]? = some (.cells (zAy [ii n]) 2):=fun R=>by rw [List.getElem?_append_left (by omega),zZv (by omega)];exact KL _ _ (by omega) (HG _ _ Gn)
          have pp : ∀ R,(ET K2 7 Tc++R)[kp]? = some (.cells (zAy [a,ii turn,.sl (nx h 7) 0 (sp.length - 1) (some (sp.length - 1)) 75]) 56):=fun R=>by
            have:=KL _ _ (by have:=zHv yp;omega) (HG _ _ (GF _ _ (FL _ _ yp)))
            rw [List.getElem?_append_left (by have:=zHv this;omega),zZv (by omega)];exact this
          have hat : ∀ R w,w≤h.clock+(K2.length+R.length)→(om Tryd.prog KK).call (.fn 25 [prv a turn (nx h 7) (sp.length - 1),stv (nxt x y)]) (X h (ET K2 7 Tc++R) w) = .ok (ii (Tc.getD ((nxt x y).ix sp) 0)) (X h (ET K2 7 Tc++R) w):=fun R w hw=>at_ sp hsp a turn (nx h 7) Tc hTc.len (nxt x y) hzok _ (wf.X (by rw [List.length_append,kEl];exact hw)) (hs.up wf _ _) (TabIn.of wf (by rw [List.getElem?_append_left (by omega)];exact xHx (by omega) _))
          generalize hz:nxt x y=z at *
          generalize hpce:pf x.a x.b x.s y=pc at *
          generalize htbe:Tc.getD (z.ix sp) 0=tv at *
          have hsum : ∀ (ob:AO) w,w≤h.clock+(K2.length+2)→(om Tryd.prog KK).call (.fn 30 [.sl (nx h ((ET K2 7 Tc).length+1)) 0 2 (some 2) 1]) (X h (ET K2 7 Tc++[ob,.cells (zAy [ii n,ii pc]) 2]) w) = .ok (ii (n+pc)) (X h (ET K2 7 Tc++[ob,.cells (zAy [ii n,ii pc]) 2]) w):=fun ob w hw=>sum2 wf (by rw [zLw];rfl) (by rw [List.length_append,kEl];simp only [List.length_cons,List.length_nil];omega) (by omega) (by omega)
          unfold stv prv at hat
          unfold stv at hrun
          (repeat' (first
  | (with_reducible first|refine zJz ?_|refine zGw ?_|refine zEw ?_|refine zEx ?_|refine zEv ?_|refine zJy ?_|refine zGv ?_|refine zBw ?_|refine zDx ?_|refine zBv ?_|refine zCx ?_|refine zEz ?_|refine zCw ?_|refine zCz ?_|refine zBz ?_|refine zDv ?_|refine zDy ?_|refine zAx ?_|refine zAv ?_)
  | refine zCv ?_|refine zEy rfl ?_|refine zIw ?_|refine zIv ?_
  | ((first|refine zGx rfl rfl rfl rfl rfl fun K_ hK_=>?_|refine zGy rfl rfl rfl rfl rfl fun K_ hK_=>?_);simp only [zAz,zDz,zFw,↓reduceIte,reduceCtorEq,Nat.reduceEqDiff,Bool.not_true,Bool.not_false];refine hK_ _ ?_;clear hK_ K_)
  | refine zDw (by decide) ?_
  | ((try first|refine zJx rfl rfl rfl ?_|refine zIy rfl rfl ?_|refine zJv rfl rfl rfl ?_|refine zIx rfl rfl ?_);(refine zIz fun Q_ hQ_=>?_;simp (disch:=first|omega|(simp only [List.length_cons,List.length_nil,List.length_append];omega)) only [bb,bp,zKx,↓reduceIte,reduceCtorEq,Nat.reduceEqDiff,Nat.reduceLT,Nat.reduceLeDiff,Nat.reduceAdd,Nat.reduceMul,Nat.reduceSub,Nat.reduceBEq,Int.reduceToNat,cond_true,cond_false,eq_self,beq_self_eq_true,g2,g3,g4,g5,g7,p1,px,pn,pp,hrun,zHz wf,zHx wf,zFz wf,zHy wf,zBx wf,zFy,tEvbT19,zHw,zKy,zAw wf];first|(refine zCy (Q:=Q_) (fun hp_=>?_) (fun hp_=>?_) <;> first|(exfalso;omega)|(refine hQ_ _ _ ?_;clear hQ_ Q_))|(refine zBy (Q:=Q_) (fun hp_=>?_) (fun hp_=>?_) <;> first|(exfalso;omega)|(refine hQ_ _ _ ?_;clear hQ_ Q_))|(refine hQ_ _ _ ?_;clear hQ_ Q_)))
  | (refine zFv fun K_ hK_=>?_;simp (disch:=omega) only [zFx,zAz,zGz,↓reduceIte,reduceCtorEq,Nat.reduceEqDiff,Nat.reduceLT];refine hK_ _ ?_;clear hK_ K_)))
          obtain ⟨c1,c2,hpt⟩:=put_ sp hsp a turn Tc hTc.len z hzok (min tv (n+pc)) h wf hs (ET K2 7 Tc++[.cells (zAy (cellsS z)) 60,.cells (zAy [ii n,ii pc]) 2]) 7 (h.clock+((ET K2 7 Tc).length+2)) (by rw [List.getElem?_append_left (by omega)];exact xHx (by omega) _) (by rw [List.length_append];exact Nat.le_refl _)
          rw [List.set_append_left _ _ (by omega),ET_put,List.append_assoc] at hpt
          unfold prv stv cellsS at hpt
          simp only [List.cons_append,List.nil_append] at hpt
          refine zMw [.no,.no,.no,.no,.no,.no,.no,.no,.no,.no,.full] (by kernel_rfl) ?_
          have hat1:=fun ob w hw=>hat [ob] w hw
          (repeat' (first
  | (with_reducible first|refine zJz ?_|refine zGw ?_|refine zEw ?_|refine zEx ?_|refine zEv ?_|refine zJy ?_|refine zGv ?_|refine zBw ?_|refine zDx ?_|refine zBv ?_|refine zCx ?_|refine zEz ?_|refine zCw ?_|refine zCz ?_|refine zBz ?_|refine zDv ?_|refine zDy ?_|refine zAx ?_|refine zAv ?_)
  | refine zCv ?_|refine zEy rfl ?_|refine zIw ?_|refine zIv ?_
  | ((first|refine zGx rfl rfl rfl rfl rfl fun K_ hK_=>?_|refine zGy rfl rfl rfl rfl rfl fun K_ hK_=>?_);simp only [zAz,zDz,zFw,↓reduceIte,reduceCtorEq,Nat.reduceEqDiff,Bool.not_true,Bool.not_false];refine hK_ _ ?_;clear hK_ K_)
  | refine zDw (by decide) ?_
  | ((try first|refine zJx rfl rfl rfl ?_|refine zIy rfl rfl ?_|refine zJv rfl rfl rfl ?_|refine zIx rfl rfl ?_);(refine zIz fun Q_ hQ_=>?_;simp (disch:=first|omega|(simp only [List.length_cons,List.length_nil,List.length_append];omega)) only [bb,bp,zKx,↓reduceIte,reduceCtorEq,Nat.reduceEqDiff,Nat.reduceLT,Nat.reduceLeDiff,Nat.reduceAdd,Nat.reduceMul,Nat.reduceSub,Nat.reduceBEq,Int.reduceToNat,cond_true,cond_false,eq_self,beq_self_eq_true,g2,g3,g4,g5,g7,px,pn,pp,hat1,hsum,hpt,zHz wf,zHx wf,zFz wf,zHy wf,zBx wf,zFy,tEvbT19,zHw,zKy,zAw wf];first|(refine zCy (Q:=Q_) (fun hp_=>?_) (fun hp_=>?_) <;> first|(exfalso;omega)|(refine hQ_ _ _ ?_;clear hQ_ Q_))|(refine zBy (Q:=Q_) (fun hp_=>?_) (fun hp_=>?_) <;> first|(exfalso;omega)|(refine hQ_ _ _ ?_;clear hQ_ Q_))|(refine hQ_ _ _ ?_;clear hQ_ Q_)))
  | (refine zFv fun K_ hK_=>?_;simp (disch:=omega) only [zFx,zAz,zGz,↓reduceIte,reduceCtorEq,Nat.reduceEqDiff,Nat.reduceLT];refine hK_ _ ?_;clear hK_ K_)))
          refine yEz wf (k:=L.length+(J.length+4)+2+1) (o:=o4) (by rw [List.getElem?_append_left (by rw [zTx];omega),zZv (by omega)];exact Ko) ho4 ?_
          rw [List.set_append_left _ _ (by rw [zTx];omega),yXy (by omega),hK2,List.set_set]
          rw [← ho2,set_same (show (H2++J2)[L.length+(J.length+4)+2+1]? = some o2 by rw [List.getElem?_append_left (by omega)];exact Ho2)]
          have hXe : ∀ T' R w',X h (ET (H2++J2) 7 T'++R) w'=X (X h (ET H2 7 T') h.clock) (J2++R) w':=fun T' R w'=>by
            rw [X_X,← List.append_assoc,yEy (by omega) _ J2]
          rw [hXe]
          rw [zTx] at *
          exact ⟨_,[_,_,c1,c2],_,rfl,Same.X (by rw [zTx,zTx]),by omega,by omega,.inl ⟨rfl,by omega,h.clock,rfl,by omega⟩⟩
        · rintro v h' ⟨hz,J4,w5,rfl,hsz,hlo3,hw3,⟨⟨w6,rfl,hw6⟩,hc3⟩|⟨hF,_⟩⟩
          rotate_left 1
          · exact hF.elim
          rw [hNo,List.take_length]
          rw [hNo] at hc3
          have hc0:=hc3 0 hNp
          simp only [X_w] at hw3
          rw [X_X,yEy (by omega)]
          refine zXx wf (k:=L.length+(J.length+4)+2+1) (o:=o2) (by rw [zZv (by omega),List.getElem?_append_left (by omega)];exact Ho2) ho2 (by decide) fun o5 ho5=>?_
          rw [yXy (by omega)]
          (repeat' (first
  | (with_reducible first|refine zJz ?_|refine zGw ?_|refine zEw ?_|refine zEx ?_|refine zEv ?_|refine zJy ?_|refine zGv ?_|refine zBw ?_|refine zDx ?_|refine zBv ?_|refine zCx ?_|refine zEz ?_|refine zCw ?_|refine zCz ?_|refine zBz ?_|refine zDv ?_|refine zDy ?_|refine zAx ?_|refine zAv ?_)
  | refine zCv ?_|refine zEy rfl ?_|refine zIw ?_|refine zIv ?_
  | ((first|refine zGx rfl rfl rfl rfl rfl fun K_ hK_=>?_|refine zGy rfl rfl rfl rfl rfl fun K_ hK_=>?_);simp only [zAz,zDz,zFw,↓reduceIte,reduceCtorEq,Nat.reduceEqDiff,Bool.not_true,Bool.not_false];refine hK_ _ ?_;clear hK_ K_)
  | refine zDw (by decide) ?_
  | ((try first|refine zJx rfl rfl rfl ?_|refine zIy rfl rfl ?_|refine zJv rfl rfl rfl ?_|refine zIx rfl rfl ?_);(refine zIz fun Q_ hQ_=>?_;simp (disch:=first|omega|(simp only [List.length_cons,List.length_nil,List.length_append];omega)) only [bb,bp,zKx,↓reduceIte,reduceCtorEq,Nat.reduceEqDiff,Nat.reduceLT,Nat.reduceLeDiff,Nat.reduceAdd,Nat.reduceMul,Nat.reduceSub,Nat.reduceBEq,Int.reduceToNat,cond_true,cond_false,eq_self,beq_self_eq_true,zHz wf,zHx wf,zFz wf,zHy wf,zBx wf,zFy,tEvbT19,zHw,zKy,zAw wf];first|(refine zCy (Q:=Q_) (fun hp_=>?_) (fun hp_=>?_) <;> first|(exfalso;omega)|(refine hQ_ _ _ ?_;clear hQ_ Q_))|(refine zBy (Q:=Q_) (fun hp_=>?_) (fun hp_=>?_) <;> first|(exfalso;omega)|(refine hQ_ _ _ ?_;clear hQ_ Q_))|(refine hQ_ _ _ ?_;clear hQ_ Q_)))
  | (refine zFv fun K_ hK_=>?_;simp (disch:=omega) only [zFx,zAz,zGz,↓reduceIte,reduceCtorEq,Nat.reduceEqDiff,Nat.reduceLT];refine hK_ _ ?_;clear hK_ K_)))
          refine yEz wf (k:=L.length+2+1) (o:=o') (by rw [zZv (by omega),List.getElem?_set_ne (by omega),List.getElem?_append_left (by omega)];exact HG _ _ Go) ho' ?_
          rw [yXy (by omega),← ho]
          have hlist:((H2++J4).set (L.length+(J.length+4)+2+1) o5).set (L.length+2+1) o=(E++J)++([AO.cells (zAy [.int .i64 (x.i:Int),.int .i64 x.a,.int .i64 x.b,.int .i64 (x.s:Int)]) 60,.cells (zAy [ii n]) 2,.cells (zAy [ii (spot sp (k+1+1)).1,ii (spot sp (k+1+1)).2]) 35,o5]++J4):=by
            have e1:H2++J4=F++([AO.cells (zAy [.int .i64 (x.i:Int),.int .i64 x.a,.int .i64 x.b,.int .i64 (x.s:Int)]) 60,.cells (zAy [ii n]) 2,.cells (zAy [ii (spot sp (k+1+1)).1,ii (spot sp (k+1+1)).2]) 35,o2]++J4):=by
              rw [hH2,hG];simp only [List.append_assoc,List.cons_append,List.nil_append]
            rw [e1,show L.length+(J.length+4)+2+1=F.length+3 by omega,zOv,List.set_append_left _ _ (by omega),hF,List.set_set,set_same (show (E++J)[L.length+2+1]? = some o by rw [List.getElem?_append_left (by omega)];exact Eo)]
            rfl
          rw [hlist]
          have hXe : ∀ T' R w',X h (ET ((E++J)++R) 7 T') w'=X (X h (ET E 7 T') h.clock) (J++R) w':=fun T' R w'=>by
            rw [X_X,yEy (by omega),List.append_assoc]
          rw [hXe]
          exact ⟨_,_,_,rfl,Same.X (by rw [zTx,zTx]),by omega,by omega,.inl ⟨rfl,by omega,h.clock,rfl,by omega⟩⟩
      · intro J w'
        rw [X_X,yEy (by omega),zFz wf,xHx (by rw [List.length_append];omega),zOx (by decide),if_pos (by
          rw [List.length_map,PDk.wt.len]
          have:=Nat.mul_le_mul_right 75 (show k+1 - 1+1≤sp.length - 1 by omega)
          omega)]
        unfold rowT
        rw [List.map_take,List.map_drop]
      · rintro v h' ⟨hz,J3,w3,rfl,hsz,hlo3,hw3,⟨⟨w2,rfl,hw2'⟩,hc3⟩|⟨hF,_⟩⟩
        rotate_left 1
        · exact hF.elim
        have hyl:(ylds (reachL sp (k+1) Tk)).length=(reachL sp (k+1) Tk).length:=by unfold ylds;rw [List.length_map]
        rw [hyl,List.take_length,← hlev]
        rw [hyl] at hc3
        have hc0:=hc3 0 hne
        rw [X_X,yEy (by omega)]
        refine zXx wf (k:=L.length+2+1) (o:=o) (by rw [zZv (by omega),List.getElem?_append_left (by omega)];exact Eo) ho (by decide) fun o6 ho6=>?_
        rw [yXy (by omega)]
        obtain ⟨L2,hL2⟩ : ∃ L2,L2=(E++J3).set (L.length+2+1) o6:=⟨_,rfl⟩
        rw [← hL2]
        have l2:L2.length=L.length+4+J3.length:=by rw [hL2,List.length_set,List.length_append,El]
        have keep : ∀ (j:Nat) ob,j≠L.length+2+1→E[j]? = some ob→L2[j]? = some ob:=fun j ob hj hg=>by rw [hL2,List.getElem?_set_ne (by omega),List.getElem?_append_left (zHv hg)];exact hg
        have keepL : ∀ (j:Nat) ob,L[j]? = some ob→L2[j]? = some ob:=fun j ob hg=>keep j ob (by have:=zHv hg;omega) (EL j ob hg)
        have yi':(ET L2 7 (paidU pf sp (k+1)))[ki]? = some (.cells (zAy [ii ((k+1:Nat):Int)]) 3):=by rw [zZv (by omega)];exact keepL _ _ yi
        have hel:(ET L2 7 (paidU pf sp (k+1))).length=L2.length:=zTx _ _ _
        clear hL2
        have hwq:w3≤h.clock+7:=by omega
        (repeat' (first
  | (with_reducible first|refine zJz ?_|refine zGw ?_|refine zEw ?_|refine zEx ?_|refine zEv ?_|refine zJy ?_|refine zGv ?_|refine zBw ?_|refine zDx ?_|refine zBv ?_|refine zCx ?_|refine zEz ?_|refine zCw ?_|refine zCz ?_|refine zBz ?_|refine zDv ?_|refine zDy ?_|refine zAx ?_|refine zAv ?_)
  | refine zCv ?_|refine zEy rfl ?_|refine zIw ?_|refine zIv ?_
  | ((first|refine zGx rfl rfl rfl rfl rfl fun K_ hK_=>?_|refine zGy rfl rfl rfl rfl rfl fun K_ hK_=>?_);simp only [zAz,zDz,zFw,↓reduceIte,reduceCtorEq,Nat.reduceEqDiff,Bool.not_true,Bool.not_false];refine hK_ _ ?_;clear hK_ K_)
  | refine zDw (by decide) ?_
  | ((try first|refine zJx rfl rfl rfl ?_|refine zIy rfl rfl ?_|refine zJv rfl rfl rfl ?_|refine zIx rfl rfl ?_);(refine zIz fun Q_ hQ_=>?_;simp (disch:=first|omega|(simp only [List.length_cons,List.length_nil,List.length_append];omega)) only [bb,bp,zKx,↓reduceIte,reduceCtorEq,Nat.reduceEqDiff,Nat.reduceLT,Nat.reduceLeDiff,Nat.reduceAdd,Nat.reduceMul,Nat.reduceSub,Nat.reduceBEq,Int.reduceToNat,cond_true,cond_false,eq_self,beq_self_eq_true,g2,g3,g4,g5,g7,yi',zHz wf,zHx wf,zFz wf,zHy wf,zBx wf,zFy,tEvbT19,zHw,zKy,zAw wf];first|(refine zCy (Q:=Q_) (fun hp_=>?_) (fun hp_=>?_) <;> first|(exfalso;omega)|(refine hQ_ _ _ ?_;clear hQ_ Q_))|(refine zBy (Q:=Q_) (fun hp_=>?_) (fun hp_=>?_) <;> first|(exfalso;omega)|(refine hQ_ _ _ ?_;clear hQ_ Q_))|(refine hQ_ _ _ ?_;clear hQ_ Q_)))
  | (refine zFv fun K_ hK_=>?_;simp (disch:=omega) only [zFx,zAz,zGz,↓reduceIte,reduceCtorEq,Nat.reduceEqDiff,Nat.reduceLT];refine hK_ _ ?_;clear hK_ K_)))
        rw [yEy (by omega)]
        refine zKw (k+1) (by omega) ⟨by omega,⟨by simp only [zAz,↓reduceIte,reduceCtorEq,Nat.reduceEqDiff];exact g2,by simp only [zAz,↓reduceIte,reduceCtorEq,Nat.reduceEqDiff];exact g3,by simp only [zAz,↓reduceIte,reduceCtorEq,Nat.reduceEqDiff];exact g4,by simp only [zAz,↓reduceIte,reduceCtorEq,Nat.reduceEqDiff];exact g5⟩,L2++[.cells (zAy [ii (((k+1:Nat):Int)+1)]) 3],_,L2.length,(L.length+2) :: ks,by simp only [zAz,↓reduceIte,reduceCtorEq,Nat.reduceEqDiff];rw [hel],rfl,rfl,⟨?_,?_,?_,?_⟩,by rw [zNx];rfl,by omega,?_,?_,by rw [hel];omega,by rw [hel];simp only [List.length_append,List.length_cons,List.length_nil];omega⟩
        · rw [List.getElem?_append_left (by omega)];exact keepL _ _ y0
        · rw [List.getElem?_append_left (by omega)];exact keepL _ _ y1
        · rw [List.getElem?_append_left (by omega)];exact keepL _ _ y2
        · rw [List.getElem?_append_left (by have:=zHv yp;omega)];exact keepL _ _ yp
        · rw [List.nodup_cons]
          exact ⟨fun hm=>by have:=zHv (hkd _ hm).1;omega,hks⟩
        · intro j hj
          rcases List.mem_cons.1 hj with rfl|hj
          · exact ⟨by rw [List.getElem?_append_left (by omega)];exact keep _ _ (by omega) Ed,by omega⟩
          · have:=hkd j hj
            exact ⟨by rw [List.getElem?_append_left (by have:=zHv this.1;omega)];exact keepL _ _ this.1,this.2⟩
    · have hke:k=sp.length - 2:=by omega
      have hTp:Tk=paidT pf sp:=by rw [← hTk,hke];rfl
      have hstw : ∀ w,writeCells (nx h 2) 0 [a,ii turn,.sl (nx h 7) 0 (sp.length - 1) (some (sp.length - 1)) 75] (X h (ET L 7 Tk) w)=some (X h (ET (L.set 2 (.cells (zAy [a,ii turn,.sl (nx h 7) 0 (sp.length - 1) (some (sp.length - 1)) 75]) 56)) 7 Tk) (min (h.clock+2) w)):=fun w=>by
        rw [zBx wf,zZv (by omega),y2,zUz]
        simp only [zYv,yVz,ha1.1,xNw,oneB_sl]
        rw [← yXy (by omega)]
        rfl
      (repeat' (first
  | (with_reducible first|refine zJz ?_|refine zGw ?_|refine zEw ?_|refine zEx ?_|refine zEv ?_|refine zJy ?_|refine zGv ?_|refine zBw ?_|refine zDx ?_|refine zBv ?_|refine zCx ?_|refine zEz ?_|refine zCw ?_|refine zCz ?_|refine zBz ?_|refine zDv ?_|refine zDy ?_|refine zAx ?_|refine zAv ?_)
  | refine zCv ?_|refine zEy rfl ?_|refine zIw ?_|refine zIv ?_
  | ((first|refine zGx rfl rfl rfl rfl rfl fun K_ hK_=>?_|refine zGy rfl rfl rfl rfl rfl fun K_ hK_=>?_);simp only [zAz,zDz,zFw,↓reduceIte,reduceCtorEq,Nat.reduceEqDiff,Bool.not_true,Bool.not_false];refine hK_ _ ?_;clear hK_ K_)
  | refine zDw (by decide) ?_
  | ((try first|refine zJx rfl rfl rfl ?_|refine zIy rfl rfl ?_|refine zJv rfl rfl rfl ?_|refine zIx rfl rfl ?_);(refine zIz fun Q_ hQ_=>?_;simp (disch:=first|omega|(simp only [List.length_cons,List.length_nil,List.length_append];omega)) only [bb,bp,zKx,↓reduceIte,reduceCtorEq,Nat.reduceEqDiff,Nat.reduceLT,Nat.reduceLeDiff,Nat.reduceAdd,Nat.reduceMul,Nat.reduceSub,Nat.reduceBEq,Int.reduceToNat,cond_true,cond_false,eq_self,beq_self_eq_true,g2,g3,g4,g5,g7,tEvbT19,zHw,zKy,zAw wf];first|(refine zCy (Q:=Q_) (fun hp_=>?_) (fun hp_=>?_) <;> first|(exfalso;omega)|(refine hQ_ _ _ ?_;clear hQ_ Q_))|(refine zBy (Q:=Q_) (fun hp_=>?_) (fun hp_=>?_) <;> first|(exfalso;omega)|(refine hQ_ _ _ ?_;clear hQ_ Q_))|(refine hQ_ _ _ ?_;clear hQ_ Q_)))
  | (refine zFv fun K_ hK_=>?_;simp (disch:=omega) only [zFx,zAz,zGz,↓reduceIte,reduceCtorEq,Nat.reduceEqDiff,Nat.reduceLT];refine hK_ _ ?_;clear hK_ K_)))
      refine zMw [.no,.no,.no,.full] (by kernel_rfl) ?_
      (repeat' (first
  | (with_reducible first|refine zJz ?_|refine zGw ?_|refine zEw ?_|refine zEx ?_|refine zEv ?_|refine zJy ?_|refine zGv ?_|refine zBw ?_|refine zDx ?_|refine zBv ?_|refine zCx ?_|refine zEz ?_|refine zCw ?_|refine zCz ?_|refine zBz ?_|refine zDv ?_|refine zDy ?_|refine zAx ?_|refine zAv ?_)
  | refine zCv ?_|refine zEy rfl ?_|refine zIw ?_|refine zIv ?_
  | ((first|refine zGx rfl rfl rfl rfl rfl fun K_ hK_=>?_|refine zGy rfl rfl rfl rfl rfl fun K_ hK_=>?_);simp only [zAz,zDz,zFw,↓reduceIte,reduceCtorEq,Nat.reduceEqDiff,Bool.not_true,Bool.not_false];refine hK_ _ ?_;clear hK_ K_)
  | refine zDw (by decide) ?_
  | ((try first|refine zJx rfl rfl rfl ?_|refine zIy rfl rfl ?_|refine zJv rfl rfl rfl ?_|refine zIx rfl rfl ?_);(refine zIz fun Q_ hQ_=>?_;simp (disch:=first|omega|(simp only [List.length_cons,List.length_nil,List.length_append];omega)) only [bb,bp,zKx,↓reduceIte,reduceCtorEq,Nat.reduceEqDiff,Nat.reduceLT,Nat.reduceLeDiff,Nat.reduceAdd,Nat.reduceMul,Nat.reduceSub,Nat.reduceBEq,Int.reduceToNat,cond_true,cond_false,eq_self,beq_self_eq_true,g2,g3,g4,g5,g7,E0',Ep,Ei,hla',hEl,hstw,ha1.1,ha1.2,zHz wf,zHx wf,zFz wf,tEvbT19,zHw,zKy,zAw wf];first|(refine zCy (Q:=Q_) (fun hp_=>?_) (fun hp_=>?_) <;> first|(exfalso;omega)|(refine hQ_ _ _ ?_;clear hQ_ Q_))|(refine zBy (Q:=Q_) (fun hp_=>?_) (fun hp_=>?_) <;> first|(exfalso;omega)|(refine hQ_ _ _ ?_;clear hQ_ Q_))|(refine hQ_ _ _ ?_;clear hQ_ Q_)))
  | (refine zFv fun K_ hK_=>?_;simp (disch:=omega) only [zFx,zAz,zGz,↓reduceIte,reduceCtorEq,Nat.reduceEqDiff,Nat.reduceLT];refine hK_ _ ?_;clear hK_ K_)))
      have l2:(L.set 2 (.cells (zAy [a,ii turn,.sl (nx h 7) 0 (sp.length - 1) (some (sp.length - 1)) 75]) 56)).length=L.length:=List.length_set
      obtain ⟨L',w',htk,hl',hw1',hw2',hkeep⟩:=yAz wf (lo:=h.clock) (Nat.le_refl _) ks (ET (L.set 2 (.cells (zAy [a,ii turn,.sl (nx h 7) 0 (sp.length - 1) (some (sp.length - 1)) 75]) 56)) 7 Tk) (min (h.clock+2) w) hks (fun j hj=>by
        obtain ⟨h1,h2⟩:=hkd j hj
        rw [zZv (by omega),List.getElem?_set_ne (fun e=>by subst e;rw [y2] at h1;cases h1)];exact h1) (by omega)
      have hr2:L'[2]? = some (.cells (zAy [a,ii turn,.sl (nx h 7) 0 (sp.length - 1) (some (sp.length - 1)) 75]) 56):=hkeep 56 2 _ (by rw [zZv (by omega),List.getElem?_set_self (by omega)])
      have hr7:L'[7]? = some (.cells (zAy ((paidT pf sp).map ii)) 98):=hkeep 98 7 _ (by rw [← hTp];exact xHx (by omega) _)
      have hld2 : ∀ w,loadAgg (nx h 2) 0 (some 3) (X h L' w)=some (.agg [a,ii turn,.sl (nx h 7) 0 (sp.length - 1) (some (sp.length - 1)) 75]):=fun w=>by
        rw [zFz wf,hr2]
        rw [zOx (by decide)];rfl
      refine zJw _ _ htk (retc0 (by decide) (by simp (disch:=first|omega|(simp only [List.length_cons,List.length_nil,List.length_append];omega)) only [bb,bp,zKx,↓reduceIte,reduceCtorEq,Nat.reduceEqDiff,Nat.reduceLT,Nat.reduceLeDiff,Nat.reduceAdd,Nat.reduceMul,Nat.reduceSub,Nat.reduceBEq,Int.reduceToNat,cond_true,cond_false,eq_self,beq_self_eq_true,g4,hld2,tEvbT19,zHw,zKy,zAw wf];rfl)) ?_
      refine yCy (by
        show (_ && flat (prv a turn _ _))=false
        rw [flat_prv hs];exact Bool.and_false _) ?_
      have hmin : ∀ w',h.clock≤w'→min h.w w'=h.w:=fun w' h'=>by have:=wf.wle;omega
      rw [hmin _ hw2']
      exact ⟨_,7,rfl,rfl,hr7⟩
end Go.Proofs.YtkmdidplmfdikabDoor
end

section
namespace Go.Ev
def byI (bs:List Int) (r:Int × Int) (k:Nat):Int:=r.1+(if bs.length=0 then 0 else bs.getD (k % bs.length) 0 % (r.2 - r.1+1))
def lineB (sp:List (Int × Int)) (bs:List Int) (n:Nat):List Int:=(List.range n).map fun k=>byI bs (spot sp k) k
theorem yRx (sp:List (Int × Int)) (bs:List Int) (n:Nat):(lineB sp bs n).length=n:=by unfold lineB;simp
theorem lineB_snoc (sp:List (Int × Int)) (bs:List Int) (n:Nat):lineB sp bs (n+1)=lineB sp bs n++[byI bs (spot sp n) n]:=by unfold lineB;rw [List.range_succ,List.map_append];rfl
theorem byI_in (bs:List Int) {r:Int × Int} (h:r.1≤r.2) (k:Nat):r.1≤byI bs r k∧byI bs r k≤r.2:=by
  unfold byI
  split
  · omega
  · have h1:=Int.emod_nonneg (bs.getD (k % bs.length) 0) (show r.2 - r.1+1≠0 by omega)
    have h2:=Int.emod_lt_of_pos (bs.getD (k % bs.length) 0) (show 0<r.2 - r.1+1 by omega)
    omega
theorem InR.of_get : ∀ {R:List (Int × Int)} {l:List Int},l.length=R.length→(∀ i (hi:i<R.length) (hl:i<l.length),R[i].1≤l[i]∧l[i]≤R[i].2)→InR R l
  | [],[],_,_=>rfl
  | r :: R,c :: cs,e,h=>⟨c,cs,rfl,(h 0 (by simp) (by simp)).1,(h 0 (by simp) (by simp)).2,InR.of_get (by simpa using e) fun i hi hl=>by
      have:=h (i+1) (by simp;omega) (by simp;omega)
      simpa using this⟩
theorem lineB_in {sp:List (Int × Int)} (bs:List Int) (hok : ∀ r ∈ sp,r.1≤r.2):InR sp (lineB sp bs sp.length):=by
  refine InR.of_get (yRx _ _ _) fun i hi hl=>?_
  have e:(lineB sp bs sp.length)[i]=byI bs (spot sp i) i:=by
    apply Option.some.inj
    rw [← List.getElem?_eq_getElem hl]
    unfold lineB
    rw [List.getElem?_map,List.getElem?_range hi];rfl
  rw [e,zPz hi]
  exact byI_in bs (hok _ (by rw [← zPz hi];exact List.getElem_mem hi)) i
end Go.Ev
end

section
namespace Go.Proofs.YtkmdidplmfdikabDoor
open Go.Ev
set_option maxRecDepth 100000
set_option linter.unusedSimpArgs false
set_option linter.unusedVariables false

def runS :Stt→List Int→Stt
  | x,[]=>x
  | x,c :: cs=>runS (nxt x c) cs
theorem runS_app : ∀ (p q:List Int) (x:Stt),runS x (p++q)=runS (runS x p) q
  | [],_,_=>rfl
  | c :: p,q,x=>runS_app p q (nxt x c)
theorem xXw {pf:Int→Int→Int→Int→Int} (x:Stt) (c:Int) (cs:List Int):costL pf x.a x.b x.s (c :: cs)=pf x.a x.b x.s c+costL pf (nxt x c).a (nxt x c).b (nxt x c).s cs:=by
  show pf x.a x.b x.s c+costL pf x.b c (nsg x.s (x.a - 2 * x.b+c)) cs=pf x.a x.b x.s c+costL pf x.b c ((nxt x c).s:Int) cs
  rw [nxt_s];rfl
theorem xCw {pf:Int→Int→Int→Int→Int} : ∀ (p q:List Int) (x:Stt),costL pf x.a x.b x.s (p++q)=costL pf x.a x.b x.s p+costL pf (runS x p).a (runS x p).b (runS x p).s q
  | [],q,x=>by show _=(0:Int)+costL pf x.a x.b x.s q;rw [Int.zero_add];rfl
  | c :: p,q,x=>by
    have ih:=xCw (pf:=pf) p q (nxt x c)
    rw [List.cons_append,xXw,xXw,ih]
    show _=_+costL pf (runS (nxt x c) p).a (runS (nxt x c) p).b (runS (nxt x c) p).s q
    omega
theorem runS_i : ∀ (p:List Int) (x:Stt),(runS x p).i=x.i+p.length
  | [],x=>rfl
  | c :: p,x=>by
    have:=runS_i p (nxt x c)
    show (runS (nxt x c) p).i=_
    rw [this,List.length_cons]
    show x.i+1+p.length=_
    omega
def InFrom (sp:List (Int × Int)) (i:Nat) (cs:List Int):Prop:=i+cs.length<sp.length ∧ ∀ (j:Nat) (c:Int),cs[j]? = some c→(spot sp (i+1+j)).1≤c∧c≤(spot sp (i+1+j)).2
theorem InFrom.cons {sp:List (Int × Int)} {i:Nat} {c:Int} {cs:List Int} (x:InFrom sp i (c :: cs)):(i+1<sp.length∧(spot sp (i+1)).1≤c∧c≤(spot sp (i+1)).2)∧InFrom sp (i+1) cs:=by
  obtain ⟨h1,h2⟩:=x
  rw [List.length_cons] at h1
  refine ⟨⟨by omega,by have:=h2 0 c rfl;rwa [Nat.add_zero] at this⟩,by omega,fun j d hd=>?_⟩
  have:=h2 (j+1) d (by simpa using hd)
  rwa [show i+1+(j+1)=i+1+1+j by omega] at this
theorem runS_ok {sp:List (Int × Int)} : ∀ {cs:List Int} {x:Stt},x.Ok sp→InFrom sp x.i cs→(runS x cs).Ok sp
  | [],_,hx,_=>hx
  | c :: cs,x,hx,h=>by
    obtain ⟨⟨h1,h2⟩,h3⟩:=h.cons
    exact runS_ok (x:=nxt x c) (yWx hx h1 h2) h3
section
variable {pf:Int→Int→Int→Int→Int} {sp:List (Int × Int)} (hsp:SpotsOK sp) (hpf : ∀ (a b s c:Int),Off a→Off b→Off c→0≤pf a b s c∧pf a b s c≤5000000)
include hsp hpf
theorem pf_in {x:Stt} (hx:x.Ok sp) {c:Int} (h1:x.i+1<sp.length) (h2:(spot sp (x.i+1)).1≤c∧c≤(spot sp (x.i+1)).2):0≤pf x.a x.b x.s c∧pf x.a x.b x.s c≤5000000:=by
  obtain ⟨⟨i1,i2⟩,i3,i4,_⟩:=hx
  obtain ⟨⟨a1,a2⟩,⟨a3,a4⟩,_,_⟩:=hsp.at (i:=x.i - 1) (by omega)
  obtain ⟨⟨b1,b2⟩,⟨b3,b4⟩,_,_⟩:=hsp.at i2
  obtain ⟨⟨c1,c2⟩,⟨c3,c4⟩,_,_⟩:=hsp.at h1
  exact hpf _ _ _ _ ⟨by omega,by omega⟩ ⟨by omega,by omega⟩ ⟨by omega,by omega⟩
theorem paid_le {Tb:List Int} (P:PD pf sp (sp.length - 1) Tb) : ∀ {cs:List Int} {x:Stt},x.Ok sp→InFrom sp x.i cs→tb sp Tb x<farI→tb sp Tb (runS x cs)<farI∧tb sp Tb (runS x cs)≤tb sp Tb x+costL pf x.a x.b x.s cs
  | [],x,_,_,hf=>⟨hf,by show _≤tb sp Tb x+(0:Int);rw [Int.add_zero];exact Int.le_refl _⟩
  | c :: cs,x,hx,h,hf=>by
    have n24:=hsp.n24
    obtain ⟨⟨h1,h2⟩,h3⟩:=h.cons
    have hn:=yWx hx h1 h2
    have hle:=P.le x c hx (by omega) hf h2.1 h2.2
    have hsm:=P.sm x hx hf
    have hb:=pf_in hsp hpf hx h1 h2
    have hlt:tb sp Tb (nxt x c)<farI:=by
      unfold farI at *
      have:(x.i:Int)≤24:=by omega
      omega
    obtain ⟨r1,r2⟩:=paid_le P (cs:=cs) hn h3 hlt
    refine ⟨r1,?_⟩
    rw [xXw]
    show tb sp Tb (runS (nxt x c) cs)≤_
    omega
theorem paid_ex {Tb:List Int} (P:PD pf sp (sp.length - 1) Tb) : ∀ (m:Nat) (x:Stt),x.i≤m→x.Ok sp→tb sp Tb x<farI → ∃ (a b:Int) (cs:List Int),(⟨1,a,b,0⟩:Stt).Ok sp∧InFrom sp 1 cs∧runS ⟨1,a,b,0⟩ cs=x∧costL pf a b 0 cs=tb sp Tb x
  | 0,x,hm,hx,_=>by have:=hx.1.1;omega
  | m+1,x,hm,hx,hf=>by
    by_cases h1:x.i=1
    · have h2:=P.one x hx h1
      by_cases hs:x.s=0
      · rw [if_pos hs] at h2
        obtain ⟨i,a,b,s⟩:=x
        dsimp only at h1 hs
        subst h1
        subst hs
        exact ⟨a,b,[],hx,⟨by have:=hx.1.2;simpa using this,fun j c hc=>by simp at hc⟩,rfl,by rw [h2];rfl⟩
      · rw [if_neg hs] at h2;omega
    · have hi:=hx.1.1
      rcases P.ex x hx (by omega) with h2|⟨y,y1,y2,y3,y4,y5⟩
      · omega
      · obtain ⟨a,b,cs,k1,k2,k3,k4⟩:=paid_ex P m y (by omega) y1 y4
        have hyi:1+cs.length=y.i:=by rw [← k3,runS_i]
        refine ⟨a,b,cs++[x.b],k1,⟨?_,fun j c hc=>?_⟩,?_,?_⟩
        · rw [List.length_append]
          have:=hx.1.2
          show 1+(cs.length+1)<sp.length
          omega
        · by_cases hj:j<cs.length
          · rw [List.getElem?_append_left hj] at hc
            exact k2.2 j c hc
          · have hjl:=zHv hc
            rw [List.length_append,List.length_cons,List.length_nil] at hjl
            have hje:j=cs.length:=by omega
            subst hje
            rw [zNx] at hc
            cases hc
            rw [show 1+1+cs.length=x.i by omega]
            exact hx.2.2.1
        · rw [runS_app,k3];exact y3
        · have:=xCw (pf:=pf) cs [x.b] ⟨1,a,b,0⟩
          rw [k3] at this
          show costL pf a b 0 (cs++[x.b])=_
          have e:costL pf a b 0 (cs++[x.b])=costL pf a b 0 cs+(pf y.a y.b y.s x.b+0):=this
          rw [e,k4,y5];omega
end

theorem xHz {sp:List (Int × Int)} {l:List Int} (h:InR sp l) {i:Nat} {c:Int} (hc:l[i]? = some c):(spot sp i).1≤c∧c≤(spot sp i).2:=by
  have hi:i<sp.length:=by rw [← h.length];exact zHv hc
  have key : ∀ {R:List (Int × Int)} {l:List Int},InR R l → ∀ (i:Nat) (p:Int × Int) (c:Int),R[i]? = some p→l[i]? = some c→p.1≤c∧c≤p.2:=by
    intro R
    induction R with
    | nil=>intro l h i p c h1 _;simp at h1
    | cons r R ih=>
      rintro l ⟨d,ds,rfl,h1,h2,h3⟩ i p c e1 e2
      cases i with
      | zero=>
        simp only [List.getElem?_cons_zero,Option.some.injEq] at e1 e2
        subst e1;subst e2;exact ⟨h1,h2⟩
      | succ i=>exact ih h3 i p c (by simpa using e1) (by simpa using e2)
  exact key h i _ c (by rw [List.getElem?_eq_getElem hi,zPz hi]) hc
theorem inR_of {sp:List (Int × Int)} {l:List Int} (hl:l.length=sp.length) (h : ∀ (i:Nat) (c:Int),l[i]? = some c→(spot sp i).1≤c∧c≤(spot sp i).2):InR sp l:=by
  refine InR.of_get hl fun i hi hj=>?_
  rw [zPz hi]
  exact h i _ (List.getElem?_eq_getElem hj)
theorem spot_drop {sp:List (Int × Int)} {m j:Nat} : spot (sp.drop m) j=spot sp (m+j):=by unfold spot;simp [List.getD]
theorem inR_drop {sp:List (Int × Int)} {m:Nat} {q:List Int} (hl:m+q.length=sp.length) (h : ∀ (j:Nat) (c:Int),q[j]? = some c→(spot sp (m+j)).1≤c∧c≤(spot sp (m+j)).2):InR (sp.drop m) q:=by
  refine inR_of (by rw [List.length_drop];omega) fun j c hc=>?_
  rw [spot_drop];exact h j c hc
theorem runS_ab : ∀ (pre:List Int) (a b:Int) (i s:Nat),(a :: b :: pre)[pre.length]? = some (runS ⟨i,a,b,s⟩ pre).a∧(a :: b :: pre)[pre.length+1]? = some (runS ⟨i,a,b,s⟩ pre).b
  | [],a,b,i,s=>⟨rfl,rfl⟩
  | c :: pre,a,b,i,s=>by
    obtain ⟨h1,h2⟩:=runS_ab pre b c (i+1) (nxt ⟨i,a,b,s⟩ c).s
    exact ⟨h1,h2⟩
theorem spots_of {sp:List (Int × Int)} (hsp:SpotsOK sp) (m:Nat):Spots (sp.drop m):=fun r hr=>(hsp.ok r (List.mem_of_mem_drop hr)).2.2.1
theorem through_le {pf:Int→Int→Int→Int→Int} {sp:List (Int × Int)} (hsp:SpotsOK sp) (hpf : ∀ (a b s c:Int),Off a→Off b→Off c→0≤pf a b s c∧pf a b s c≤5000000) {Tb:List Int} (P:PD pf sp (sp.length - 1) Tb) {l:List Int} (hl:InR sp l) {i:Nat} (hi:1≤i∧i<sp.length) :
    ∃ x:Stt,x.Ok sp∧x.i=i∧l[i - 1]? = some x.a∧l[i]? = some x.b∧tb sp Tb x<farI∧tb sp Tb x+dueS pf sp x≤Cost pf l:=by
  have n2:=hsp.n2
  have hlen:=hl.length
  match l,hlen,hl with
  | [],hlen,_=>simp at hlen;omega
  | [_],hlen,_=>simp at hlen;omega
  | a :: b :: cs,hlen,hl=>
    have hcl:cs.length+2=sp.length:=by simpa using hlen
    have ha:=xHz hl (i:=0) (c:=a) rfl
    have hb:=xHz hl (i:=1) (c:=b) rfl
    have h0:(⟨1,a,b,0⟩:Stt).Ok sp:=⟨⟨Nat.le_refl 1,by show 1<sp.length;omega⟩,ha,hb,(show 0<3 by decide)⟩
    have hsplit:cs=cs.take (i - 1)++cs.drop (i - 1):=(List.take_append_drop _ _).symm
    have hpl:(cs.take (i - 1)).length=i - 1:=by rw [List.length_take];omega
    generalize hp:cs.take (i - 1)=pre at *
    generalize hq:cs.drop (i - 1)=post at *
    have hpost:post.length=sp.length - 1 - i:=by rw [← hq,List.length_drop];omega
    have hget : ∀ (j:Nat) (c:Int),cs[j]? = some c→(spot sp (j+2)).1≤c∧c≤(spot sp (j+2)).2:=fun j c hc=>xHz hl (i:=j+2) (c:=c) (by simpa using hc)
    have hin:InFrom sp 1 pre:=⟨by omega,fun j c hc=>by
      have:=hget j c (by rw [hsplit,List.getElem?_append_left (zHv hc)];exact hc)
      rwa [show 1+1+j=j+2 by omega]⟩
    have hok:=runS_ok h0 hin
    have hone:=P.one _ h0 rfl
    rw [if_pos rfl] at hone
    obtain ⟨r1,r2⟩:=paid_le hsp hpf P h0 hin (by rw [hone];unfold farI;omega)
    have hri:(runS ⟨1,a,b,0⟩ pre).i=i:=by rw [runS_i];show 1+pre.length=i;omega
    obtain ⟨g1,g2⟩:=runS_ab pre a b 1 0
    have hdue:dueS pf sp (runS ⟨1,a,b,0⟩ pre)≤costL pf (runS ⟨1,a,b,0⟩ pre).a (runS ⟨1,a,b,0⟩ pre).b (runS ⟨1,a,b,0⟩ pre).s post:=by
      refine due_le (turn:=pf) _ _ _ (spots_of hsp _) (inR_drop (by rw [hri];omega) fun j c hc=>?_)
      have:=hget (i - 1+j) c (by rw [hsplit,List.getElem?_append_right (by omega),hpl,Nat.add_sub_cancel_left];exact hc)
      rw [hri]
      rwa [show i+1+j=i - 1+j+2 by omega]
    refine ⟨_,hok,hri,?_,?_,r1,?_⟩
    · rw [hsplit,← List.cons_append,← List.cons_append,List.getElem?_append_left (by simp only [List.length_cons];omega),show i - 1=pre.length by omega];exact g1
    · rw [hsplit,← List.cons_append,← List.cons_append,List.getElem?_append_left (by simp only [List.length_cons];omega),show i=pre.length+1 by omega];exact g2
    · have hc:=xCw (pf:=pf) pre post ⟨1,a,b,0⟩
      rw [← hsplit] at hc
      have hc':Cost pf (a :: b :: cs)=costL pf a b 0 pre+costL pf (runS ⟨1,a,b,0⟩ pre).a (runS ⟨1,a,b,0⟩ pre).b (runS ⟨1,a,b,0⟩ pre).s post:=hc
      rw [hone] at r2
      have r2':tb sp Tb (runS ⟨1,a,b,0⟩ pre)≤0+costL pf a b 0 pre:=r2
      omega
theorem through_ex {pf:Int→Int→Int→Int→Int} {sp:List (Int × Int)} (hsp:SpotsOK sp) (hpf : ∀ (a b s c:Int),Off a→Off b→Off c→0≤pf a b s c∧pf a b s c≤5000000) {Tb:List Int} (P:PD pf sp (sp.length - 1) Tb) {x:Stt} (hx:x.Ok sp) (hf:tb sp Tb x<farI) :
    ∃ l,InR sp l∧l[x.i - 1]? = some x.a∧l[x.i]? = some x.b∧Cost pf l=tb sp Tb x+dueS pf sp x:=by
  obtain ⟨a,b,pre,k1,k2,k3,k4⟩:=paid_ex hsp hpf P x.i x (Nat.le_refl _) hx hf
  have hg:=greedy_in (turn:=pf) (R:=sp.drop (x.i+1)) x.a x.b x.s (spots_of hsp _)
  have hgc:=xVy (turn:=pf) (R:=sp.drop (x.i+1)) x.a x.b x.s (spots_of hsp _)
  generalize greedy pf (sp.drop (x.i+1)) x.a x.b x.s=post at *
  have hpl:pre.length+1=x.i:=by have:=runS_i pre ⟨1,a,b,0⟩;rw [k3] at this;have h2:x.i=1+pre.length:=this;omega
  have hi:=hx.1.2
  have hpost:post.length=sp.length - (x.i+1):=by rw [hg.length,List.length_drop]
  obtain ⟨g1,g2⟩:=runS_ab pre a b 1 0
  rw [k3] at g1 g2
  refine ⟨a :: b :: (pre++post),inR_of (by simp only [List.length_cons,List.length_append];omega) fun i c hc=>?_,?_,?_,?_⟩
  · rcases (show i=0∨i=1∨2≤i by omega) with rfl|rfl|h2
    · simp only [List.getElem?_cons_zero,Option.some.injEq] at hc
      subst hc;exact k1.2.1
    · simp only [List.getElem?_cons_succ,List.getElem?_cons_zero,Option.some.injEq] at hc
      subst hc;exact k1.2.2.1
    · obtain ⟨j,rfl⟩ : ∃ j,i=j+2:=⟨i - 2,by omega⟩
      simp only [List.getElem?_cons_succ] at hc
      by_cases hj:j<pre.length
      · rw [List.getElem?_append_left hj] at hc
        have:=k2.2 j c hc
        rwa [show 1+1+j=j+2 by omega] at this
      · rw [List.getElem?_append_right (by omega)] at hc
        have:=xHz hg hc
        rw [spot_drop] at this
        rwa [show x.i+1+(j - pre.length)=j+2 by omega] at this
  · rw [← List.cons_append,← List.cons_append,List.getElem?_append_left (by simp only [List.length_cons];omega),show x.i - 1=pre.length by omega];exact g1
  · rw [← List.cons_append,← List.cons_append,List.getElem?_append_left (by simp only [List.length_cons];omega),show x.i=pre.length+1 by omega];exact g2
  · have hc:=xCw (pf:=pf) pre post ⟨1,a,b,0⟩
    rw [k3] at hc
    have hc':Cost pf (a :: b :: (pre++post))=costL pf a b 0 pre+costL pf x.a x.b x.s post:=hc
    rw [hc',k4,hgc];rfl
end Go.Proofs.YtkmdidplmfdikabDoor
end
