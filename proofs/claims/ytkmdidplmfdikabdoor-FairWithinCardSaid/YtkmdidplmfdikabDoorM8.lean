import Derived.Test.YtkmdidplmfdikabDoorM7
set_option linter.all false
section
namespace Go.Proofs.YtkmdidplmfdikabDoor
open Go.Ev
set_option maxRecDepth 100000
set_option linter.unusedSimpArgs false
set_option linter.unusedVariables false
set_option maxHeartbeats 4000000

theorem tEvbT21 :type_of% (And.intro (And.intro (And.intro (And.intro (And.intro (@zSz) (@bs_35)) (And.intro (@ia_2) (@sz_2))) (And.intro (And.intro (@ze_2) (@ia_3)) (And.intro (@sz_3) (@zTz)))) (And.intro (And.intro (And.intro (@ia_4) (@sz_4)) (And.intro (@zUw) (@zRw))) (And.intro (And.intro (@zPw) (@zVx)) (And.intro (@zUy) (And.intro (@zVy) (@zXv)))))) (And.intro (And.intro (And.intro (And.intro (@zXw) (@zTy)) (And.intro (@zSv) (@zRv))) (And.intro (And.intro (@zXz) (@zTw)) (And.intro (@zOz) (@zNv)))) (And.intro (And.intro (And.intro (@zNw) (@zOw)) (And.intro (@zMv) (@zNz))) (And.intro (And.intro (@yCz) (@pb_54)) (And.intro (@pb_36) (And.intro (@pb_37) (@wBx))))))):=And.intro (And.intro (And.intro (And.intro (And.intro (@zSz) (@bs_35)) (And.intro (@ia_2) (@sz_2))) (And.intro (And.intro (@ze_2) (@ia_3)) (And.intro (@sz_3) (@zTz)))) (And.intro (And.intro (And.intro (@ia_4) (@sz_4)) (And.intro (@zUw) (@zRw))) (And.intro (And.intro (@zPw) (@zVx)) (And.intro (@zUy) (And.intro (@zVy) (@zXv)))))) (And.intro (And.intro (And.intro (And.intro (@zXw) (@zTy)) (And.intro (@zSv) (@zRv))) (And.intro (And.intro (@zXz) (@zTw)) (And.intro (@zOz) (@zNv)))) (And.intro (And.intro (And.intro (@zNw) (@zOw)) (And.intro (@zMv) (@zNz))) (And.intro (And.intro (@yCz) (@pb_54)) (And.intro (@pb_36) (And.intro (@pb_37) (@wBx))))))
theorem offset (x:Stt) (i:Nat) (h:H) (wf:Wf h):(om Tryd.prog KK).call (.fn 35 [stv x,ii (i:Int)]) h = .ok (ii (if i=x.i then x.b else x.a)) h:=by
  by_cases e:i=x.i
  · rw [if_pos e]
    have e':(i:Int)=(x.i:Int):=by omega
    refine zWv (zLv (fn:=Tryd.f35) Tryd.func35 rfl rfl rfl rfl rfl ?_)
    simp only [zKx]
    unfold stv
    (repeat' (first
  | (with_reducible first|refine zJz ?_|refine zGw ?_|refine zEw ?_|refine zEx ?_|refine zEv ?_|refine zJy ?_|refine zGv ?_|refine zBw ?_|refine zDx ?_|refine zBv ?_|refine zCx ?_|refine zEz ?_|refine zCw ?_|refine zCz ?_|refine zBz ?_|refine zDv ?_|refine zDy ?_|refine zAx ?_|refine zAv ?_)
  | refine zCv ?_|refine zEy rfl ?_|refine zIw ?_|refine zIv ?_
  | ((first|refine zGx rfl rfl rfl rfl rfl fun K_ hK_=>?_|refine zGy rfl rfl rfl rfl rfl fun K_ hK_=>?_);simp only [zAz,zDz,zFw,↓reduceIte,reduceCtorEq,Nat.reduceEqDiff,Bool.not_true,Bool.not_false];refine hK_ _ ?_;clear hK_ K_)
  | refine zDw (by decide) ?_
  | ((try first|refine zJx rfl rfl rfl ?_|refine zIy rfl rfl ?_|refine zJv rfl rfl rfl ?_|refine zIx rfl rfl ?_);(refine zIz fun Q_ hQ_=>?_;simp (disch:=first|omega|(simp only [List.length_cons,List.length_nil,List.length_append];omega)) only [bb,bp,zKx,↓reduceIte,reduceCtorEq,Nat.reduceEqDiff,Nat.reduceLT,Nat.reduceLeDiff,Nat.reduceAdd,Nat.reduceMul,Nat.reduceSub,Nat.reduceBEq,Int.reduceToNat,cond_true,cond_false,eq_self,beq_self_eq_true,zHz wf,zHx wf,zFz wf,zHy wf,zBx wf,zFy,tEvbT21,zHw,zQy,zAw wf];first|(refine zCy (Q:=Q_) (fun hp_=>?_) (fun hp_=>?_) <;> first|(exfalso;omega)|(refine hQ_ _ _ ?_;clear hQ_ Q_))|(refine zBy (Q:=Q_) (fun hp_=>?_) (fun hp_=>?_) <;> first|(exfalso;omega)|(refine hQ_ _ _ ?_;clear hQ_ Q_))|(refine hQ_ _ _ ?_;clear hQ_ Q_)))
  | (refine zFv fun K_ hK_=>?_;simp (disch:=omega) only [zFx,zAz,zGz,↓reduceIte,reduceCtorEq,Nat.reduceEqDiff,Nat.reduceLT];refine hK_ _ ?_;clear hK_ K_)))
    (refine zJw _ _ rfl (ret1 (by decide)) ?_;simp only [zAz,↓reduceIte,reduceCtorEq,Nat.reduceEqDiff];refine zLx rfl (by omega) ?_)
    exact ⟨rfl,rfl⟩
  · rw [if_neg e]
    have e' : ¬ (i:Int)=(x.i:Int):=by omega
    refine zWv (zLv (fn:=Tryd.f35) Tryd.func35 rfl rfl rfl rfl rfl ?_)
    simp only [zKx]
    unfold stv
    (repeat' (first
  | (with_reducible first|refine zJz ?_|refine zGw ?_|refine zEw ?_|refine zEx ?_|refine zEv ?_|refine zJy ?_|refine zGv ?_|refine zBw ?_|refine zDx ?_|refine zBv ?_|refine zCx ?_|refine zEz ?_|refine zCw ?_|refine zCz ?_|refine zBz ?_|refine zDv ?_|refine zDy ?_|refine zAx ?_|refine zAv ?_)
  | refine zCv ?_|refine zEy rfl ?_|refine zIw ?_|refine zIv ?_
  | ((first|refine zGx rfl rfl rfl rfl rfl fun K_ hK_=>?_|refine zGy rfl rfl rfl rfl rfl fun K_ hK_=>?_);simp only [zAz,zDz,zFw,↓reduceIte,reduceCtorEq,Nat.reduceEqDiff,Bool.not_true,Bool.not_false];refine hK_ _ ?_;clear hK_ K_)
  | refine zDw (by decide) ?_
  | ((try first|refine zJx rfl rfl rfl ?_|refine zIy rfl rfl ?_|refine zJv rfl rfl rfl ?_|refine zIx rfl rfl ?_);(refine zIz fun Q_ hQ_=>?_;simp (disch:=first|omega|(simp only [List.length_cons,List.length_nil,List.length_append];omega)) only [bb,bp,zKx,↓reduceIte,reduceCtorEq,Nat.reduceEqDiff,Nat.reduceLT,Nat.reduceLeDiff,Nat.reduceAdd,Nat.reduceMul,Nat.reduceSub,Nat.reduceBEq,Int.reduceToNat,cond_true,cond_false,eq_self,beq_self_eq_true,zHz wf,zHx wf,zFz wf,zHy wf,zBx wf,zFy,tEvbT21,zHw,zQy,zAw wf];first|(refine zCy (Q:=Q_) (fun hp_=>?_) (fun hp_=>?_) <;> first|(exfalso;omega)|(refine hQ_ _ _ ?_;clear hQ_ Q_))|(refine zBy (Q:=Q_) (fun hp_=>?_) (fun hp_=>?_) <;> first|(exfalso;omega)|(refine hQ_ _ _ ?_;clear hQ_ Q_))|(refine hQ_ _ _ ?_;clear hQ_ Q_)))
  | (refine zFv fun K_ hK_=>?_;simp (disch:=omega) only [zFx,zAz,zGz,↓reduceIte,reduceCtorEq,Nat.reduceEqDiff,Nat.reduceLT];refine hK_ _ ?_;clear hK_ K_)))
    (refine zJw _ _ rfl (ret1 (by decide)) ?_;simp only [zAz,↓reduceIte,reduceCtorEq,Nat.reduceEqDiff];refine zLx rfl (by omega) ?_)
    exact ⟨rfl,rfl⟩

abbrev bb' (b:Bool):AV:=.bool b
def fst' (ms:List Bool):Nat:=ms.findIdx id
theorem fst_none {ms:List Bool} (h : ∀ j,j<ms.length→ms[j]? = some false):fst' ms=ms.length:=by
  unfold fst'
  rw [List.findIdx_eq_length]
  intro b hb
  obtain ⟨j,hj⟩:=List.getElem?_of_mem hb
  rw [h j (zHv hj)] at hj
  cases hj;rfl
theorem fst_some {ms:List Bool} {k:Nat} (h : ∀ j,j<k→ms[j]? = some false) (hk:ms[k]? = some true):fst' ms=k:=by
  unfold fst'
  have hl:=zHv hk
  rw [List.findIdx_eq hl]
  refine ⟨?_,fun j hj=>?_⟩
  · rw [List.getElem?_eq_getElem hl] at hk;exact Option.some.inj hk
  · have:=h j hj
    rw [List.getElem?_eq_getElem (by omega)] at this
    exact Option.some.inj this
def idxI (ms:List Bool):Int:=if fst' ms<ms.length then (fst' ms:Int) else -1
theorem index (ms:List Bool) (hn:ms.length≤1000000) (v:AV) (h:H) (wf:Wf h) (hs:Sl h v 1 ms.length (ms.map bb')) :
    (om Tryd.prog KK).call (.fn 54 [v,.bool true]) h = .ok (ii (idxI ms)) h:=by
  refine zWv (zLv (fn:=Tryd.f54) Tryd.func54 rfl rfl rfl rfl rfl ?_)
  simp only [zKx]
  have hlen : ∀ h',lenE Tryd.prog 74 v h'=some (ii (ms.length:Int)):=fun h'=>hs.len un_74
  have heqT : ∀ (x y:Operand),binE Tryd.prog .eql 4 x y (.bool true) (.bool true)=some (.bool true):=fun x y=>b_eqlB un_4
  have heqF : ∀ (x y:Operand),binE Tryd.prog .eql 4 x y (.bool true) (.bool false)=some (.bool false):=fun x y=>b_eqlB un_4
  (repeat' (first
  | (with_reducible first|refine zJz ?_|refine zGw ?_|refine zEw ?_|refine zEx ?_|refine zEv ?_|refine zJy ?_|refine zGv ?_|refine zBw ?_|refine zDx ?_|refine zBv ?_|refine zCx ?_|refine zEz ?_|refine zCw ?_|refine zCz ?_|refine zBz ?_|refine zDv ?_|refine zDy ?_|refine zAx ?_|refine zAv ?_)
  | refine zCv ?_|refine zEy rfl ?_|refine zIw ?_|refine zIv ?_
  | ((first|refine zGx rfl rfl rfl rfl rfl fun K_ hK_=>?_|refine zGy rfl rfl rfl rfl rfl fun K_ hK_=>?_);simp only [zAz,zDz,zFw,↓reduceIte,reduceCtorEq,Nat.reduceEqDiff,Bool.not_true,Bool.not_false];refine hK_ _ ?_;clear hK_ K_)
  | refine zDw (by decide) ?_
  | ((try first|refine zJx rfl rfl rfl ?_|refine zIy rfl rfl ?_|refine zJv rfl rfl rfl ?_|refine zIx rfl rfl ?_);(refine zIz fun Q_ hQ_=>?_;simp (disch:=first|omega|(simp only [List.length_cons,List.length_nil,List.length_append];omega)) only [bb,bp,zKx,↓reduceIte,reduceCtorEq,Nat.reduceEqDiff,Nat.reduceLT,Nat.reduceLeDiff,Nat.reduceAdd,Nat.reduceMul,Nat.reduceSub,Nat.reduceBEq,Int.reduceToNat,cond_true,cond_false,eq_self,beq_self_eq_true,hlen,tEvbT21,zHw,zQy,zAw wf];first|(refine zCy (Q:=Q_) (fun hp_=>?_) (fun hp_=>?_) <;> first|(exfalso;omega)|(refine hQ_ _ _ ?_;clear hQ_ Q_))|(refine zBy (Q:=Q_) (fun hp_=>?_) (fun hp_=>?_) <;> first|(exfalso;omega)|(refine hQ_ _ _ ?_;clear hQ_ Q_))|(refine hQ_ _ _ ?_;clear hQ_ Q_)))
  | (refine zFv fun K_ hK_=>?_;simp (disch:=omega) only [zFx,zAz,zGz,↓reduceIte,reduceCtorEq,Nat.reduceEqDiff,Nat.reduceLT];refine hK_ _ ?_;clear hK_ K_)))
  refine zVz (fun (k:Nat) f d h'=>k≤ms.length∧f 0=v∧f 1 = .bool true∧f 7=ii (ms.length:Int)∧f 8=ii (k:Int)∧d=[]∧h'=X h [] h.clock ∧ ∀ j,j<k→ms[j]? = some false) (fun k=>ms.length - k) ?_ (ms.length+1) 0 (by omega) ?_
  rotate_left 1
  · exact ⟨by omega,by (try simp only [zAz,↓reduceIte,reduceCtorEq,Nat.reduceEqDiff]) <;> rfl,by (try simp only [zAz,↓reduceIte,reduceCtorEq,Nat.reduceEqDiff]) <;> rfl,by (try simp only [zAz,↓reduceIte,reduceCtorEq,Nat.reduceEqDiff]) <;> rfl,by (try simp only [zAz,↓reduceIte,reduceCtorEq,Nat.reduceEqDiff]) <;> rfl,rfl,rfl,fun j hj=>absurd hj (Nat.not_lt_zero _)⟩
  rintro k f d h' ⟨hk,g0,g1,g7,g8,rfl,rfl,hall⟩
  by_cases hlt:k<ms.length
  · obtain ⟨id,off,hix,hld⟩:=hs.at1 wf hlt ik_74
    rw [List.getElem?_map,List.getElem?_eq_getElem hlt] at hld
    have hld' : ∀ l w,load1 id off (X h l w)=some (.bool ms[k]):=hld
    by_cases hb:ms[k]=true
    · rw [hb] at hld'
      (repeat' (first
  | (with_reducible first|refine zJz ?_|refine zGw ?_|refine zEw ?_|refine zEx ?_|refine zEv ?_|refine zJy ?_|refine zGv ?_|refine zBw ?_|refine zDx ?_|refine zBv ?_|refine zCx ?_|refine zEz ?_|refine zCw ?_|refine zCz ?_|refine zBz ?_|refine zDv ?_|refine zDy ?_|refine zAx ?_|refine zAv ?_)
  | refine zCv ?_|refine zEy rfl ?_|refine zIw ?_|refine zIv ?_
  | ((first|refine zGx rfl rfl rfl rfl rfl fun K_ hK_=>?_|refine zGy rfl rfl rfl rfl rfl fun K_ hK_=>?_);simp only [zAz,zDz,zFw,↓reduceIte,reduceCtorEq,Nat.reduceEqDiff,Bool.not_true,Bool.not_false];refine hK_ _ ?_;clear hK_ K_)
  | refine zDw (by decide) ?_
  | ((try first|refine zJx rfl rfl rfl ?_|refine zIy rfl rfl ?_|refine zJv rfl rfl rfl ?_|refine zIx rfl rfl ?_);(refine zIz fun Q_ hQ_=>?_;simp (disch:=first|omega|(simp only [List.length_cons,List.length_nil,List.length_append];omega)) only [bb,bp,zKx,↓reduceIte,reduceCtorEq,Nat.reduceEqDiff,Nat.reduceLT,Nat.reduceLeDiff,Nat.reduceAdd,Nat.reduceMul,Nat.reduceSub,Nat.reduceBEq,Int.reduceToNat,cond_true,cond_false,eq_self,beq_self_eq_true,g0,g1,g7,g8,hix,hld',heqT,heqF,tEvbT21,zHw,zQy,zAw wf];first|(refine zCy (Q:=Q_) (fun hp_=>?_) (fun hp_=>?_) <;> first|(exfalso;omega)|(refine hQ_ _ _ ?_;clear hQ_ Q_))|(refine zBy (Q:=Q_) (fun hp_=>?_) (fun hp_=>?_) <;> first|(exfalso;omega)|(refine hQ_ _ _ ?_;clear hQ_ Q_))|(refine hQ_ _ _ ?_;clear hQ_ Q_)))
  | (refine zFv fun K_ hK_=>?_;simp (disch:=omega) only [zFx,zAz,zGz,↓reduceIte,reduceCtorEq,Nat.reduceEqDiff,Nat.reduceLT];refine hK_ _ ?_;clear hK_ K_)))
      (refine zJw _ _ rfl (ret1 (by decide)) ?_;simp only [zAz,↓reduceIte,reduceCtorEq,Nat.reduceEqDiff];refine zLx rfl (by omega) ?_)
      have e:fst' ms=k:=fst_some hall (by rw [List.getElem?_eq_getElem hlt,hb])
      unfold idxI
      rw [e,if_pos hlt];exact ⟨rfl,rfl⟩
    · have hb':ms[k]=false:=by cases hx:ms[k] with|true=>exact absurd hx hb|false=>rfl
      rw [hb'] at hld'
      (repeat' (first
  | (with_reducible first|refine zJz ?_|refine zGw ?_|refine zEw ?_|refine zEx ?_|refine zEv ?_|refine zJy ?_|refine zGv ?_|refine zBw ?_|refine zDx ?_|refine zBv ?_|refine zCx ?_|refine zEz ?_|refine zCw ?_|refine zCz ?_|refine zBz ?_|refine zDv ?_|refine zDy ?_|refine zAx ?_|refine zAv ?_)
  | refine zCv ?_|refine zEy rfl ?_|refine zIw ?_|refine zIv ?_
  | ((first|refine zGx rfl rfl rfl rfl rfl fun K_ hK_=>?_|refine zGy rfl rfl rfl rfl rfl fun K_ hK_=>?_);simp only [zAz,zDz,zFw,↓reduceIte,reduceCtorEq,Nat.reduceEqDiff,Bool.not_true,Bool.not_false];refine hK_ _ ?_;clear hK_ K_)
  | refine zDw (by decide) ?_
  | ((try first|refine zJx rfl rfl rfl ?_|refine zIy rfl rfl ?_|refine zJv rfl rfl rfl ?_|refine zIx rfl rfl ?_);(refine zIz fun Q_ hQ_=>?_;simp (disch:=first|omega|(simp only [List.length_cons,List.length_nil,List.length_append];omega)) only [bb,bp,zKx,↓reduceIte,reduceCtorEq,Nat.reduceEqDiff,Nat.reduceLT,Nat.reduceLeDiff,Nat.reduceAdd,Nat.reduceMul,Nat.reduceSub,Nat.reduceBEq,Int.reduceToNat,cond_true,cond_false,eq_self,beq_self_eq_true,g0,g1,g7,g8,hix,hld',heqT,heqF,tEvbT21,zHw,zQy,zAw wf];first|(refine zCy (Q:=Q_) (fun hp_=>?_) (fun hp_=>?_) <;> first|(exfalso;omega)|(refine hQ_ _ _ ?_;clear hQ_ Q_))|(refine zBy (Q:=Q_) (fun hp_=>?_) (fun hp_=>?_) <;> first|(exfalso;omega)|(refine hQ_ _ _ ?_;clear hQ_ Q_))|(refine hQ_ _ _ ?_;clear hQ_ Q_)))
  | (refine zFv fun K_ hK_=>?_;simp (disch:=omega) only [zFx,zAz,zGz,↓reduceIte,reduceCtorEq,Nat.reduceEqDiff,Nat.reduceLT];refine hK_ _ ?_;clear hK_ K_)))
      exact zKw (k+1) (by omega) ⟨hlt,by simp only [zAz,↓reduceIte,reduceCtorEq,Nat.reduceEqDiff];exact g0,by simp only [zAz,↓reduceIte,reduceCtorEq,Nat.reduceEqDiff];exact g1,by simp only [zAz,↓reduceIte,reduceCtorEq,Nat.reduceEqDiff];exact g7,by simp only [zAz,↓reduceIte,reduceCtorEq,Nat.reduceEqDiff];rfl,rfl,rfl,fun j hj=>by
        by_cases e:j=k
        · subst e;rw [List.getElem?_eq_getElem hlt,hb']
        · exact hall j (by omega)⟩
  · have hke:k=ms.length:=by omega
    subst hke
    (repeat' (first
  | (with_reducible first|refine zJz ?_|refine zGw ?_|refine zEw ?_|refine zEx ?_|refine zEv ?_|refine zJy ?_|refine zGv ?_|refine zBw ?_|refine zDx ?_|refine zBv ?_|refine zCx ?_|refine zEz ?_|refine zCw ?_|refine zCz ?_|refine zBz ?_|refine zDv ?_|refine zDy ?_|refine zAx ?_|refine zAv ?_)
  | refine zCv ?_|refine zEy rfl ?_|refine zIw ?_|refine zIv ?_
  | ((first|refine zGx rfl rfl rfl rfl rfl fun K_ hK_=>?_|refine zGy rfl rfl rfl rfl rfl fun K_ hK_=>?_);simp only [zAz,zDz,zFw,↓reduceIte,reduceCtorEq,Nat.reduceEqDiff,Bool.not_true,Bool.not_false];refine hK_ _ ?_;clear hK_ K_)
  | refine zDw (by decide) ?_
  | ((try first|refine zJx rfl rfl rfl ?_|refine zIy rfl rfl ?_|refine zJv rfl rfl rfl ?_|refine zIx rfl rfl ?_);(refine zIz fun Q_ hQ_=>?_;simp (disch:=first|omega|(simp only [List.length_cons,List.length_nil,List.length_append];omega)) only [bb,bp,zKx,↓reduceIte,reduceCtorEq,Nat.reduceEqDiff,Nat.reduceLT,Nat.reduceLeDiff,Nat.reduceAdd,Nat.reduceMul,Nat.reduceSub,Nat.reduceBEq,Int.reduceToNat,cond_true,cond_false,eq_self,beq_self_eq_true,g0,g1,g7,g8,tEvbT21,zHw,zQy,zAw wf];first|(refine zCy (Q:=Q_) (fun hp_=>?_) (fun hp_=>?_) <;> first|(exfalso;omega)|(refine hQ_ _ _ ?_;clear hQ_ Q_))|(refine zBy (Q:=Q_) (fun hp_=>?_) (fun hp_=>?_) <;> first|(exfalso;omega)|(refine hQ_ _ _ ?_;clear hQ_ Q_))|(refine hQ_ _ _ ?_;clear hQ_ Q_)))
  | (refine zFv fun K_ hK_=>?_;simp (disch:=omega) only [zFx,zAz,zGz,↓reduceIte,reduceCtorEq,Nat.reduceEqDiff,Nat.reduceLT];refine hK_ _ ?_;clear hK_ K_)))
    (refine zJw _ _ rfl (ret1 (by decide)) ?_;simp only [zAz,↓reduceIte,reduceCtorEq,Nat.reduceEqDiff];refine zLx rfl (by omega) ?_)
    unfold idxI
    rw [fst_none hall,if_neg (by omega)];exact ⟨rfl,rfl⟩
theorem contains (ms:List Bool) (hn:ms.length≤1000000) (v:AV) (h:H) (wf:Wf h) (hs:Sl h v 1 ms.length (ms.map bb')) :
    (om Tryd.prog KK).call (.fn 36 [v,.bool true]) h = .ok (.bool (decide (fst' ms<ms.length))) h:=by
  refine zWv (zLv (fn:=Tryd.f36) Tryd.func36 rfl rfl rfl rfl rfl ?_)
  simp only [zKx]
  have hi : ∀ l w,w≤h.clock+l.length→(om Tryd.prog KK).call (.fn 54 [v,.bool true]) (X h l w) = .ok (ii (idxI ms)) (X h l w):=fun l w hw=>index ms hn v _ (wf.X hw) (hs.up wf _ _)
  have hv1:oneB v=true∧AV.cells v=[v]:=by obtain ⟨_,⟨rfl,_⟩|⟨_,_,_,_,_,_,rfl,_⟩⟩:=hs <;> exact ⟨rfl,rfl⟩
  have hid:idxI ms=if fst' ms<ms.length then (fst' ms:Int) else -1:=rfl
  by_cases e:fst' ms<ms.length
  · rw [if_pos e] at hid
    rw [decide_eq_true e]
    generalize idxI ms=ix at *
    subst hid
    (repeat' (first
  | (with_reducible first|refine zJz ?_|refine zGw ?_|refine zEw ?_|refine zEx ?_|refine zEv ?_|refine zJy ?_|refine zGv ?_|refine zBw ?_|refine zDx ?_|refine zBv ?_|refine zCx ?_|refine zEz ?_|refine zCw ?_|refine zCz ?_|refine zBz ?_|refine zDv ?_|refine zDy ?_|refine zAx ?_|refine zAv ?_)
  | refine zCv ?_|refine zEy rfl ?_|refine zIw ?_|refine zIv ?_
  | ((first|refine zGx rfl rfl rfl rfl rfl fun K_ hK_=>?_|refine zGy rfl rfl rfl rfl rfl fun K_ hK_=>?_);simp only [zAz,zDz,zFw,↓reduceIte,reduceCtorEq,Nat.reduceEqDiff,Bool.not_true,Bool.not_false];refine hK_ _ ?_;clear hK_ K_)
  | refine zDw (by decide) ?_
  | ((try first|refine zJx rfl rfl rfl ?_|refine zIy rfl rfl ?_|refine zJv rfl rfl rfl ?_|refine zIx rfl rfl ?_);(refine zIz fun Q_ hQ_=>?_;simp (disch:=first|omega|(simp only [List.length_cons,List.length_nil,List.length_append];omega)) only [bb,bp,zKx,↓reduceIte,reduceCtorEq,Nat.reduceEqDiff,Nat.reduceLT,Nat.reduceLeDiff,Nat.reduceAdd,Nat.reduceMul,Nat.reduceSub,Nat.reduceBEq,Int.reduceToNat,cond_true,cond_false,eq_self,beq_self_eq_true,hi,hv1.1,hv1.2,tEvbT21,zHw,zQy,zAw wf];first|(refine zCy (Q:=Q_) (fun hp_=>?_) (fun hp_=>?_) <;> first|(exfalso;omega)|(refine hQ_ _ _ ?_;clear hQ_ Q_))|(refine zBy (Q:=Q_) (fun hp_=>?_) (fun hp_=>?_) <;> first|(exfalso;omega)|(refine hQ_ _ _ ?_;clear hQ_ Q_))|(refine hQ_ _ _ ?_;clear hQ_ Q_)))
  | (refine zFv fun K_ hK_=>?_;simp (disch:=omega) only [zFx,zAz,zGz,↓reduceIte,reduceCtorEq,Nat.reduceEqDiff,Nat.reduceLT];refine hK_ _ ?_;clear hK_ K_)))
    (refine zJw _ _ rfl (ret1 (by decide)) ?_;simp only [zAz,↓reduceIte,reduceCtorEq,Nat.reduceEqDiff];refine zLx rfl (by omega) ?_)
    exact ⟨rfl,rfl⟩
  · rw [if_neg e] at hid
    rw [decide_eq_false e]
    generalize idxI ms=ix at *
    subst hid
    (repeat' (first
  | (with_reducible first|refine zJz ?_|refine zGw ?_|refine zEw ?_|refine zEx ?_|refine zEv ?_|refine zJy ?_|refine zGv ?_|refine zBw ?_|refine zDx ?_|refine zBv ?_|refine zCx ?_|refine zEz ?_|refine zCw ?_|refine zCz ?_|refine zBz ?_|refine zDv ?_|refine zDy ?_|refine zAx ?_|refine zAv ?_)
  | refine zCv ?_|refine zEy rfl ?_|refine zIw ?_|refine zIv ?_
  | ((first|refine zGx rfl rfl rfl rfl rfl fun K_ hK_=>?_|refine zGy rfl rfl rfl rfl rfl fun K_ hK_=>?_);simp only [zAz,zDz,zFw,↓reduceIte,reduceCtorEq,Nat.reduceEqDiff,Bool.not_true,Bool.not_false];refine hK_ _ ?_;clear hK_ K_)
  | refine zDw (by decide) ?_
  | ((try first|refine zJx rfl rfl rfl ?_|refine zIy rfl rfl ?_|refine zJv rfl rfl rfl ?_|refine zIx rfl rfl ?_);(refine zIz fun Q_ hQ_=>?_;simp (disch:=first|omega|(simp only [List.length_cons,List.length_nil,List.length_append];omega)) only [bb,bp,zKx,↓reduceIte,reduceCtorEq,Nat.reduceEqDiff,Nat.reduceLT,Nat.reduceLeDiff,Nat.reduceAdd,Nat.reduceMul,Nat.reduceSub,Nat.reduceBEq,Int.reduceToNat,cond_true,cond_false,eq_self,beq_self_eq_true,hi,hv1.1,hv1.2,tEvbT21,zHw,zQy,zAw wf];first|(refine zCy (Q:=Q_) (fun hp_=>?_) (fun hp_=>?_) <;> first|(exfalso;omega)|(refine hQ_ _ _ ?_;clear hQ_ Q_))|(refine zBy (Q:=Q_) (fun hp_=>?_) (fun hp_=>?_) <;> first|(exfalso;omega)|(refine hQ_ _ _ ?_;clear hQ_ Q_))|(refine hQ_ _ _ ?_;clear hQ_ Q_)))
  | (refine zFv fun K_ hK_=>?_;simp (disch:=omega) only [zFx,zAz,zGz,↓reduceIte,reduceCtorEq,Nat.reduceEqDiff,Nat.reduceLT];refine hK_ _ ?_;clear hK_ K_)))
    (refine zJw _ _ rfl (ret1 (by decide)) ?_;simp only [zAz,↓reduceIte,reduceCtorEq,Nat.reduceEqDiff];refine zLx rfl (by omega) ?_)
    exact ⟨rfl,rfl⟩

theorem marked (ms:List Bool) (hn:ms.length≤1000) (hf:fst' ms<ms.length) (lo:Int) (hlo:Off lo) (v:AV) (h:H) (wf:Wf h) (hs:Sl h v 1 ms.length (ms.map bb')) :
    ∃ (p q:Nat),ms[p]? = some true∧ms[q]? = some true∧(∀ j:Nat,ms[j]? = some true→p≤j∧j≤q)∧(om Tryd.prog KK).call (.fn 37 [ii lo,v]) h = .ok (.agg [ii (lo+(p:Int)),ii (lo+(q:Int))]) h:=by
  have hi : ∀ l w,w≤h.clock+l.length→(om Tryd.prog KK).call (.fn 54 [v,.bool true]) (X h l w) = .ok (ii (fst' ms:Int)) (X h l w):=fun l w hw=>by
    have:=index ms (by omega) v _ (wf.X hw) (hs.up wf l w)
    unfold idxI at this
    rwa [if_pos hf] at this
  have hv1:oneB v=true∧AV.cells v=[v]:=by obtain ⟨_,⟨rfl,_⟩|⟨_,_,_,_,_,_,rfl,_⟩⟩:=hs <;> exact ⟨rfl,rfl⟩
  have hp:ms[fst' ms]? = some true:=by
    have:=List.findIdx_getElem (xs:=ms) (p:=id) (w:=hf)
    rw [List.getElem?_eq_getElem hf]
    exact congrArg some this
  have hfirst : ∀ j,ms[j]? = some true→fst' ms≤j:=fun j hj=>by
    rcases Nat.lt_or_ge j (fst' ms) with hlt|hge
    · have:=List.not_of_lt_findIdx (xs:=ms) (p:=id) hlt
      rw [List.getElem?_eq_getElem (by omega)] at hj
      exact absurd (Option.some.inj hj) (by simpa using this)
    · exact hge
  generalize fst' ms=p at *
  obtain ⟨o1,o2⟩:=hlo
  have hlen : ∀ h',lenE Tryd.prog 74 v h'=some (ii (ms.length:Int)):=fun h'=>hs.len un_74
  have main:WV ((om Tryd.prog KK).call (.fn 37 [ii lo,v]) h) fun r h'=>∃ q:Nat,ms[q]? = some true∧(∀ j:Nat,ms[j]? = some true→j≤q)∧r = .agg [ii (lo+(p:Int)),ii (lo+(q:Int))]∧h'=h:=by
    refine zLv (fn:=Tryd.f37) Tryd.func37 rfl rfl rfl rfl rfl ?_
    simp only [zKx]
    (repeat' (first
  | (with_reducible first|refine zJz ?_|refine zGw ?_|refine zEw ?_|refine zEx ?_|refine zEv ?_|refine zJy ?_|refine zGv ?_|refine zBw ?_|refine zDx ?_|refine zBv ?_|refine zCx ?_|refine zEz ?_|refine zCw ?_|refine zCz ?_|refine zBz ?_|refine zDv ?_|refine zDy ?_|refine zAx ?_|refine zAv ?_)
  | refine zCv ?_|refine zEy rfl ?_|refine zIw ?_|refine zIv ?_
  | ((first|refine zGx rfl rfl rfl rfl rfl fun K_ hK_=>?_|refine zGy rfl rfl rfl rfl rfl fun K_ hK_=>?_);simp only [zAz,zDz,zFw,↓reduceIte,reduceCtorEq,Nat.reduceEqDiff,Bool.not_true,Bool.not_false];refine hK_ _ ?_;clear hK_ K_)
  | refine zDw (by decide) ?_
  | ((try first|refine zJx rfl rfl rfl ?_|refine zIy rfl rfl ?_|refine zJv rfl rfl rfl ?_|refine zIx rfl rfl ?_);(refine zIz fun Q_ hQ_=>?_;simp (disch:=first|omega|(simp only [List.length_cons,List.length_nil,List.length_append];omega)) only [bb,bp,zKx,↓reduceIte,reduceCtorEq,Nat.reduceEqDiff,Nat.reduceLT,Nat.reduceLeDiff,Nat.reduceAdd,Nat.reduceMul,Nat.reduceSub,Nat.reduceBEq,Int.reduceToNat,cond_true,cond_false,eq_self,beq_self_eq_true,hi,hlen,hv1.1,hv1.2,zHz wf,zHx wf,zFz wf,zHy wf,zBx wf,zFy,tEvbT21,zHw,zQy,zAw wf];first|(refine zCy (Q:=Q_) (fun hp_=>?_) (fun hp_=>?_) <;> first|(exfalso;omega)|(refine hQ_ _ _ ?_;clear hQ_ Q_))|(refine zBy (Q:=Q_) (fun hp_=>?_) (fun hp_=>?_) <;> first|(exfalso;omega)|(refine hQ_ _ _ ?_;clear hQ_ Q_))|(refine hQ_ _ _ ?_;clear hQ_ Q_)))
  | (refine zFv fun K_ hK_=>?_;simp (disch:=omega) only [zFx,zAz,zGz,↓reduceIte,reduceCtorEq,Nat.reduceEqDiff,Nat.reduceLT];refine hK_ _ ?_;clear hK_ K_)))
    refine zVz (fun (k:Nat) f d h'=>(p≤k∧k≤ms.length)∧f 0=ii lo∧f 1=v∧f 4 = .ptr (nx h 0) 0∧f 5=ii (p:Int)∧f 7=ii (k:Int)∧d=[]∧(∃ w,h'=X h [.cells (zAy [ii 0,ii 0]) 35] w∧h.clock≤w∧w≤h.clock+1) ∧ ∃ q:Nat,f 6=ii (q:Int)∧ms[q]? = some true ∧ ∀ j,j<k→ms[j]? = some true→j≤q) (fun k=>ms.length - k) ?_ (ms.length+1) p (by omega) ?_
    rotate_left 1
    · exact ⟨⟨Nat.le_refl _,by omega⟩,by (try simp only [zAz,↓reduceIte,reduceCtorEq,Nat.reduceEqDiff]) <;> rfl,by (try simp only [zAz,↓reduceIte,reduceCtorEq,Nat.reduceEqDiff]) <;> rfl,by (try simp only [zAz,↓reduceIte,reduceCtorEq,Nat.reduceEqDiff]) <;> rfl,by (try simp only [zAz,↓reduceIte,reduceCtorEq,Nat.reduceEqDiff]) <;> rfl,by (try simp only [zAz,↓reduceIte,reduceCtorEq,Nat.reduceEqDiff]) <;> rfl,rfl,⟨_,rfl,by omega,by omega⟩,p,by (try simp only [zAz,↓reduceIte,reduceCtorEq,Nat.reduceEqDiff]) <;> rfl,hp,fun j hj hm=>by have:=hfirst j hm;omega⟩
    rintro k f d h' ⟨⟨hpk,hk⟩,g0,g1,g4,g5,g7,rfl,⟨w,rfl,hw1,hw2⟩,q,g6,hq,hall⟩
    have hql:=zHv hq
    by_cases hlt:k<ms.length
    · obtain ⟨id,off,hix,hld⟩:=hs.at1 wf hlt ik_74
      rw [List.getElem?_map,List.getElem?_eq_getElem hlt] at hld
      have hld' : ∀ l w,load1 id off (X h l w)=some (.bool ms[k]):=hld
      by_cases hb:ms[k]=true
      · rw [hb] at hld'
        (repeat' (first
  | (with_reducible first|refine zJz ?_|refine zGw ?_|refine zEw ?_|refine zEx ?_|refine zEv ?_|refine zJy ?_|refine zGv ?_|refine zBw ?_|refine zDx ?_|refine zBv ?_|refine zCx ?_|refine zEz ?_|refine zCw ?_|refine zCz ?_|refine zBz ?_|refine zDv ?_|refine zDy ?_|refine zAx ?_|refine zAv ?_)
  | refine zCv ?_|refine zEy rfl ?_|refine zIw ?_|refine zIv ?_
  | ((first|refine zGx rfl rfl rfl rfl rfl fun K_ hK_=>?_|refine zGy rfl rfl rfl rfl rfl fun K_ hK_=>?_);simp only [zAz,zDz,zFw,↓reduceIte,reduceCtorEq,Nat.reduceEqDiff,Bool.not_true,Bool.not_false];refine hK_ _ ?_;clear hK_ K_)
  | refine zDw (by decide) ?_
  | ((try first|refine zJx rfl rfl rfl ?_|refine zIy rfl rfl ?_|refine zJv rfl rfl rfl ?_|refine zIx rfl rfl ?_);(refine zIz fun Q_ hQ_=>?_;simp (disch:=first|omega|(simp only [List.length_cons,List.length_nil,List.length_append];omega)) only [bb,bp,zKx,↓reduceIte,reduceCtorEq,Nat.reduceEqDiff,Nat.reduceLT,Nat.reduceLeDiff,Nat.reduceAdd,Nat.reduceMul,Nat.reduceSub,Nat.reduceBEq,Int.reduceToNat,cond_true,cond_false,eq_self,beq_self_eq_true,g0,g1,g4,g5,g6,g7,hlen,hix,hld',tEvbT21,zHw,zQy,zAw wf];first|(refine zCy (Q:=Q_) (fun hp_=>?_) (fun hp_=>?_) <;> first|(exfalso;omega)|(refine hQ_ _ _ ?_;clear hQ_ Q_))|(refine zBy (Q:=Q_) (fun hp_=>?_) (fun hp_=>?_) <;> first|(exfalso;omega)|(refine hQ_ _ _ ?_;clear hQ_ Q_))|(refine hQ_ _ _ ?_;clear hQ_ Q_)))
  | (refine zFv fun K_ hK_=>?_;simp (disch:=omega) only [zFx,zAz,zGz,↓reduceIte,reduceCtorEq,Nat.reduceEqDiff,Nat.reduceLT];refine hK_ _ ?_;clear hK_ K_)))
        exact zKw (k+1) (by omega) ⟨⟨by omega,hlt⟩,by simp only [zAz,↓reduceIte,reduceCtorEq,Nat.reduceEqDiff];exact g0,by simp only [zAz,↓reduceIte,reduceCtorEq,Nat.reduceEqDiff];exact g1,by simp only [zAz,↓reduceIte,reduceCtorEq,Nat.reduceEqDiff];exact g4,by simp only [zAz,↓reduceIte,reduceCtorEq,Nat.reduceEqDiff];exact g5,by simp only [zAz,↓reduceIte,reduceCtorEq,Nat.reduceEqDiff];rfl,rfl,⟨_,rfl,hw1,hw2⟩,k,by simp only [zAz,↓reduceIte,reduceCtorEq,Nat.reduceEqDiff],by rw [List.getElem?_eq_getElem hlt,hb],fun j hj hm=>by omega⟩
      · have hb':ms[k]=false:=by cases hx:ms[k] with|true=>exact absurd hx hb|false=>rfl
        rw [hb'] at hld'
        (repeat' (first
  | (with_reducible first|refine zJz ?_|refine zGw ?_|refine zEw ?_|refine zEx ?_|refine zEv ?_|refine zJy ?_|refine zGv ?_|refine zBw ?_|refine zDx ?_|refine zBv ?_|refine zCx ?_|refine zEz ?_|refine zCw ?_|refine zCz ?_|refine zBz ?_|refine zDv ?_|refine zDy ?_|refine zAx ?_|refine zAv ?_)
  | refine zCv ?_|refine zEy rfl ?_|refine zIw ?_|refine zIv ?_
  | ((first|refine zGx rfl rfl rfl rfl rfl fun K_ hK_=>?_|refine zGy rfl rfl rfl rfl rfl fun K_ hK_=>?_);simp only [zAz,zDz,zFw,↓reduceIte,reduceCtorEq,Nat.reduceEqDiff,Bool.not_true,Bool.not_false];refine hK_ _ ?_;clear hK_ K_)
  | refine zDw (by decide) ?_
  | ((try first|refine zJx rfl rfl rfl ?_|refine zIy rfl rfl ?_|refine zJv rfl rfl rfl ?_|refine zIx rfl rfl ?_);(refine zIz fun Q_ hQ_=>?_;simp (disch:=first|omega|(simp only [List.length_cons,List.length_nil,List.length_append];omega)) only [bb,bp,zKx,↓reduceIte,reduceCtorEq,Nat.reduceEqDiff,Nat.reduceLT,Nat.reduceLeDiff,Nat.reduceAdd,Nat.reduceMul,Nat.reduceSub,Nat.reduceBEq,Int.reduceToNat,cond_true,cond_false,eq_self,beq_self_eq_true,g0,g1,g4,g5,g6,g7,hlen,hix,hld',tEvbT21,zHw,zQy,zAw wf];first|(refine zCy (Q:=Q_) (fun hp_=>?_) (fun hp_=>?_) <;> first|(exfalso;omega)|(refine hQ_ _ _ ?_;clear hQ_ Q_))|(refine zBy (Q:=Q_) (fun hp_=>?_) (fun hp_=>?_) <;> first|(exfalso;omega)|(refine hQ_ _ _ ?_;clear hQ_ Q_))|(refine hQ_ _ _ ?_;clear hQ_ Q_)))
  | (refine zFv fun K_ hK_=>?_;simp (disch:=omega) only [zFx,zAz,zGz,↓reduceIte,reduceCtorEq,Nat.reduceEqDiff,Nat.reduceLT];refine hK_ _ ?_;clear hK_ K_)))
        exact zKw (k+1) (by omega) ⟨⟨by omega,hlt⟩,by simp only [zAz,↓reduceIte,reduceCtorEq,Nat.reduceEqDiff];exact g0,by simp only [zAz,↓reduceIte,reduceCtorEq,Nat.reduceEqDiff];exact g1,by simp only [zAz,↓reduceIte,reduceCtorEq,Nat.reduceEqDiff];exact g4,by simp only [zAz,↓reduceIte,reduceCtorEq,Nat.reduceEqDiff];exact g5,by simp only [zAz,↓reduceIte,reduceCtorEq,Nat.reduceEqDiff];rfl,rfl,⟨_,rfl,hw1,hw2⟩,q,by simp only [zAz,↓reduceIte,reduceCtorEq,Nat.reduceEqDiff];exact g6,hq,fun j hj hm=>by
          by_cases e:j=k
          · subst e;rw [List.getElem?_eq_getElem hlt,hb'] at hm;cases hm
          · exact hall j (by omega) hm⟩
    · have hke:k=ms.length:=by omega
      subst hke
      have hs1 : ∀ (o:AO) w,w≤h.clock+2→(om Tryd.prog KK).call (.fn 30 [.sl (nx h 1) 0 2 (some 2) 1]) (X h [o,.cells (zAy [ii lo,ii (p:Int)]) 2] w) = .ok (ii (lo+(p:Int))) (X h [o,.cells (zAy [ii lo,ii (p:Int)]) 2] w):=fun o w hw=>sum2 wf rfl (by simp only [List.length_cons,List.length_nil];omega) (by omega) (by omega)
      have hs2 : ∀ (o o2:AO) w,w≤h.clock+3→(om Tryd.prog KK).call (.fn 30 [.sl (nx h 2) 0 2 (some 2) 1]) (X h [o,o2,.cells (zAy [ii lo,ii (q:Int)]) 2] w) = .ok (ii (lo+(q:Int))) (X h [o,o2,.cells (zAy [ii lo,ii (q:Int)]) 2] w):=fun o o2 w hw=>sum2 wf rfl (by simp only [List.length_cons,List.length_nil];omega) (by omega) (by omega)
      (repeat' (first
  | (with_reducible first|refine zJz ?_|refine zGw ?_|refine zEw ?_|refine zEx ?_|refine zEv ?_|refine zJy ?_|refine zGv ?_|refine zBw ?_|refine zDx ?_|refine zBv ?_|refine zCx ?_|refine zEz ?_|refine zCw ?_|refine zCz ?_|refine zBz ?_|refine zDv ?_|refine zDy ?_|refine zAx ?_|refine zAv ?_)
  | refine zCv ?_|refine zEy rfl ?_|refine zIw ?_|refine zIv ?_
  | ((first|refine zGx rfl rfl rfl rfl rfl fun K_ hK_=>?_|refine zGy rfl rfl rfl rfl rfl fun K_ hK_=>?_);simp only [zAz,zDz,zFw,↓reduceIte,reduceCtorEq,Nat.reduceEqDiff,Bool.not_true,Bool.not_false];refine hK_ _ ?_;clear hK_ K_)
  | refine zDw (by decide) ?_
  | ((try first|refine zJx rfl rfl rfl ?_|refine zIy rfl rfl ?_|refine zJv rfl rfl rfl ?_|refine zIx rfl rfl ?_);(refine zIz fun Q_ hQ_=>?_;simp (disch:=first|omega|(simp only [List.length_cons,List.length_nil,List.length_append];omega)) only [bb,bp,zKx,↓reduceIte,reduceCtorEq,Nat.reduceEqDiff,Nat.reduceLT,Nat.reduceLeDiff,Nat.reduceAdd,Nat.reduceMul,Nat.reduceSub,Nat.reduceBEq,Int.reduceToNat,cond_true,cond_false,eq_self,beq_self_eq_true,g0,g1,g4,g5,g6,g7,hlen,hs1,hs2,zHz wf,zHx wf,zFz wf,zHy wf,zBx wf,zFy,tEvbT21,zHw,zQy,zAw wf];first|(refine zCy (Q:=Q_) (fun hp_=>?_) (fun hp_=>?_) <;> first|(exfalso;omega)|(refine hQ_ _ _ ?_;clear hQ_ Q_))|(refine zBy (Q:=Q_) (fun hp_=>?_) (fun hp_=>?_) <;> first|(exfalso;omega)|(refine hQ_ _ _ ?_;clear hQ_ Q_))|(refine hQ_ _ _ ?_;clear hQ_ Q_)))
  | (refine zFv fun K_ hK_=>?_;simp (disch:=omega) only [zFx,zAz,zGz,↓reduceIte,reduceCtorEq,Nat.reduceEqDiff,Nat.reduceLT];refine hK_ _ ?_;clear hK_ K_)))
      refine zJw _ _ rfl (retc0 (by decide) (by simp (disch:=first|omega|(simp only [List.length_cons,List.length_nil,List.length_append];omega)) only [bb,bp,zKx,↓reduceIte,reduceCtorEq,Nat.reduceEqDiff,Nat.reduceLT,Nat.reduceLeDiff,Nat.reduceAdd,Nat.reduceMul,Nat.reduceSub,Nat.reduceBEq,Int.reduceToNat,cond_true,cond_false,eq_self,beq_self_eq_true,g4,zFz wf,tEvbT21,zHw,zQy,zAw wf];rfl)) ?_
      refine zLx rfl (by omega) ?_
      exact ⟨q,hq,fun j hj=>hall j (zHv hj) hj,rfl,rfl⟩
  obtain ⟨r,h',e,q,hq,hall,rfl,rfl⟩:=main
  exact ⟨p,q,hp,hq,fun j hj=>⟨hfirst j hj,hall j hj⟩,e⟩
theorem eqnil22 {x y:Operand} {id:Pos} {off len esz:Nat} {c:Option Nat} : binE Tryd.prog .eql 22 x y (.sl id off len c esz) .nils=some (.bool false):=by
  have e:binE Tryd.prog .eql 22 x y (.sl id off len c esz) .nils=nilCmp .eql (nilEqE Tryd.prog 22 (.sl id off len c esz) .nils):=rfl
  rw [e]
  unfold nilEqE
  rw [yIw]
  rfl
theorem clone (sp:List (Int × Int)) (hn:1≤sp.length∧sp.length≤1000) (a:AV) (hca:Cape 2 a) (h:H) (wf:Wf h) (hs:Sl h a 2 sp.length (zKv sp)) :
    (om Tryd.prog KK).call (.fn 31 [a]) h = .ok (.sl (nx h 1) 0 sp.length none 2) (X h [.cells (zAy []) 35,.cells (zAy (zKv sp)) 35] h.w):=by
  have hsrc : ∀ l w,srcCells (X h l w) 2 (reszT Tryd.prog 22 a)=some (sp.length,zKv sp):=fun l w=>(hs.up wf l w).srcE (P:=Tryd.prog) hca yIw zRw
  have hnil : ∀ x y,binE Tryd.prog .eql 22 x y a .nils=some (.bool false):=fun x y=>by
    obtain ⟨_,⟨_,h0⟩|⟨_,_,_,_,_,_,rfl,_⟩⟩:=hs
    · exfalso;omega
    · exact eqnil22
  have ha1:oneB a=true∧AV.cells a=[a]:=by obtain ⟨_,⟨rfl,_⟩|⟨_,_,_,_,_,_,rfl,_⟩⟩:=hs <;> exact ⟨rfl,rfl⟩
  have rs22 : ∀ (id:Pos) (off len c esz:Nat),reszT Tryd.prog 22 (.sl id off len (some c) esz) = .sl id off len (some c) 2:=fun id off len c esz=>yAx yIw zRw
  have a1 : ∀ w,appendE Tryd.prog 22 (.sl (nx h 0) 0 0 (some 0) 2) (reszT Tryd.prog 22 a) (X h [.cells (zAy []) 35] w) = .ok (.sl (nx h 1) 0 sp.length none 2) (X h [.cells (zAy []) 35,.cells (zAy (zKv sp)) 35] w):=fun w=>
    yZz (P:=Tryd.prog) (l:=[.cells (zAy []) 35]) (k:=0) (w:=w) (t:=22) (old:=[]) (e':=35) wf yIw zRw el_35 (x:=reszT Tryd.prog 22 a) (n:=sp.length) (new:=zKv sp) (by omega) (by omega) (by decide) rfl (hsrc _ _) (zRy sp)
  refine zWv (zLv (fn:=Tryd.f31) Tryd.func31 rfl rfl rfl rfl rfl ?_)
  simp only [zKx]
  (repeat' (first
  | (with_reducible first|refine zJz ?_|refine zGw ?_|refine zEw ?_|refine zEx ?_|refine zEv ?_|refine zJy ?_|refine zGv ?_|refine zBw ?_|refine zDx ?_|refine zBv ?_|refine zCx ?_|refine zEz ?_|refine zCw ?_|refine zCz ?_|refine zBz ?_|refine zDv ?_|refine zDy ?_|refine zAx ?_|refine zAv ?_)
  | refine zCv ?_|refine zEy rfl ?_|refine zIw ?_|refine zIv ?_
  | ((first|refine zGx rfl rfl rfl rfl rfl fun K_ hK_=>?_|refine zGy rfl rfl rfl rfl rfl fun K_ hK_=>?_);simp only [zAz,zDz,zFw,↓reduceIte,reduceCtorEq,Nat.reduceEqDiff,Bool.not_true,Bool.not_false];refine hK_ _ ?_;clear hK_ K_)
  | refine zDw (by decide) ?_
  | ((try first|refine zJx rfl rfl rfl ?_|refine zIy rfl rfl ?_|refine zJv rfl rfl rfl ?_|refine zIx rfl rfl ?_);(refine zIz fun Q_ hQ_=>?_;simp (disch:=first|omega|(simp only [List.length_cons,List.length_nil,List.length_append];omega)) only [bb,bp,zKx,↓reduceIte,reduceCtorEq,Nat.reduceEqDiff,Nat.reduceLT,Nat.reduceLeDiff,Nat.reduceAdd,Nat.reduceMul,Nat.reduceSub,Nat.reduceBEq,Int.reduceToNat,cond_true,cond_false,eq_self,beq_self_eq_true,hnil,a1,rs22,ha1.1,ha1.2,zHz wf,zHx wf,zFz wf,zHy wf,zBx wf,zFy,tEvbT21,zHw,zQy,zAw wf];first|(refine zCy (Q:=Q_) (fun hp_=>?_) (fun hp_=>?_) <;> first|(exfalso;omega)|(refine hQ_ _ _ ?_;clear hQ_ Q_))|(refine zBy (Q:=Q_) (fun hp_=>?_) (fun hp_=>?_) <;> first|(exfalso;omega)|(refine hQ_ _ _ ?_;clear hQ_ Q_))|(refine hQ_ _ _ ?_;clear hQ_ Q_)))
  | (refine zFv fun K_ hK_=>?_;simp (disch:=omega) only [zFx,zAz,zGz,↓reduceIte,reduceCtorEq,Nat.reduceEqDiff,Nat.reduceLT];refine hK_ _ ?_;clear hK_ K_)))
  refine zJw _ _ rfl (ret1 (by decide)) ?_
  simp only [zAz,↓reduceIte,reduceCtorEq,Nat.reduceEqDiff]
  refine yCy (by
    show (_ && flat (.sl _ 0 _ none 2))=false
    exact Bool.and_false _) ⟨rfl,?_⟩
  rw [Nat.min_eq_left wf.wle]
theorem clear5 {h:H} (wf:Wf h) {L:List AO} {k w:Nat} {cs:List AV} {c:Option Nat} (hk:L[k]? = some (.cells (zAy cs) 4)) (hl:cs.length=5):clearE Tryd.prog 74 (.sl (nx h k) 0 5 c 1) (X h L w) = .ok (.tup []) (X h (L.set k (.cells (zAy (List.replicate 5 (.bool false))) 4)) (min (h.clock+k) w)):=by
  unfold clearE
  rw [un_74]
  dsimp only
  rw [ze_4]
  show RV.done (writeCells (nx h k) 0 [.bool false,.bool false,.bool false,.bool false,.bool false] (X h L w))=_
  rw [zBx wf,hk,zUz]
  rw [show allOne [AV.bool false,.bool false,.bool false,.bool false,.bool false]=true from rfl]
  dsimp only [cond]
  rw [if_pos (show 0+[AV.bool false,.bool false,.bool false,.bool false,.bool false].length≤cs.length by rw [hl];decide),yFv,List.take_zero,List.drop_of_length_le (by rw [hl];decide)]
  rfl
end Go.Proofs.YtkmdidplmfdikabDoor
end

section
namespace Go.Proofs.YtkmdidplmfdikabDoor
open Go.Ev
set_option maxRecDepth 100000
set_option linter.unusedSimpArgs false
set_option linter.unusedVariables false
set_option maxHeartbeats 4000000

theorem tEvbT22 :type_of% (And.intro (And.intro (And.intro (And.intro (And.intro (@zSz) (And.intro (@bs_35) (@bs_53))) (And.intro (And.intro (@bs_56) (@ia_2)) (And.intro (@sz_2) (@ze_2)))) (And.intro (And.intro (@ia_3) (And.intro (@sz_3) (@ze_3))) (And.intro (And.intro (@zTz) (@ia_4)) (And.intro (@sz_4) (@ze_4))))) (And.intro (And.intro (And.intro (@zUw) (And.intro (@zRw) (@zPw))) (And.intro (And.intro (@zVx) (@zUy)) (And.intro (@zVy) (@zXv)))) (And.intro (And.intro (And.intro (@zXw) (@ze_53)) (And.intro (@yFy) (@yEx))) (And.intro (And.intro (@xMv) (@zTy)) (And.intro (@zSv) (@zRv)))))) (And.intro (And.intro (And.intro (And.intro (@zXz) (And.intro (@zTw) (@ia_74))) (And.intro (And.intro (@sz_74) (@ze_74)) (And.intro (@ia_58) (@ia_76)))) (And.intro (And.intro (And.intro (@zVv) (@zVw)) (And.intro (@zPv) (@zMy))) (And.intro (And.intro (@zMz) (@zOz)) (And.intro (@zNv) (@zNw))))) (And.intro (And.intro (And.intro (@zOw) (And.intro (@zMv) (@zNz))) (And.intro (And.intro (@yPy) (@yCz)) (And.intro (@pb_21) (@yRy)))) (And.intro (And.intro (And.intro (@pb_32) (@pb_31)) (And.intro (@pb_33) (@pb_34))) (And.intro (And.intro (@pb_35) (@pb_36)) (And.intro (@pb_37) (@wBx))))))):=And.intro (And.intro (And.intro (And.intro (And.intro (@zSz) (And.intro (@bs_35) (@bs_53))) (And.intro (And.intro (@bs_56) (@ia_2)) (And.intro (@sz_2) (@ze_2)))) (And.intro (And.intro (@ia_3) (And.intro (@sz_3) (@ze_3))) (And.intro (And.intro (@zTz) (@ia_4)) (And.intro (@sz_4) (@ze_4))))) (And.intro (And.intro (And.intro (@zUw) (And.intro (@zRw) (@zPw))) (And.intro (And.intro (@zVx) (@zUy)) (And.intro (@zVy) (@zXv)))) (And.intro (And.intro (And.intro (@zXw) (@ze_53)) (And.intro (@yFy) (@yEx))) (And.intro (And.intro (@xMv) (@zTy)) (And.intro (@zSv) (@zRv)))))) (And.intro (And.intro (And.intro (And.intro (@zXz) (And.intro (@zTw) (@ia_74))) (And.intro (And.intro (@sz_74) (@ze_74)) (And.intro (@ia_58) (@ia_76)))) (And.intro (And.intro (And.intro (@zVv) (@zVw)) (And.intro (@zPv) (@zMy))) (And.intro (And.intro (@zMz) (@zOz)) (And.intro (@zNv) (@zNw))))) (And.intro (And.intro (And.intro (@zOw) (And.intro (@zMv) (@zNz))) (And.intro (And.intro (@yPy) (@yCz)) (And.intro (@pb_21) (@yRy)))) (And.intro (And.intro (And.intro (@pb_32) (@pb_31)) (And.intro (@pb_33) (@pb_34))) (And.intro (And.intro (@pb_35) (@pb_36)) (And.intro (@pb_37) (@wBx))))))
def Few (sp:List (Int × Int)) (ch:Int) (i:Nat) (y:Int):Prop:=∃ l,InR sp l∧Cost cntI l≤ch∧l[i]? = some y
def FewR (sp:List (Int × Int)) (ch:Int) (i:Nat) (r:Int × Int):Prop:=Few sp ch i r.1∧Few sp ch i r.2 ∧ ∀ y,Few sp ch i y→r.1≤y∧y≤r.2
def offS (x:Stt) (i:Nat):Int:=if i=x.i then x.b else x.a
def mark1 (sp:List (Int × Int)) (ch:Int) (i:Nat) (ms:List Bool) (p:Stt × Int):List Bool:=if p.2+dueS cntI sp p.1≤ch then ms.set (offS p.1 i - (spot sp i).1).toNat true else ms
theorem mark1_len {sp:List (Int × Int)} {ch:Int} {i:Nat} {ms:List Bool} {p:Stt × Int} : (mark1 sp ch i ms p).length=ms.length:=by unfold mark1;split <;> simp
theorem xUy {sp:List (Int × Int)} {ch:Int} {i:Nat} : ∀ (ps:List (Stt × Int)) (ms:List Bool),(ps.foldl (mark1 sp ch i) ms).length=ms.length
  | [],_=>rfl
  | p :: ps,ms=>by rw [List.foldl_cons,xUy ps,mark1_len]
theorem marks_mem {sp:List (Int × Int)} {ch:Int} {i j:Nat} : ∀ (ps:List (Stt × Int)) (ms:List Bool),j<ms.length→((ps.foldl (mark1 sp ch i) ms)[j]? = some true ↔ ms[j]? = some true ∨ ∃ p,p ∈ ps∧p.2+dueS cntI sp p.1≤ch∧(offS p.1 i - (spot sp i).1).toNat=j)
  | [],ms,_=>by simp
  | p :: ps,ms,hj=>by
    rw [List.foldl_cons,marks_mem ps _ (by rw [mark1_len];exact hj)]
    have h1:(mark1 sp ch i ms p)[j]? = some true ↔ ms[j]? = some true∨p.2+dueS cntI sp p.1≤ch∧(offS p.1 i - (spot sp i).1).toNat=j:=by
      unfold mark1
      by_cases hc:p.2+dueS cntI sp p.1≤ch
      · rw [if_pos hc]
        by_cases e:(offS p.1 i - (spot sp i).1).toNat=j
        · subst e
          rw [List.getElem?_set_self hj]
          simp [hc]
        · rw [List.getElem?_set_ne e]
          simp [e]
      · rw [if_neg hc];simp [hc]
    rw [h1]
    constructor
    · rintro ((h|h)|⟨q,hq,h⟩)
      · exact .inl h
      · exact .inr ⟨p,by simp,h⟩
      · exact .inr ⟨q,by simp [hq],h⟩
    · rintro (h|⟨q,hq,h⟩)
      · exact .inl (.inl h)
      · rcases List.mem_cons.1 hq with rfl|hq
        · exact .inl (.inr h)
        · exact .inr ⟨q,hq,h⟩
def marksAt (sp:List (Int × Int)) (ch:Int) (i:Nat):List Bool:=(reachL sp (max i 1) (paidT cntI sp)).foldl (mark1 sp ch i) (List.replicate 5 false)
theorem off_ok {sp:List (Int × Int)} (hsp:SpotsOK sp) {x:Stt} (hx:x.Ok sp) {i:Nat} (hi:x.i=max i 1):(spot sp i).1≤offS x i∧offS x i≤(spot sp i).2:=by
  obtain ⟨_,h3,h4,_⟩:=hx
  unfold offS
  by_cases e:i=x.i
  · rw [if_pos e,e];exact h4
  · rw [if_neg e]
    have:i=x.i - 1:=by omega
    rw [this];exact h3
theorem cnt_le (A:AV) (turn:Int) : ∀ (a b s c:Int),Off a→Off b→Off c→0≤cntI a b s c∧cntI a b s c≤5000000:=(countStep A turn).le
theorem marksAt_iff {sp:List (Int × Int)} (hsp:SpotsOK sp) {ch:Int} {i:Nat} (hi:i<sp.length) {j:Nat} (hj:j<5):(marksAt sp ch i)[j]? = some true ↔ Few sp ch i ((spot sp i).1+(j:Int)):=by
  have n2:=hsp.n2
  have P:=PD.last (pf:=cntI) hsp (cnt_le .nils 0)
  unfold marksAt
  rw [marks_mem _ _ (by simpa using hj)]
  have h0 : ¬ (List.replicate 5 false)[j]? = some true:=by
    rw [List.getElem?_replicate,if_pos hj];simp
  have hm1:1≤max i 1∧max i 1<sp.length:=by omega
  constructor
  · rintro (h|⟨p,hp,hc,he⟩)
    · exact absurd h h0
    · obtain ⟨k1,k2,k3,k4,k5⟩:=yGx P.wt hm1 hp
      have hr:=off_ok hsp k1 k2
      have k3':tb sp (paidT cntI sp) p.1=p.2:=k3.symm
      obtain ⟨l,l1,l2,l3,l4⟩:=through_ex hsp (cnt_le .nils 0) P k1 (by rw [k3'];exact k5)
      refine ⟨l,l1,?_,?_⟩
      · rw [l4,k3'];exact hc
      · rw [← he,show (spot sp i).1+((offS p.1 i - (spot sp i).1).toNat:Int)=offS p.1 i by omega]
        unfold offS
        by_cases e:i=p.1.i
        · rw [if_pos e,e];exact l3
        · rw [if_neg e]
          have:i=p.1.i - 1:=by omega
          rw [this];exact l2
  · rintro ⟨l,l1,l2,l3⟩
    right
    obtain ⟨x,x1,x2,x3,x4,x5,x6⟩:=through_le hsp (cnt_le .nils 0) P l1 hm1
    have hx:=P.reach hsp x1 (by omega) x5
    rw [x2] at hx
    refine ⟨_,hx,by show tb sp (paidT cntI sp) x+dueS cntI sp x≤ch;omega,?_⟩
    have:offS x i=(spot sp i).1+(j:Int):=by
      unfold offS
      by_cases e:i=x.i
      · rw [if_pos e]
        rw [show max i 1=i by omega,l3] at x4
        exact (Option.some.inj x4).symm
      · rw [if_neg e]
        rw [show max i 1 - 1=i by omega,l3] at x3
        exact (Option.some.inj x3).symm
    show (offS x i - _).toNat=j
    omega
theorem xCy {sp:List (Int × Int)} {ch:Int} {i:Nat} {y:Int} (h:Few sp ch i y):(spot sp i).1≤y∧y≤(spot sp i).2:=by
  obtain ⟨l,l1,_,l3⟩:=h
  exact xHz l1 l3
noncomputable def EB (E:List AO) (im:Nat) (ms:List Bool):List AO:=E.set im (.cells (zAy (ms.map bb')) 4)
theorem zZz (E:List AO) (im:Nat) (ms:List Bool):(EB E im ms).length=E.length:=List.length_set
theorem EB_self {E:List AO} {im:Nat} (h:im<E.length) (ms:List Bool):(EB E im ms)[im]? = some (.cells (zAy (ms.map bb')) 4):=List.getElem?_set_self h
theorem yPw {E:List AO} {im j:Nat} (h:im≠j) (ms:List Bool):(EB E im ms)[j]? = E[j]?:=List.getElem?_set_ne h
theorem xMw {E:List AO} {im:Nat} (h:im<E.length) (ms:List Bool) (F:List AO):EB E im ms++F=EB (E++F) im ms:=(List.set_append_left _ _ h).symm
theorem EB_set {E:List AO} {im j:Nat} (h:im≠j) (ms:List Bool) (o:AO):(EB E im ms).set j o=EB (E.set j o) im ms:=List.set_comm _ _ h
theorem EB_put (E:List AO) (im:Nat) (ms ms':List Bool):(EB E im ms).set im (.cells (zAy (ms'.map bb')) 4)=EB E im ms':=List.set_set _
theorem bi_clear {P:Program} {t:TypeId} {ty:TypeId} {x:AV} {h:H} : builtinE P .clear [t] ty [x] h=clearE P t x h:=rfl
theorem ix_93 {q:Pos} {n i:Nat} {c:Option Nat} (hi:i<n):indexAddrE Tryd.prog 74 (.sl q 0 n c 1) (.int .i64 (i:Int))=some (.ptr q i):=by
  rw [zSy,zTv];dsimp only;rw [ik_74];dsimp only;rw [zZy hi,Nat.zero_add,Nat.mul_one]
theorem fst_lt {ms:List Bool} {j:Nat} (h:ms[j]? = some true):fst' ms<ms.length:=by
  unfold fst'
  exact List.findIdx_lt_length_of_exists ⟨true,List.mem_of_getElem? h,rfl⟩
theorem xBy (sp:List (Int × Int)) (k:Nat) (x y:Int) (hk:k<sp.length):splice (zLz sp) (k * 2) [ii x,ii y]=zLz (sp.set k (x,y)):=by
  induction sp generalizing k with
  | nil=>simp at hk
  | cons r R ih=>
    cases k with
    | zero=>simp [zLz,yFv]
    | succ k=>
      have:=ih k (by simpa using hk)
      have e:(k+1) * 2=k * 2+1+1:=by omega
      rw [e]
      simp only [yFv,zLz,List.set_cons_succ,List.flatMap_cons,List.cons_append,List.nil_append,List.take_succ_cons,List.length_cons,List.length_nil,Nat.zero_add] at this ⊢
      rw [show k * 2+1+1+(1+1)=k * 2+(1+1)+1+1 from by omega,List.drop_succ_cons,List.drop_succ_cons,this]
theorem spread2 (sp:List (Int × Int)) (hsp:SpotsOK sp) (a:AV) (hca:Cape 2 a) (turn:Int) (hturn:0≤turn∧turn≤1000000) (ch:Int) (hch:0≤ch) (h:H) (wf:Wf h) (ht:TabF h) (hs:Sl h a 2 sp.length (zKv sp)) :
    WV ((om Tryd.prog KK).call (.fn 13 [.agg [a,ii turn],ii ch]) h) fun v h'=>(∃ (L:List AO) (k:Nat) (R:List (Int × Int)),v = .tup [.sl (nx h k) 0 sp.length none 2,ii 0]∧h'=X h L h.w∧L[k]? = some (.cells (zAy (zLz R)) 35)∧R.length=sp.length ∧ ∀ i,i<sp.length→FewR sp ch i (spot R i)) ∨
      (v = .tup [.nils,ii 17]∧h'=h ∧ ∀ l,InR sp l→ch<Cost cntI l):=by
  have n2:=hsp.n2
  have n24:=hsp.n24
  have hR0:spotsR sp turn=0:=by
    unfold spotsR;rw [if_neg (by omega),if_pos ⟨hsp.ok,hturn⟩]
  have S:=countStep a turn
  have hlen : ∀ h',lenE Tryd.prog 22 a h'=some (ii (sp.length:Int)):=fun h'=>hs.len yIw
  have ha1:oneB a=true∧AV.cells a=[a]:=by obtain ⟨_,⟨rfl,_⟩|⟨_,_,_,_,_,_,rfl,_⟩⟩:=hs <;> exact ⟨rfl,rfl⟩
  have hCS : ∀ l w,w≤h.clock+l.length→(om Tryd.prog KK).call (.fn 20 [.agg [a,ii turn]]) (X h l w) = .ok (ii 0) (X h l w):=fun l w hw=>by
    have:=CheckSpots sp turn a (by omega) _ (wf.X hw) (hs.up wf _ _)
    rw [hR0] at this;exact this
  have hcl:=clone sp (by omega) a hca (X h [.cells (zAy [a,ii turn]) 24,.cells (zAy [ii ch]) 3] h.clock) (wf.X (by omega)) (hs.up wf _ _)
  rw [X_X,nx_X,X_w] at hcl
  simp only [List.length_cons,List.length_nil,Nat.reduceAdd,List.cons_append,List.nil_append] at hcl
  obtain ⟨vp,hp',ep,Lp,kp,rfl,rfl,hkp⟩:=paid S sp hsp a turn (X h [.cells (zAy [a,ii turn]) 24,.cells (zAy [ii ch]) 3,.cells (zAy []) 35,.cells (zAy (zKv sp)) 35,.cells (zAy [a,ii turn]) 53] (h.clock+5)) (wf.X (by simp only [List.length_cons,List.length_nil];omega)) (ht.up wf _ _) (hs.up wf _ _)
  rw [X_X,nx_X,X_w] at ep
  simp only [List.length_cons,List.length_nil,Nat.reduceAdd,List.cons_append,List.nil_append] at ep
  obtain ⟨vd,hd',ed,Ld,kd,Td,rfl,rfl,hkd,hTdl,hTdb,hTd⟩:=due S sp hsp a turn (X h (.cells (zAy [a,ii turn]) 24 :: .cells (zAy [ii ch]) 3 :: .cells (zAy []) 35 :: .cells (zAy (zKv sp)) 35 :: .cells (zAy [a,ii turn]) 53 :: Lp) (h.clock+(Lp.length+5))) (wf.X (by simp only [List.length_cons];omega)) (ht.up wf _ _) (hs.up wf _ _)
  rw [X_X,nx_X,X_w] at ed
  simp only [List.length_cons,List.length_nil,Nat.reduceAdd,List.cons_append,List.nil_append] at ed
  refine zLv (fn:=Tryd.f13) Tryd.func13 rfl rfl rfl rfl rfl ?_
  simp only [zKx]
  unfold prv at ep ed
  (repeat' (first
  | (with_reducible first|refine zJz ?_|refine zGw ?_|refine zEw ?_|refine zEx ?_|refine zEv ?_|refine zJy ?_|refine zGv ?_|refine zBw ?_|refine zDx ?_|refine zBv ?_|refine zCx ?_|refine zEz ?_|refine zCw ?_|refine zCz ?_|refine zBz ?_|refine zDv ?_|refine zDy ?_|refine zAx ?_|refine zAv ?_)
  | refine zCv ?_|refine zEy rfl ?_|refine zIw ?_|refine zIv ?_
  | ((first|refine zGx rfl rfl rfl rfl rfl fun K_ hK_=>?_|refine zGy rfl rfl rfl rfl rfl fun K_ hK_=>?_);simp only [zAz,zDz,zFw,↓reduceIte,reduceCtorEq,Nat.reduceEqDiff,Bool.not_true,Bool.not_false];refine hK_ _ ?_;clear hK_ K_)
  | refine zDw (by decide) ?_
  | ((try first|refine zJx rfl rfl rfl ?_|refine zIy rfl rfl ?_|refine zJv rfl rfl rfl ?_|refine zIx rfl rfl ?_);(refine zIz fun Q_ hQ_=>?_;simp (disch:=first|omega|(simp only [List.length_cons,List.length_nil,List.length_append];omega)) only [bb,bp,zKx,↓reduceIte,reduceCtorEq,Nat.reduceEqDiff,Nat.reduceLT,Nat.reduceLeDiff,Nat.reduceAdd,Nat.reduceMul,Nat.reduceSub,Nat.reduceBEq,Int.reduceToNat,cond_true,cond_false,eq_self,beq_self_eq_true,hCS,hlen,hcl,ha1.1,ha1.2,zHz wf,zHx wf,zFz wf,zHy wf,zBx wf,zFy,tEvbT22,zHw,zQy,zAw wf];first|(refine zCy (Q:=Q_) (fun hp_=>?_) (fun hp_=>?_) <;> first|(exfalso;omega)|(refine hQ_ _ _ ?_;clear hQ_ Q_))|(refine zBy (Q:=Q_) (fun hp_=>?_) (fun hp_=>?_) <;> first|(exfalso;omega)|(refine hQ_ _ _ ?_;clear hQ_ Q_))|(refine hQ_ _ _ ?_;clear hQ_ Q_)))
  | (refine zFv fun K_ hK_=>?_;simp (disch:=omega) only [zFx,zAz,zGz,↓reduceIte,reduceCtorEq,Nat.reduceEqDiff,Nat.reduceLT];refine hK_ _ ?_;clear hK_ K_)))
  refine zMw [.no,.no,.no,.no,.no,.no,.no,.no,.no,.no,.full,.full] (by kernel_rfl) ?_
  have hms : ∀ l w,makeSliceE Tryd.prog 74 (.int .i64 5) (.int .i64 5) (X h l w) = .ok (.sl (nx h l.length) 0 5 (some 5) 1) (X h (l++[.cells (zAy (List.replicate 5 (.bool false))) 4]) w):=fun l w=>makeSlice_X (n:=5) wf un_74 sz_4 el_4 (by decide) (by decide) rfl
  (repeat' (first
  | (with_reducible first|refine zJz ?_|refine zGw ?_|refine zEw ?_|refine zEx ?_|refine zEv ?_|refine zJy ?_|refine zGv ?_|refine zBw ?_|refine zDx ?_|refine zBv ?_|refine zCx ?_|refine zEz ?_|refine zCw ?_|refine zCz ?_|refine zBz ?_|refine zDv ?_|refine zDy ?_|refine zAx ?_|refine zAv ?_)
  | refine zCv ?_|refine zEy rfl ?_|refine zIw ?_|refine zIv ?_
  | ((first|refine zGx rfl rfl rfl rfl rfl fun K_ hK_=>?_|refine zGy rfl rfl rfl rfl rfl fun K_ hK_=>?_);simp only [zAz,zDz,zFw,↓reduceIte,reduceCtorEq,Nat.reduceEqDiff,Bool.not_true,Bool.not_false];refine hK_ _ ?_;clear hK_ K_)
  | refine zDw (by decide) ?_
  | ((try first|refine zJx rfl rfl rfl ?_|refine zIy rfl rfl ?_|refine zJv rfl rfl rfl ?_|refine zIx rfl rfl ?_);(refine zIz fun Q_ hQ_=>?_;simp (disch:=first|omega|(simp only [List.length_cons,List.length_nil,List.length_append];omega)) only [bb,bp,zKx,↓reduceIte,reduceCtorEq,Nat.reduceEqDiff,Nat.reduceLT,Nat.reduceLeDiff,Nat.reduceAdd,Nat.reduceMul,Nat.reduceSub,Nat.reduceBEq,Int.reduceToNat,cond_true,cond_false,eq_self,beq_self_eq_true,ep,ed,hms,hlen,ha1.1,ha1.2,zHz wf,zHx wf,zFz wf,zHy wf,zBx wf,zFy,tEvbT22,zHw,zQy,zAw wf];first|(refine zCy (Q:=Q_) (fun hp_=>?_) (fun hp_=>?_) <;> first|(exfalso;omega)|(refine hQ_ _ _ ?_;clear hQ_ Q_))|(refine zBy (Q:=Q_) (fun hp_=>?_) (fun hp_=>?_) <;> first|(exfalso;omega)|(refine hQ_ _ _ ?_;clear hQ_ Q_))|(refine hQ_ _ _ ?_;clear hQ_ Q_)))
  | (refine zFv fun K_ hK_=>?_;simp (disch:=omega) only [zFx,zAz,zGz,↓reduceIte,reduceCtorEq,Nat.reduceEqDiff,Nat.reduceLT];refine hK_ _ ?_;clear hK_ K_)))
  have hkpl:=zHv hkp
  have hkdl:=zHv hkd
  obtain ⟨E0,hE0⟩ : ∃ E0,E0=AO.cells (zAy [a,ii turn]) 24 :: .cells (zAy [ii ch]) 3 :: .cells (zAy []) 35 :: .cells (zAy (zKv sp)) 35 :: .cells (zAy [a,ii turn]) 53 :: (Lp++(Ld++[.cells (zAy [a,ii turn,.sl (nx h (5+kp)) 0 (sp.length - 1) (some (sp.length - 1)) 75]) 56,.cells (zAy [a,ii turn,.sl (nx h (Lp.length+1+1+1+1+1+kd)) 0 (sp.length - 1) (some (sp.length - 1)) 75]) 56,.cells (zAy (List.replicate 5 (.bool false))) 4,.cells (zAy [.sl (nx h (Lp.length+(Ld.length+2)+1+1+1+1+1)) 0 5 (some 5) 1]) 74])):=⟨_,rfl⟩
  have z0:E0[0]? = some (.cells (zAy [a,ii turn]) 24):=by rw [hE0];rfl
  have z1:E0[1]? = some (.cells (zAy [ii ch]) 3):=by rw [hE0];rfl
  have z3:E0[3]? = some (.cells (zAy (zLz sp)) 35):=by rw [hE0];rfl
  have zkp:E0[5+kp]? = some (.cells (zAy ((paidT cntI sp).map ii)) 98):=by
    rw [hE0,show 5+kp=kp+1+1+1+1+1 by omega]
    simp only [List.getElem?_cons_succ]
    rw [List.getElem?_append_left hkpl];exact hkp
  have zkd:E0[Lp.length+1+1+1+1+1+kd]? = some (.cells (zAy (Td.map ii)) 98):=by
    rw [hE0,show Lp.length+1+1+1+1+1+kd=Lp.length+kd+1+1+1+1+1 by omega]
    simp only [List.getElem?_cons_succ,zLw]
    rw [List.getElem?_append_left hkdl];exact hkd
  have z9:E0[Lp.length+Ld.length+1+1+1+1+1]? = some (.cells (zAy [a,ii turn,.sl (nx h (5+kp)) 0 (sp.length - 1) (some (sp.length - 1)) 75]) 56):=by
    rw [hE0];simp only [List.getElem?_cons_succ,zLw,zNx,List.getElem?_cons_zero]
  have z10:E0[Lp.length+(Ld.length+1)+1+1+1+1+1]? = some (.cells (zAy [a,ii turn,.sl (nx h (Lp.length+1+1+1+1+1+kd)) 0 (sp.length - 1) (some (sp.length - 1)) 75]) 56):=by
    rw [hE0];simp only [List.getElem?_cons_succ,zLw,zNx,List.getElem?_cons_zero]
  have zm:E0[Lp.length+(Ld.length+2)+1+1+1+1+1]? = some (.cells (zAy ((List.replicate 5 false).map bb')) 4):=by
    rw [hE0];simp only [List.getElem?_cons_succ,zLw,zNx,List.getElem?_cons_zero];rfl
  have z11:E0[Lp.length+(Ld.length+3)+1+1+1+1+1]? = some (.cells (zAy [.sl (nx h (Lp.length+(Ld.length+2)+1+1+1+1+1)) 0 5 (some 5) 1]) 74):=by
    rw [hE0];simp only [List.getElem?_cons_succ,zLw,zNx,List.getElem?_cons_zero]
  rw [← hE0]
  clear hE0 hkp hkd ep ed hcl hms
  generalize hkpe:5+kp=ikp at *
  generalize hkde:Lp.length+1+1+1+1+1+kd=ikd at *
  generalize h11:Lp.length+(Ld.length+3)+1+1+1+1+1=i11 at *
  generalize hm:Lp.length+(Ld.length+2)+1+1+1+1+1=im at *
  generalize h10:Lp.length+(Ld.length+1)+1+1+1+1+1=i10 at *
  generalize h9:Lp.length+Ld.length+1+1+1+1+1=i9 at *
  refine zVz (fun (k:Nat) f d h'=>k≤sp.length∧(f 2 = .ptr (nx h 0) 0∧f 3 = .ptr (nx h 1) 0∧f 7 = .sl (nx h 3) 0 sp.length none 2∧f 9 = .ptr (nx h i9) 0∧f 10 = .ptr (nx h i10) 0∧f 11 = .ptr (nx h i11) 0∧f 43=a∧f 44=ii (sp.length:Int))∧f 45=ii (k:Int) ∧ ∃ (E:List AO) (w:Nat) (ks:List Nat) (R:List (Int × Int)) (ms:List Bool),d=ks.map (nx h)∧h'=X h E w∧(E[0]? = some (.cells (zAy [a,ii turn]) 24)∧E[1]? = some (.cells (zAy [ii ch]) 3)∧E[3]? = some (.cells (zAy (zLz R)) 35)∧E[ikp]? = some (.cells (zAy ((paidT cntI sp).map ii)) 98)∧E[ikd]? = some (.cells (zAy (Td.map ii)) 98)∧E[i9]? = some (.cells (zAy [a,ii turn,.sl (nx h ikp) 0 (sp.length - 1) (some (sp.length - 1)) 75]) 56)∧E[i10]? = some (.cells (zAy [a,ii turn,.sl (nx h ikd) 0 (sp.length - 1) (some (sp.length - 1)) 75]) 56)∧E[im]? = some (.cells (zAy (ms.map bb')) 4)∧E[i11]? = some (.cells (zAy [.sl (nx h im) 0 5 (some 5) 1]) 74))∧(R.length=sp.length ∧ ∀ j,j<k→FewR sp ch j (spot R j))∧ms.length=5∧ks.Nodup∧(∀ j ∈ ks,E[j]? = some .dfr)∧h.clock≤w∧w≤h.clock+E.length) (fun k=>sp.length - k) ?_ (sp.length+1) 0 (by omega) ?_
  rotate_left 1
  · exact ⟨by omega,⟨by simp only [zAz,↓reduceIte,reduceCtorEq,Nat.reduceEqDiff],by simp only [zAz,↓reduceIte,reduceCtorEq,Nat.reduceEqDiff],by simp only [zAz,↓reduceIte,reduceCtorEq,Nat.reduceEqDiff],by simp only [zAz,↓reduceIte,reduceCtorEq,Nat.reduceEqDiff],by simp only [zAz,↓reduceIte,reduceCtorEq,Nat.reduceEqDiff],by simp only [zAz,↓reduceIte,reduceCtorEq,Nat.reduceEqDiff],by simp only [zAz,↓reduceIte,reduceCtorEq,Nat.reduceEqDiff],by simp only [zAz,↓reduceIte,reduceCtorEq,Nat.reduceEqDiff]⟩,by (try simp only [zAz,↓reduceIte,reduceCtorEq,Nat.reduceEqDiff]) <;> rfl,E0,_,[],sp,List.replicate 5 false,rfl,rfl,⟨z0,z1,z3,zkp,zkd,z9,z10,zm,z11⟩,⟨rfl,fun j hj=>absurd hj (Nat.not_lt_zero _)⟩,rfl,by simp,fun j hj=>by simp at hj,Nat.le_refl _,by omega⟩
  clear z0 z1 z3 zkp zkd z9 z10 zm z11
  rintro k f d h' ⟨hk,⟨g2,g3,g7,g9,g10,g11,g43,g44⟩,g45,E,w,ks,R,ms,rfl,rfl,⟨z0,z1,z3,zkp,zkd,z9,z10,zm,z11⟩,⟨hRl,hR⟩,hml,hks,hkd,hw1,hw2⟩
  have l0:=zHv z0
  have l11:=zHv z11
  by_cases hlt:k<sp.length
  · obtain ⟨id0,off0,hix0,hld0⟩:=hs.at wf hlt yLz
    have hr0 : ∀ l w,loadAgg id0 off0 (some 2) (X h l w)=some (.agg [ii (spot sp k).1,ii (spot sp k).2]):=fun l w=>by rw [(hld0 l w).2,zWx hlt,zPz hlt]
    obtain ⟨⟨o1,o2⟩,⟨o3,o4⟩,o5,o6⟩:=hsp.at hlt
    have q11 : ∀ F,(E++F)[i11]? = some (.cells (zAy [.sl (nx h im) 0 5 (some 5) 1]) 74):=fun F=>by rw [List.getElem?_append_left l11];exact z11
    have hclr : ∀ (F:List AO) w,clearE Tryd.prog 74 (.sl (nx h im) 0 5 (some 5) 1) (X h (E++F) w) = .ok (.tup []) (X h (EB (E++F) im (List.replicate 5 false)) (min (h.clock+im) w)):=fun F w=>by
      rw [clear5 wf (cs:=ms.map bb') (by rw [List.getElem?_append_left (zHv zm)];exact zm) (by rw [List.length_map,hml])]
      unfold EB
      rw [List.map_replicate]
    obtain ⟨F1,hF1⟩ : ∃ F1,F1=E++[AO.cells (zAy [.int .i64 (k:Int)]) 3,.cells (zAy [ii (spot sp k).1,ii (spot sp k).2]) 35]:=⟨_,rfl⟩
    have Fl:F1.length=E.length+2:=by rw [hF1];simp only [List.length_append,List.length_cons,List.length_nil]
    have FE : ∀ (j:Nat) ob,E[j]? = some ob→F1[j]? = some ob:=fun j ob hg=>by rw [hF1,List.getElem?_append_left (zHv hg)];exact hg
    have Fk:F1[E.length]? = some (.cells (zAy [ii (k:Int)]) 3):=by rw [hF1,zNx];rfl
    have Fr:F1[E.length+1]? = some (.cells (zAy [ii (spot sp k).1,ii (spot sp k).2]) 35):=by rw [hF1,zLw];rfl
    have lim:=zHv zm
    have n9:i9≠im:=fun e=>by rw [e,zm] at z9;injection z9 with z9;injection z9 with _ z9;exact absurd z9 (by decide)
    have hmx:max (k:Int) 1=((max k 1:Nat):Int):=by omega
    have hkm:1≤max k 1∧max k 1<sp.length:=by omega
    have hclr' : ∀ w,clearE Tryd.prog 74 (.sl (nx h im) 0 5 (some 5) 1) (X h (E++[AO.cells (zAy [.int .i64 (k:Int)]) 3,.cells (zAy [ii (spot sp k).1,ii (spot sp k).2]) 35]) w) = .ok (.tup []) (X h (EB F1 im (List.replicate 5 false)) (min (h.clock+im) w)):=fun w=>by rw [hF1];exact hclr _ w
    have r9:(EB F1 im (List.replicate 5 false))[i9]? = some (.cells (zAy [a,ii turn,.sl (nx h ikp) 0 (sp.length - 1) (some (sp.length - 1)) 75]) 56):=by rw [yPw (by omega)];exact FE _ _ z9
    have r12:(EB F1 im (List.replicate 5 false))[E.length]? = some (.cells (zAy [ii (k:Int)]) 3):=by rw [yPw (by omega)];exact Fk
    have hrd:=reached a turn ((max k 1:Nat):Int) (nx h ikp) (sp.length - 1) h wf (EB F1 im (List.replicate 5 false)) (min (h.clock+im) (min (h.clock+(E.length+1)) (min (h.clock+E.length) w))) (by rw [zZz];omega)
    rw [zZz] at hrd
    unfold prv at hrd
    (repeat' (first
  | (with_reducible first|refine zJz ?_|refine zGw ?_|refine zEw ?_|refine zEx ?_|refine zEv ?_|refine zJy ?_|refine zGv ?_|refine zBw ?_|refine zDx ?_|refine zBv ?_|refine zCx ?_|refine zEz ?_|refine zCw ?_|refine zCz ?_|refine zBz ?_|refine zDv ?_|refine zDy ?_|refine zAx ?_|refine zAv ?_)
  | refine zCv ?_|refine zEy rfl ?_|refine zIw ?_|refine zIv ?_
  | ((first|refine zGx rfl rfl rfl rfl rfl fun K_ hK_=>?_|refine zGy rfl rfl rfl rfl rfl fun K_ hK_=>?_);simp only [zAz,zDz,zFw,↓reduceIte,reduceCtorEq,Nat.reduceEqDiff,Bool.not_true,Bool.not_false];refine hK_ _ ?_;clear hK_ K_)
  | refine zDw (by decide) ?_
  | ((try first|refine zJx rfl rfl rfl ?_|refine zIy rfl rfl ?_|refine zJv rfl rfl rfl ?_|refine zIx rfl rfl ?_);(refine zIz fun Q_ hQ_=>?_;simp (disch:=first|omega|(simp only [List.length_cons,List.length_nil,List.length_append];omega)) only [bb,bp,zKx,↓reduceIte,reduceCtorEq,Nat.reduceEqDiff,Nat.reduceLT,Nat.reduceLeDiff,Nat.reduceAdd,Nat.reduceMul,Nat.reduceSub,Nat.reduceBEq,Int.reduceToNat,cond_true,cond_false,eq_self,beq_self_eq_true,g2,g3,g7,g9,g10,g11,g43,g44,g45,hix0,hr0,q11,bi_clear,hclr',r9,r12,hmx,hrd,zHz wf,zHx wf,zFz wf,zHy wf,zBx wf,tEvbT22,zHw,zQy,zAw wf];first|(refine zCy (Q:=Q_) (fun hp_=>?_) (fun hp_=>?_) <;> first|(exfalso;omega)|(refine hQ_ _ _ ?_;clear hQ_ Q_))|(refine zBy (Q:=Q_) (fun hp_=>?_) (fun hp_=>?_) <;> first|(exfalso;omega)|(refine hQ_ _ _ ?_;clear hQ_ Q_))|(refine hQ_ _ _ ?_;clear hQ_ Q_)))
  | (refine zFv fun K_ hK_=>?_;simp (disch:=omega) only [zFx,zAz,zGz,↓reduceIte,reduceCtorEq,Nat.reduceEqDiff,Nat.reduceLT];refine hK_ _ ?_;clear hK_ K_)))
    generalize hwB:min (h.clock+im) (min (h.clock+(E.length+1)) (min (h.clock+E.length) w))=wB
    have hwB1:h.clock≤wB∧wB≤h.clock+E.length:=by omega
    rw [xMw (by omega)]
    refine yBv wf rfl (zFx (by decide)) fun o ho=>?_
    simp only [zAz,↓reduceIte,reduceCtorEq,Nat.reduceEqDiff] at ho ⊢
    rw [zZz,xMw (by rw [List.length_append];omega)]
    simp only [List.length_append,List.length_cons,List.length_nil,List.append_assoc,List.cons_append,List.nil_append,Nat.zero_add,Nat.reduceAdd]
    obtain ⟨E2,hE2⟩ : ∃ E2,E2=F1++[AO.cells (zAy [a,ii turn,.sl (nx h ikp) 0 (sp.length - 1) (some (sp.length - 1)) 75]) 56,.cells (zAy [ii ((max k 1:Nat):Int)]) 3,.dfr,o]:=⟨_,rfl⟩
    rw [← hE2]
    have El:E2.length=F1.length+4:=by rw [hE2];simp only [List.length_append,List.length_cons,List.length_nil]
    have Ed:E2[F1.length+2]? = some .dfr:=by rw [hE2,zLw];rfl
    have Eo:E2[F1.length+2+1]? = some o:=by rw [hE2,Nat.add_assoc,zLw];rfl
    have Erp:E2[F1.length]? = some (.cells (zAy [a,ii turn,.sl (nx h ikp) 0 (sp.length - 1) (some (sp.length - 1)) 75]) 56):=by rw [hE2,zNx];rfl
    have Eri:E2[F1.length+1]? = some (.cells (zAy [ii ((max k 1:Nat):Int)]) 3):=by rw [hE2,zLw];rfl
    have EF : ∀ (j:Nat) ob,F1[j]? = some ob→E2[j]? = some ob:=fun j ob hg=>by rw [hE2,List.getElem?_append_left (zHv hg)];exact hg
    have P:=PD.last (pf:=cntI) hsp (cnt_le .nils 0)
    have hne:=P.ne hsp (i:=max k 1) ⟨hkm.1,by omega,hkm.2⟩
    have nkp:ikp≠im:=fun e=>by rw [e,zm] at zkp;injection zkp with zkp;injection zkp with _ zkp;exact absurd zkp (by decide)
    have nkd:ikd≠im:=fun e=>by rw [e,zm] at zkd;injection zkd with zkd;injection zkd with _ zkd;exact absurd zkd (by decide)
    have n10:i10≠im:=fun e=>by rw [e,zm] at z10;injection z10 with z10;injection z10 with _ z10;exact absurd z10 (by decide)
    have n11:i11≠im:=fun e=>by rw [e,zm] at z11;injection z11 with z11;injection z11 with _ z11;exact absurd z11 (by decide)
    have n0:0≠im:=fun e=>by rw [← e,z0] at zm;injection zm with zm;injection zm with _ zm;exact absurd zm (by decide)
    have n1':1≠im:=fun e=>by rw [← e,z1] at zm;injection zm with zm;injection zm with _ zm;exact absurd zm (by decide)
    have n3:3≠im:=fun e=>by rw [← e,z3] at zm;injection zm with zm;injection zm with _ zm;exact absurd zm (by decide)
    clear hE2 hrd hclr hclr' r9 r12
    refine WV.mono (reached1 (nx h F1.length) (nx h (F1.length+1)) (nx h ikp) a (max k 1) sp hsp hkm (paidT cntI sp) P.wt.len hne (nx h (F1.length+2+1)) _ (fun m hx=>∃ w0,hx=X h (EB E2 im (((reachL sp (max k 1) (paidT cntI sp)).take m).foldl (mark1 sp ch k) (List.replicate 5 false))) w0∧w0≤h.clock+E2.length) (fun _=>False) h.clock (fun _=>h.clock+E2.length) (h.clock+E2.length) (by simp only [X_w];omega) (by simp only [X_w,zQx,zZz];omega) (fun _=>by simp only [zQx,zZz];omega) (by simp only [zQx,zZz];omega) ?_ (fun _ h=>h.elim) ?_ ⟨wB,by rw [List.take_zero];rfl,by omega⟩ ?_) ?_
    · rintro m hx ⟨w0,rfl,hw0⟩
      refine ⟨RcIn.of wf (turn:=turn) (by rw [zZz];exact hw0) ?_ ?_ hs ht,Same.X (by simp only [zZz])⟩
      · rw [yPw (by omega)];exact Erp
      · rw [yPw (by omega)];exact Eri
    · rintro m x hx hbx J w1 ⟨w0,rfl,hw0⟩ hlo hw
      unfold ylds at hx
      rw [List.getElem?_map] at hx
      obtain ⟨p,hp1,rfl⟩:=Option.map_eq_some_iff.1 hx
      have hm:=zHv hp1
      have hpm:(reachL sp (max k 1) (paidT cntI sp))[m]=p:=by rw [List.getElem?_eq_getElem hm] at hp1;exact Option.some.inj hp1
      obtain ⟨pok,pi,_,pn0,pn1⟩:=yGx P.wt hkm (List.mem_of_getElem? hp1)
      have hnext:((reachL sp (max k 1) (paidT cntI sp)).take (m+1)).foldl (mark1 sp ch k) (List.replicate 5 false)=mark1 sp ch k (((reachL sp (max k 1) (paidT cntI sp)).take m).foldl (mark1 sp ch k) (List.replicate 5 false)) p:=by
        rw [List.take_succ_eq_append_getElem hm,hpm,List.foldl_append];rfl
      rw [hnext]
      have hMl:(((reachL sp (max k 1) (paidT cntI sp)).take m).foldl (mark1 sp ch k) (List.replicate 5 false)).length=5:=by rw [xUy];simp
      generalize ((reachL sp (max k 1) (paidT cntI sp)).take m).foldl (mark1 sp ch k) (List.replicate 5 false)=Tm at *
      have hw':w1≤h.clock+E2.length+J.length:=by simp only [zQx,zZz] at hw;omega
      rw [X_X,xMw (by omega)]
      refine yIy wf (k:=F1.length+2+1) (o:=o) (by rw [yPw (by omega),List.getElem?_append_left (by omega)];exact Eo) ho (setParams2 rfl rfl) ?_
      obtain ⟨⟨x,n⟩,rfl⟩ : ∃ q:Stt × Int,q=p:=⟨p,rfl⟩
      dsimp only at pok pi pn0 pn1 ⊢
      have hdx:=dueS_in S hsp pok
      have hox:=off_ok hsp pok pi
      have hfar:farI=1099511627776:=rfl
      have hn0:(EB (E2++J) im Tm).length=F1.length+(J.length+4):=by rw [zZz,List.length_append];omega
      unfold stv
      (repeat' (first
  | (with_reducible first|refine zJz ?_|refine zGw ?_|refine zEw ?_|refine zEx ?_|refine zEv ?_|refine zJy ?_|refine zGv ?_|refine zBw ?_|refine zDx ?_|refine zBv ?_|refine zCx ?_|refine zEz ?_|refine zCw ?_|refine zCz ?_|refine zBz ?_|refine zDv ?_|refine zDy ?_|refine zAx ?_|refine zAv ?_)
  | refine zCv ?_|refine zEy rfl ?_|refine zIw ?_|refine zIv ?_
  | ((first|refine zGx rfl rfl rfl rfl rfl fun K_ hK_=>?_|refine zGy rfl rfl rfl rfl rfl fun K_ hK_=>?_);simp only [zAz,zDz,zFw,↓reduceIte,reduceCtorEq,Nat.reduceEqDiff,Bool.not_true,Bool.not_false];refine hK_ _ ?_;clear hK_ K_)
  | refine zDw (by decide) ?_
  | ((try first|refine zJx rfl rfl rfl ?_|refine zIy rfl rfl ?_|refine zJv rfl rfl rfl ?_|refine zIx rfl rfl ?_);(refine zIz fun Q_ hQ_=>?_;simp (disch:=first|omega|(simp only [List.length_cons,List.length_nil,List.length_append];omega)) only [bb,bp,zKx,↓reduceIte,reduceCtorEq,Nat.reduceEqDiff,Nat.reduceLT,Nat.reduceLeDiff,Nat.reduceAdd,Nat.reduceMul,Nat.reduceSub,Nat.reduceBEq,Int.reduceToNat,cond_true,cond_false,eq_self,beq_self_eq_true,zHz wf,zHx wf,zFz wf,zHy wf,zBx wf,zFy,tEvbT22,zHw,zQy,zAw wf];first|(refine zCy (Q:=Q_) (fun hp_=>?_) (fun hp_=>?_) <;> first|(exfalso;omega)|(refine hQ_ _ _ ?_;clear hQ_ Q_))|(refine zBy (Q:=Q_) (fun hp_=>?_) (fun hp_=>?_) <;> first|(exfalso;omega)|(refine hQ_ _ _ ?_;clear hQ_ Q_))|(refine hQ_ _ _ ?_;clear hQ_ Q_)))
  | (refine zFv fun K_ hK_=>?_;simp (disch:=omega) only [zFx,zAz,zGz,↓reduceIte,reduceCtorEq,Nat.reduceEqDiff,Nat.reduceLT];refine hK_ _ ?_;clear hK_ K_)))
      rw [hn0]
      refine yPv wf (k:=F1.length+2+1) (o:=o) (by rw [List.getElem?_append_left (by omega),yPw (by omega),List.getElem?_append_left (by omega)];exact Eo) ho fun o' ho'=>?_
      rw [List.set_append_left _ _ (by omega),EB_set (by omega)]
      obtain ⟨F,hF⟩ : ∃ F,F=(E2++J).set (F1.length+2+1) o':=⟨_,rfl⟩
      rw [← hF]
      have Fl2:F.length=F1.length+(J.length+4):=by rw [hF,List.length_set,List.length_append];omega
      have FF : ∀ (j:Nat) ob,F1[j]? = some ob→F[j]? = some ob:=fun j ob hg=>by
        have:=zHv hg
        rw [hF,List.getElem?_set_ne (by omega),List.getElem?_append_left (by omega)];exact EF j ob hg
      have Fo:F[F1.length+2+1]? = some o':=by rw [hF,List.getElem?_set_self (by rw [List.length_append];omega)]
      have bl:(EB F im Tm).length=F1.length+(J.length+4):=by rw [zZz,Fl2]
      have bg : ∀ (j:Nat) ob (R:List AO),j≠im→F1[j]? = some ob→(EB F im Tm++R)[j]? = some ob:=fun j ob R hj hg=>by
        have:=zHv hg
        rw [List.getElem?_append_left (by omega),yPw (by omega)];exact FF j ob hg
      have b1 : ∀ R,(EB F im Tm++R)[1]? = some (.cells (zAy [ii ch]) 3):=fun R=>bg _ _ R (by omega) (FE _ _ z1)
      have b10 : ∀ R,(EB F im Tm++R)[i10]? = some (.cells (zAy [a,ii turn,.sl (nx h ikd) 0 (sp.length - 1) (some (sp.length - 1)) 75]) 56):=fun R=>bg _ _ R n10 (FE _ _ z10)
      have b11 : ∀ R,(EB F im Tm++R)[i11]? = some (.cells (zAy [.sl (nx h im) 0 5 (some 5) 1]) 74):=fun R=>bg _ _ R n11 (FE _ _ z11)
      have b12 : ∀ R,(EB F im Tm++R)[E.length]? = some (.cells (zAy [ii (k:Int)]) 3):=fun R=>bg _ _ R (by omega) Fk
      have b13 : ∀ R,(EB F im Tm++R)[E.length+1]? = some (.cells (zAy [ii (spot sp k).1,ii (spot sp k).2]) 35):=fun R=>bg _ _ R (by omega) Fr
      have bx : ∀ ob R,(EB F im Tm++ob :: R)[F1.length+(J.length+4)]? = some ob:=fun ob R=>by rw [← bl,zNx];rfl
      have hat : ∀ R w,w≤h.clock+((EB F im Tm).length+R.length)→(om Tryd.prog KK).call (.fn 25 [prv a turn (nx h ikd) (sp.length - 1),stv x]) (X h (EB F im Tm++R) w) = .ok (ii (dueS cntI sp x)) (X h (EB F im Tm++R) w):=fun R w hw=>by
        rw [← hTd x pok]
        exact at_ sp hsp a turn (nx h ikd) Td hTdl x pok _ (wf.X (by rw [List.length_append];exact hw)) (hs.up wf _ _) (TabIn.of wf (bg _ _ R nkd (FE _ _ zkd)))
      have hoff : ∀ R w,w≤h.clock+((EB F im Tm).length+R.length)→(om Tryd.prog KK).call (.fn 35 [stv x,ii (k:Int)]) (X h (EB F im Tm++R) w) = .ok (ii (offS x k)) (X h (EB F im Tm++R) w):=fun R w hw=>offset x k _ (wf.X (by rw [List.length_append];exact hw))
      have hsum : ∀ (ob:AO) w,w≤h.clock+((EB F im Tm).length+2)→(om Tryd.prog KK).call (.fn 30 [.sl (nx h ((EB F im Tm).length+1)) 0 2 (some 2) 1]) (X h (EB F im Tm++[ob,.cells (zAy [ii n,ii (dueS cntI sp x)]) 2]) w) = .ok (ii (n+dueS cntI sp x)) (X h (EB F im Tm++[ob,.cells (zAy [ii n,ii (dueS cntI sp x)]) 2]) w):=fun ob w hw=>sum2 wf (by rw [zLw];rfl) (by rw [List.length_append];simp only [List.length_cons,List.length_nil];omega) (by omega) (by omega)
      have hat1:=fun ob w hw=>hat [ob] w hw
      have hoff1:=fun ob1 ob2 w hw=>hoff [ob1,ob2] w hw
      unfold stv prv at hat1
      unfold stv at hoff1
      have hXe : ∀ T' R w',X h (EB ((E2++J)++R) im T') w'=X (X h (EB E2 im T') h.clock) (J++R) w':=fun T' R w'=>by
        rw [X_X,xMw (by omega),List.append_assoc]
      have hFb : ∀ ob:AO,ob=o→F.set (F1.length+2+1) ob=E2++J:=fun ob he=>by
        rw [he,hF,List.set_set,set_same (show (E2++J)[F1.length+2+1]? = some o by rw [List.getElem?_append_left (by omega)];exact Eo)]
      by_cases hc:n+dueS cntI sp x≤ch
      · have hm1:mark1 sp ch k Tm (x,n)=Tm.set (offS x k - (spot sp k).1).toNat true:=by unfold mark1;rw [if_pos hc]
        rw [hm1]
        have hje:offS x k - (spot sp k).1=(((offS x k - (spot sp k).1).toNat:Nat):Int):=by omega
        have hj5:(offS x k - (spot sp k).1).toNat<5:=by omega
        have hixm:=ix_93 (q:=nx h im) (c:=some 5) hj5
        have hst : ∀ (R:List AO) w,store1 (nx h im) (offS x k - (spot sp k).1).toNat (.bool true) (X h (EB F im Tm++R) w)=some (X h (EB F im (Tm.set (offS x k - (spot sp k).1).toNat true)++R) (min (h.clock+im) w)):=fun R w=>by
          rw [zHy wf,List.getElem?_append_left (by omega),EB_self (by omega),yEw,if_pos (by rw [List.length_map,hMl];exact hj5)]
          show some (X h ((EB F im Tm++R).set im _) _)=_
          rw [List.set_append_left _ _ (by omega)]
          rw [show (Tm.map bb').set (offS x k - (spot sp k).1).toNat (.bool true)=(Tm.set (offS x k - (spot sp k).1).toNat true).map bb' from by rw [List.map_set],EB_put]
        generalize hjv:(offS x k - (spot sp k).1).toNat=jv at *
        generalize offS x k=ox at *
        generalize dueS cntI sp x=dx at *
        (repeat' (first
  | (with_reducible first|refine zJz ?_|refine zGw ?_|refine zEw ?_|refine zEx ?_|refine zEv ?_|refine zJy ?_|refine zGv ?_|refine zBw ?_|refine zDx ?_|refine zBv ?_|refine zCx ?_|refine zEz ?_|refine zCw ?_|refine zCz ?_|refine zBz ?_|refine zDv ?_|refine zDy ?_|refine zAx ?_|refine zAv ?_)
  | refine zCv ?_|refine zEy rfl ?_|refine zIw ?_|refine zIv ?_
  | ((first|refine zGx rfl rfl rfl rfl rfl fun K_ hK_=>?_|refine zGy rfl rfl rfl rfl rfl fun K_ hK_=>?_);simp only [zAz,zDz,zFw,↓reduceIte,reduceCtorEq,Nat.reduceEqDiff,Bool.not_true,Bool.not_false];refine hK_ _ ?_;clear hK_ K_)
  | refine zDw (by decide) ?_
  | ((try first|refine zJx rfl rfl rfl ?_|refine zIy rfl rfl ?_|refine zJv rfl rfl rfl ?_|refine zIx rfl rfl ?_);(refine zIz fun Q_ hQ_=>?_;simp (disch:=first|omega|(simp only [List.length_cons,List.length_nil,List.length_append];omega)) only [bb,bp,zKx,↓reduceIte,reduceCtorEq,Nat.reduceEqDiff,Nat.reduceLT,Nat.reduceLeDiff,Nat.reduceAdd,Nat.reduceMul,Nat.reduceSub,Nat.reduceBEq,Int.reduceToNat,cond_true,cond_false,eq_self,beq_self_eq_true,g2,g3,g7,g9,g10,g11,g43,g44,g45,tEvbT22,zHw,zQy,zAw wf];first|(refine zCy (Q:=Q_) (fun hp_=>?_) (fun hp_=>?_) <;> first|(exfalso;omega)|(refine hQ_ _ _ ?_;clear hQ_ Q_))|(refine zBy (Q:=Q_) (fun hp_=>?_) (fun hp_=>?_) <;> first|(exfalso;omega)|(refine hQ_ _ _ ?_;clear hQ_ Q_))|(refine hQ_ _ _ ?_;clear hQ_ Q_)))
  | (refine zFv fun K_ hK_=>?_;simp (disch:=omega) only [zFx,zAz,zGz,↓reduceIte,reduceCtorEq,Nat.reduceEqDiff,Nat.reduceLT];refine hK_ _ ?_;clear hK_ K_)))
        refine zMw [.no,.no,.no,.no,.no,.no,.no,.full] (by kernel_rfl) ?_
        (repeat' (first
  | (with_reducible first|refine zJz ?_|refine zGw ?_|refine zEw ?_|refine zEx ?_|refine zEv ?_|refine zJy ?_|refine zGv ?_|refine zBw ?_|refine zDx ?_|refine zBv ?_|refine zCx ?_|refine zEz ?_|refine zCw ?_|refine zCz ?_|refine zBz ?_|refine zDv ?_|refine zDy ?_|refine zAx ?_|refine zAv ?_)
  | refine zCv ?_|refine zEy rfl ?_|refine zIw ?_|refine zIv ?_
  | ((first|refine zGx rfl rfl rfl rfl rfl fun K_ hK_=>?_|refine zGy rfl rfl rfl rfl rfl fun K_ hK_=>?_);simp only [zAz,zDz,zFw,↓reduceIte,reduceCtorEq,Nat.reduceEqDiff,Bool.not_true,Bool.not_false];refine hK_ _ ?_;clear hK_ K_)
  | refine zDw (by decide) ?_
  | ((try first|refine zJx rfl rfl rfl ?_|refine zIy rfl rfl ?_|refine zJv rfl rfl rfl ?_|refine zIx rfl rfl ?_);(refine zIz fun Q_ hQ_=>?_;simp (disch:=first|omega|(simp only [List.length_cons,List.length_nil,List.length_append];omega)) only [bb,bp,zKx,↓reduceIte,reduceCtorEq,Nat.reduceEqDiff,Nat.reduceLT,Nat.reduceLeDiff,Nat.reduceAdd,Nat.reduceMul,Nat.reduceSub,Nat.reduceBEq,Int.reduceToNat,cond_true,cond_false,eq_self,beq_self_eq_true,g2,g3,g7,g9,g10,g11,g43,g44,g45,b1,b10,bx,hat1,hsum,zHz wf,zHx wf,zFz wf,tEvbT22,zHw,zQy,zAw wf];first|(refine zCy (Q:=Q_) (fun hp_=>?_) (fun hp_=>?_) <;> first|(exfalso;omega)|(refine hQ_ _ _ ?_;clear hQ_ Q_))|(refine zBy (Q:=Q_) (fun hp_=>?_) (fun hp_=>?_) <;> first|(exfalso;omega)|(refine hQ_ _ _ ?_;clear hQ_ Q_))|(refine hQ_ _ _ ?_;clear hQ_ Q_)))
  | (refine zFv fun K_ hK_=>?_;simp (disch:=omega) only [zFx,zAz,zGz,↓reduceIte,reduceCtorEq,Nat.reduceEqDiff,Nat.reduceLT];refine hK_ _ ?_;clear hK_ K_)))
        refine zMw [.no,.no,.no,.no,.no,.no,.no,.full,.full] (by kernel_rfl) ?_
        (repeat' (first
  | (with_reducible first|refine zJz ?_|refine zGw ?_|refine zEw ?_|refine zEx ?_|refine zEv ?_|refine zJy ?_|refine zGv ?_|refine zBw ?_|refine zDx ?_|refine zBv ?_|refine zCx ?_|refine zEz ?_|refine zCw ?_|refine zCz ?_|refine zBz ?_|refine zDv ?_|refine zDy ?_|refine zAx ?_|refine zAv ?_)
  | refine zCv ?_|refine zEy rfl ?_|refine zIw ?_|refine zIv ?_
  | ((first|refine zGx rfl rfl rfl rfl rfl fun K_ hK_=>?_|refine zGy rfl rfl rfl rfl rfl fun K_ hK_=>?_);simp only [zAz,zDz,zFw,↓reduceIte,reduceCtorEq,Nat.reduceEqDiff,Bool.not_true,Bool.not_false];refine hK_ _ ?_;clear hK_ K_)
  | refine zDw (by decide) ?_
  | ((try first|refine zJx rfl rfl rfl ?_|refine zIy rfl rfl ?_|refine zJv rfl rfl rfl ?_|refine zIx rfl rfl ?_);(refine zIz fun Q_ hQ_=>?_;simp (disch:=first|omega|(simp only [List.length_cons,List.length_nil,List.length_append];omega)) only [bb,bp,zKx,↓reduceIte,reduceCtorEq,Nat.reduceEqDiff,Nat.reduceLT,Nat.reduceLeDiff,Nat.reduceAdd,Nat.reduceMul,Nat.reduceSub,Nat.reduceBEq,Int.reduceToNat,cond_true,cond_false,eq_self,beq_self_eq_true,g2,g3,g7,g9,g10,g11,g43,g44,g45,b11,b12,b13,bx,hoff1,hje,hixm,hst,zHz wf,zHx wf,zFz wf,tEvbT22,zHw,zQy,zAw wf];first|(refine zCy (Q:=Q_) (fun hp_=>?_) (fun hp_=>?_) <;> first|(exfalso;omega)|(refine hQ_ _ _ ?_;clear hQ_ Q_))|(refine zBy (Q:=Q_) (fun hp_=>?_) (fun hp_=>?_) <;> first|(exfalso;omega)|(refine hQ_ _ _ ?_;clear hQ_ Q_))|(refine hQ_ _ _ ?_;clear hQ_ Q_)))
  | (refine zFv fun K_ hK_=>?_;simp (disch:=omega) only [zFx,zAz,zGz,↓reduceIte,reduceCtorEq,Nat.reduceEqDiff,Nat.reduceLT];refine hK_ _ ?_;clear hK_ K_)))
        refine yEz wf (k:=F1.length+2+1) (o:=o') (by rw [List.getElem?_append_left (by rw [zZz];omega),yPw (by omega)];exact Fo) ho' ?_
        rw [List.set_append_left _ _ (by rw [zZz];omega),EB_set (by omega),hFb _ ho.symm,xMw (by rw [List.length_append];omega),hXe]
        exact ⟨_,_,_,rfl,Same.X (by simp only [zZz]),by omega,by omega,.inl ⟨rfl,by omega,h.clock,rfl,by omega⟩⟩
      · have hm1:mark1 sp ch k Tm (x,n)=Tm:=by unfold mark1;rw [if_neg hc]
        rw [hm1]
        generalize dueS cntI sp x=dx at *
        (repeat' (first
  | (with_reducible first|refine zJz ?_|refine zGw ?_|refine zEw ?_|refine zEx ?_|refine zEv ?_|refine zJy ?_|refine zGv ?_|refine zBw ?_|refine zDx ?_|refine zBv ?_|refine zCx ?_|refine zEz ?_|refine zCw ?_|refine zCz ?_|refine zBz ?_|refine zDv ?_|refine zDy ?_|refine zAx ?_|refine zAv ?_)
  | refine zCv ?_|refine zEy rfl ?_|refine zIw ?_|refine zIv ?_
  | ((first|refine zGx rfl rfl rfl rfl rfl fun K_ hK_=>?_|refine zGy rfl rfl rfl rfl rfl fun K_ hK_=>?_);simp only [zAz,zDz,zFw,↓reduceIte,reduceCtorEq,Nat.reduceEqDiff,Bool.not_true,Bool.not_false];refine hK_ _ ?_;clear hK_ K_)
  | refine zDw (by decide) ?_
  | ((try first|refine zJx rfl rfl rfl ?_|refine zIy rfl rfl ?_|refine zJv rfl rfl rfl ?_|refine zIx rfl rfl ?_);(refine zIz fun Q_ hQ_=>?_;simp (disch:=first|omega|(simp only [List.length_cons,List.length_nil,List.length_append];omega)) only [bb,bp,zKx,↓reduceIte,reduceCtorEq,Nat.reduceEqDiff,Nat.reduceLT,Nat.reduceLeDiff,Nat.reduceAdd,Nat.reduceMul,Nat.reduceSub,Nat.reduceBEq,Int.reduceToNat,cond_true,cond_false,eq_self,beq_self_eq_true,g2,g3,g7,g9,g10,g11,g43,g44,g45,tEvbT22,zHw,zQy,zAw wf];first|(refine zCy (Q:=Q_) (fun hp_=>?_) (fun hp_=>?_) <;> first|(exfalso;omega)|(refine hQ_ _ _ ?_;clear hQ_ Q_))|(refine zBy (Q:=Q_) (fun hp_=>?_) (fun hp_=>?_) <;> first|(exfalso;omega)|(refine hQ_ _ _ ?_;clear hQ_ Q_))|(refine hQ_ _ _ ?_;clear hQ_ Q_)))
  | (refine zFv fun K_ hK_=>?_;simp (disch:=omega) only [zFx,zAz,zGz,↓reduceIte,reduceCtorEq,Nat.reduceEqDiff,Nat.reduceLT];refine hK_ _ ?_;clear hK_ K_)))
        refine zMw [.no,.no,.no,.no,.no,.no,.no,.full] (by kernel_rfl) ?_
        (repeat' (first
  | (with_reducible first|refine zJz ?_|refine zGw ?_|refine zEw ?_|refine zEx ?_|refine zEv ?_|refine zJy ?_|refine zGv ?_|refine zBw ?_|refine zDx ?_|refine zBv ?_|refine zCx ?_|refine zEz ?_|refine zCw ?_|refine zCz ?_|refine zBz ?_|refine zDv ?_|refine zDy ?_|refine zAx ?_|refine zAv ?_)
  | refine zCv ?_|refine zEy rfl ?_|refine zIw ?_|refine zIv ?_
  | ((first|refine zGx rfl rfl rfl rfl rfl fun K_ hK_=>?_|refine zGy rfl rfl rfl rfl rfl fun K_ hK_=>?_);simp only [zAz,zDz,zFw,↓reduceIte,reduceCtorEq,Nat.reduceEqDiff,Bool.not_true,Bool.not_false];refine hK_ _ ?_;clear hK_ K_)
  | refine zDw (by decide) ?_
  | ((try first|refine zJx rfl rfl rfl ?_|refine zIy rfl rfl ?_|refine zJv rfl rfl rfl ?_|refine zIx rfl rfl ?_);(refine zIz fun Q_ hQ_=>?_;simp (disch:=first|omega|(simp only [List.length_cons,List.length_nil,List.length_append];omega)) only [bb,bp,zKx,↓reduceIte,reduceCtorEq,Nat.reduceEqDiff,Nat.reduceLT,Nat.reduceLeDiff,Nat.reduceAdd,Nat.reduceMul,Nat.reduceSub,Nat.reduceBEq,Int.reduceToNat,cond_true,cond_false,eq_self,beq_self_eq_true,g2,g3,g7,g9,g10,g11,g43,g44,g45,b1,b10,bx,hat1,hsum,zHz wf,zHx wf,zFz wf,tEvbT22,zHw,zQy,zAw wf];first|(refine zCy (Q:=Q_) (fun hp_=>?_) (fun hp_=>?_) <;> first|(exfalso;omega)|(refine hQ_ _ _ ?_;clear hQ_ Q_))|(refine zBy (Q:=Q_) (fun hp_=>?_) (fun hp_=>?_) <;> first|(exfalso;omega)|(refine hQ_ _ _ ?_;clear hQ_ Q_))|(refine hQ_ _ _ ?_;clear hQ_ Q_)))
  | (refine zFv fun K_ hK_=>?_;simp (disch:=omega) only [zFx,zAz,zGz,↓reduceIte,reduceCtorEq,Nat.reduceEqDiff,Nat.reduceLT];refine hK_ _ ?_;clear hK_ K_)))
        refine yEz wf (k:=F1.length+2+1) (o:=o') (by rw [List.getElem?_append_left (by rw [zZz];omega),yPw (by omega)];exact Fo) ho' ?_
        rw [List.set_append_left _ _ (by rw [zZz];omega),EB_set (by omega),hFb _ ho.symm,xMw (by rw [List.length_append];omega),hXe]
        exact ⟨_,_,_,rfl,Same.X (by simp only [zZz]),by omega,by omega,.inl ⟨rfl,by omega,h.clock,rfl,by omega⟩⟩
    · intro J w'
      rw [X_X,xMw (by omega),zFz wf,yPw (by omega),List.getElem?_append_left (by have:=zHv (EF _ _ (FE _ _ zkp));omega),EF _ _ (FE _ _ zkp),zOx (by decide),if_pos (by
        rw [List.length_map,P.wt.len]
        have:=Nat.mul_le_mul_right 75 (show max k 1 - 1+1≤sp.length - 1 by omega)
        omega)]
      unfold rowT
      rw [List.map_take,List.map_drop]
    · rintro v h' ⟨hz,J3,w3,rfl,hsz,hlo3,hw3,⟨⟨w2,rfl,hw2'⟩,hc3⟩|⟨hF,_⟩⟩
      rotate_left 1
      · exact hF.elim
      have hyl:(ylds (reachL sp (max k 1) (paidT cntI sp))).length=(reachL sp (max k 1) (paidT cntI sp)).length:=by unfold ylds;rw [List.length_map]
      rw [hyl,List.take_length]
      rw [hyl] at hc3
      have hc0:=hc3 0 hne
      have hmk:(reachL sp (max k 1) (paidT cntI sp)).foldl (mark1 sp ch k) (List.replicate 5 false)=marksAt sp ch k:=rfl
      rw [hmk]
      simp only [X_w] at hw3
      rw [X_X,xMw (by omega)]
      refine zXx wf (k:=F1.length+2+1) (o:=o) (by rw [yPw (by omega),List.getElem?_append_left (by omega)];exact Eo) ho (by decide) fun o6 ho6=>?_
      rw [EB_set (by omega)]
      obtain ⟨L2,hL2⟩ : ∃ L2,L2=(E2++J3).set (F1.length+2+1) o6:=⟨_,rfl⟩
      rw [← hL2]
      have l2:L2.length=F1.length+4+J3.length:=by rw [hL2,List.length_set,List.length_append,El]
      have keep : ∀ (j:Nat) ob,j≠F1.length+2+1→E2[j]? = some ob→L2[j]? = some ob:=fun j ob hj hg=>by rw [hL2,List.getElem?_set_ne (by omega),List.getElem?_append_left (zHv hg)];exact hg
      have keepF : ∀ (j:Nat) ob,F1[j]? = some ob→L2[j]? = some ob:=fun j ob hg=>keep j ob (by have:=zHv hg;omega) (EF j ob hg)
      have keepE : ∀ (j:Nat) ob,E[j]? = some ob→L2[j]? = some ob:=fun j ob hg=>keepF j ob (FE j ob hg)
      clear hL2
      have hMl:(marksAt sp ch k).length=5:=by unfold marksAt;rw [xUy];simp
      have hMi:=fun j hj=>marksAt_iff hsp (ch:=ch) (i:=k) hlt (j:=j) hj
      generalize marksAt sp ch k=MS at *
      have lim2:im<L2.length:=by omega
      have hwC : ∀ l:List AO,h.clock≤min (h.clock+(F1.length+2+1)) w3:=fun _=>by omega
      generalize hwCe:min (h.clock+(F1.length+2+1)) w3=wC
      have hwC1:h.clock≤wC∧wC≤h.clock+(F1.length+3):=by omega
      have hsl : ∀ w,Sl (X h (EB L2 im MS) w) (.sl (nx h im) 0 5 (some 5) 1) 1 MS.length (MS.map bb'):=fun w=>by
        rw [hMl];exact Sl.new wf (by rw [List.length_map,hMl]) (EB_self lim2 MS)
      have hcon:=contains MS (by omega) (.sl (nx h im) 0 5 (some 5) 1) (X h (EB L2 im MS) wC) (wf.X (by rw [zZz];omega)) (hsl wC)
      rw [hMl] at hcon
      have y11:(EB L2 im MS)[i11]? = some (.cells (zAy [.sl (nx h im) 0 5 (some 5) 1]) 74):=by rw [yPw (by omega)];exact keepE _ _ z11
      have y12:(EB L2 im MS)[E.length]? = some (.cells (zAy [ii (k:Int)]) 3):=by rw [yPw (by omega)];exact keepF _ _ Fk
      have y13:(EB L2 im MS)[E.length+1]? = some (.cells (zAy [ii (spot sp k).1,ii (spot sp k).2]) 35):=by rw [yPw (by omega)];exact keepF _ _ Fr
      have hfewj : ∀ y,Few sp ch k y → ∃ j:Nat,j<5∧MS[j]? = some true∧y=(spot sp k).1+(j:Int):=fun y hy=>by
        obtain ⟨v1,v2⟩:=xCy hy
        have hj:(y - (spot sp k).1).toNat<5:=by omega
        have hye:y=(spot sp k).1+((y - (spot sp k).1).toNat:Int):=by omega
        exact ⟨_,hj,(hMi _ hj).2 (by rw [← hye];exact hy),hye⟩
      have hebl:(EB L2 im MS).length=L2.length:=zZz _ _ _
      have hdfr : ∀ j ∈ (F1.length+2) :: ks,L2[j]? = some .dfr:=fun j hj=>by
        rcases List.mem_cons.1 hj with rfl|hj
        · exact keep _ _ (by omega) Ed
        · exact keepE _ _ (hkd j hj)
      have hnod:((F1.length+2) :: ks).Nodup:=by
        rw [List.nodup_cons]
        exact ⟨fun hm=>by have:=zHv (hkd _ hm);omega,hks⟩
      by_cases hfst:fst' MS<5
      · rw [decide_eq_true hfst] at hcon
        obtain ⟨p,q,hp,hq,hpq,hmk⟩:=marked MS (by omega) (by rw [hMl];exact hfst) (spot sp k).1 ⟨o1,o2⟩ (.sl (nx h im) 0 5 (some 5) 1) (X h (EB L2 im MS) (h.clock+(EB L2 im MS).length)) (wf.X (Nat.le_refl _)) (hsl _)
        have hp5:=zHv hp
        have hq5:=zHv hq
        rw [hMl] at hp5 hq5
        have ix3:indexAddrE Tryd.prog 22 (.sl (nx h 3) 0 sp.length none 2) (.int .i64 (k:Int))=some (.ptr (nx h 3) (k * 2)):=by
          rw [zSy,zTv];dsimp only;rw [yLz];dsimp only;rw [zZy hlt,Nat.zero_add]
        have hst : ∀ w,writeCells (nx h 3) (k * 2) [ii ((spot sp k).1+(p:Int)),ii ((spot sp k).1+(q:Int))] (X h (EB L2 im MS) w)=some (X h ((EB L2 im MS).set 3 (.cells (zAy (zLz (R.set k ((spot sp k).1+(p:Int),(spot sp k).1+(q:Int))))) 35)) (min (h.clock+3) w)):=fun w=>by
          rw [zBx wf,yPw (by omega),keepE _ _ z3,zUz,if_pos (by rw [zRy,List.length_cons,List.length_cons,List.length_nil];omega),xBy _ _ _ _ (by omega)]
          rfl
        (repeat' (first
  | (with_reducible first|refine zJz ?_|refine zGw ?_|refine zEw ?_|refine zEx ?_|refine zEv ?_|refine zJy ?_|refine zGv ?_|refine zBw ?_|refine zDx ?_|refine zBv ?_|refine zCx ?_|refine zEz ?_|refine zCw ?_|refine zCz ?_|refine zBz ?_|refine zDv ?_|refine zDy ?_|refine zAx ?_|refine zAv ?_)
  | refine zCv ?_|refine zEy rfl ?_|refine zIw ?_|refine zIv ?_
  | ((first|refine zGx rfl rfl rfl rfl rfl fun K_ hK_=>?_|refine zGy rfl rfl rfl rfl rfl fun K_ hK_=>?_);simp only [zAz,zDz,zFw,↓reduceIte,reduceCtorEq,Nat.reduceEqDiff,Bool.not_true,Bool.not_false];refine hK_ _ ?_;clear hK_ K_)
  | refine zDw (by decide) ?_
  | ((try first|refine zJx rfl rfl rfl ?_|refine zIy rfl rfl ?_|refine zJv rfl rfl rfl ?_|refine zIx rfl rfl ?_);(refine zIz fun Q_ hQ_=>?_;simp (disch:=first|omega|(simp only [List.length_cons,List.length_nil,List.length_append];omega)) only [bb,bp,zKx,↓reduceIte,reduceCtorEq,Nat.reduceEqDiff,Nat.reduceLT,Nat.reduceLeDiff,Nat.reduceAdd,Nat.reduceMul,Nat.reduceSub,Nat.reduceBEq,Int.reduceToNat,cond_true,cond_false,eq_self,beq_self_eq_true,g2,g3,g7,g9,g10,g11,g43,g44,g45,y11,hcon,zHz wf,zHx wf,zFz wf,tEvbT22,zHw,zQy,zAw wf];first|(refine zCy (Q:=Q_) (fun hp_=>?_) (fun hp_=>?_) <;> first|(exfalso;omega)|(refine hQ_ _ _ ?_;clear hQ_ Q_))|(refine zBy (Q:=Q_) (fun hp_=>?_) (fun hp_=>?_) <;> first|(exfalso;omega)|(refine hQ_ _ _ ?_;clear hQ_ Q_))|(refine hQ_ _ _ ?_;clear hQ_ Q_)))
  | (refine zFv fun K_ hK_=>?_;simp (disch:=omega) only [zFx,zAz,zGz,↓reduceIte,reduceCtorEq,Nat.reduceEqDiff,Nat.reduceLT];refine hK_ _ ?_;clear hK_ K_)))
        refine zMw [.no,.no,.no,.no,.no,.no,.full,.full] (by kernel_rfl) ?_
        (repeat' (first
  | (with_reducible first|refine zJz ?_|refine zGw ?_|refine zEw ?_|refine zEx ?_|refine zEv ?_|refine zJy ?_|refine zGv ?_|refine zBw ?_|refine zDx ?_|refine zBv ?_|refine zCx ?_|refine zEz ?_|refine zCw ?_|refine zCz ?_|refine zBz ?_|refine zDv ?_|refine zDy ?_|refine zAx ?_|refine zAv ?_)
  | refine zCv ?_|refine zEy rfl ?_|refine zIw ?_|refine zIv ?_
  | ((first|refine zGx rfl rfl rfl rfl rfl fun K_ hK_=>?_|refine zGy rfl rfl rfl rfl rfl fun K_ hK_=>?_);simp only [zAz,zDz,zFw,↓reduceIte,reduceCtorEq,Nat.reduceEqDiff,Bool.not_true,Bool.not_false];refine hK_ _ ?_;clear hK_ K_)
  | refine zDw (by decide) ?_
  | ((try first|refine zJx rfl rfl rfl ?_|refine zIy rfl rfl ?_|refine zJv rfl rfl rfl ?_|refine zIx rfl rfl ?_);(refine zIz fun Q_ hQ_=>?_;simp (disch:=first|omega|(simp only [List.length_cons,List.length_nil,List.length_append];omega)) only [bb,bp,zKx,↓reduceIte,reduceCtorEq,Nat.reduceEqDiff,Nat.reduceLT,Nat.reduceLeDiff,Nat.reduceAdd,Nat.reduceMul,Nat.reduceSub,Nat.reduceBEq,Int.reduceToNat,cond_true,cond_false,eq_self,beq_self_eq_true,g2,g3,g7,g9,g10,g11,g43,g44,g45,y11,y12,y13,hmk,ix3,hst,zHz wf,zHx wf,zFz wf,tEvbT22,zHw,zQy,zAw wf];first|(refine zCy (Q:=Q_) (fun hp_=>?_) (fun hp_=>?_) <;> first|(exfalso;omega)|(refine hQ_ _ _ ?_;clear hQ_ Q_))|(refine zBy (Q:=Q_) (fun hp_=>?_) (fun hp_=>?_) <;> first|(exfalso;omega)|(refine hQ_ _ _ ?_;clear hQ_ Q_))|(refine hQ_ _ _ ?_;clear hQ_ Q_)))
  | (refine zFv fun K_ hK_=>?_;simp (disch:=omega) only [zFx,zAz,zGz,↓reduceIte,reduceCtorEq,Nat.reduceEqDiff,Nat.reduceLT];refine hK_ _ ?_;clear hK_ K_)))
        have hL3 : ∀ (j:Nat) ob,j≠3→j≠im→E[j]? = some ob→((EB L2 im MS).set 3 (.cells (zAy (zLz (R.set k ((spot sp k).1+(p:Int),(spot sp k).1+(q:Int))))) 35))[j]? = some ob:=fun j ob h1 h2 hg=>by
          rw [List.getElem?_set_ne (by omega),yPw (by omega)];exact keepE _ _ hg
        have hl3:((EB L2 im MS).set 3 (.cells (zAy (zLz (R.set k ((spot sp k).1+(p:Int),(spot sp k).1+(q:Int))))) 35)).length=L2.length:=by rw [List.length_set,zZz]
        have t3 : ∀ (j:Nat) (m:M AV) (e:TypeId),E[j]? = some (.cells m e)→e≠35→j≠3:=fun j m e hg he hj=>by
          subst hj;rw [z3] at hg;injection hg with hg;injection hg with _ hg;exact he hg.symm
        refine zKw (k+1) (by omega) ⟨hlt,⟨by simp only [zAz,↓reduceIte,reduceCtorEq,Nat.reduceEqDiff];exact g2,by simp only [zAz,↓reduceIte,reduceCtorEq,Nat.reduceEqDiff];exact g3,by simp only [zAz,↓reduceIte,reduceCtorEq,Nat.reduceEqDiff];exact g7,by simp only [zAz,↓reduceIte,reduceCtorEq,Nat.reduceEqDiff];exact g9,by simp only [zAz,↓reduceIte,reduceCtorEq,Nat.reduceEqDiff];exact g10,by simp only [zAz,↓reduceIte,reduceCtorEq,Nat.reduceEqDiff];exact g11,by simp only [zAz,↓reduceIte,reduceCtorEq,Nat.reduceEqDiff];exact g43,by simp only [zAz,↓reduceIte,reduceCtorEq,Nat.reduceEqDiff];exact g44⟩,by simp only [zAz,↓reduceIte,reduceCtorEq,Nat.reduceEqDiff];rfl,_,_,(F1.length+2) :: ks,R.set k ((spot sp k).1+(p:Int),(spot sp k).1+(q:Int)),MS,rfl,rfl,⟨hL3 _ _ (by decide) (by omega) z0,hL3 _ _ (by decide) (by omega) z1,?_,hL3 _ _ (t3 _ _ _ zkp (by decide)) nkp zkp,hL3 _ _ (t3 _ _ _ zkd (by decide)) nkd zkd,hL3 _ _ (t3 _ _ _ z9 (by decide)) n9 z9,hL3 _ _ (t3 _ _ _ z10 (by decide)) n10 z10,?_,hL3 _ _ (t3 _ _ _ z11 (by decide)) n11 z11⟩,⟨by rw [List.length_set];exact hRl,fun j hj=>?_⟩,hMl,hnod,fun j hj=>?_,by rw [zZz];omega,by rw [hl3];rw [zZz];omega⟩
        · rw [List.getElem?_set_self (by rw [zZz];omega)]
        · rw [List.getElem?_set_ne (by omega)];exact EB_self lim2 MS
        · by_cases e:j=k
          · subst e
            have hsr:spot (R.set j ((spot sp j).1+(p:Int),(spot sp j).1+(q:Int))) j=((spot sp j).1+(p:Int),(spot sp j).1+(q:Int)):=by
              unfold spot;simp [List.getD,show j<R.length by omega]
            rw [hsr]
            refine ⟨(hMi p hp5).1 hp,(hMi q hq5).1 hq,fun y hy=>?_⟩
            obtain ⟨j',h1,h2,h3⟩:=hfewj y hy
            have:=hpq j' h2
            dsimp only
            omega
          · have hsr:spot (R.set k ((spot sp k).1+(p:Int),(spot sp k).1+(q:Int))) j=spot R j:=by
              unfold spot;simp only [List.getD];rw [List.getElem?_set_ne (by omega)]
            rw [hsr];exact hR j (by omega)
        · have hd:=hdfr j hj
          rw [List.getElem?_set_ne (fun e=>by rw [← e,keepE _ _ z3] at hd;cases hd),yPw (fun e=>by rw [← e,keepE _ _ zm] at hd;cases hd)];exact hd
      · rw [decide_eq_false hfst] at hcon
        (repeat' (first
  | (with_reducible first|refine zJz ?_|refine zGw ?_|refine zEw ?_|refine zEx ?_|refine zEv ?_|refine zJy ?_|refine zGv ?_|refine zBw ?_|refine zDx ?_|refine zBv ?_|refine zCx ?_|refine zEz ?_|refine zCw ?_|refine zCz ?_|refine zBz ?_|refine zDv ?_|refine zDy ?_|refine zAx ?_|refine zAv ?_)
  | refine zCv ?_|refine zEy rfl ?_|refine zIw ?_|refine zIv ?_
  | ((first|refine zGx rfl rfl rfl rfl rfl fun K_ hK_=>?_|refine zGy rfl rfl rfl rfl rfl fun K_ hK_=>?_);simp only [zAz,zDz,zFw,↓reduceIte,reduceCtorEq,Nat.reduceEqDiff,Bool.not_true,Bool.not_false];refine hK_ _ ?_;clear hK_ K_)
  | refine zDw (by decide) ?_
  | ((try first|refine zJx rfl rfl rfl ?_|refine zIy rfl rfl ?_|refine zJv rfl rfl rfl ?_|refine zIx rfl rfl ?_);(refine zIz fun Q_ hQ_=>?_;simp (disch:=first|omega|(simp only [List.length_cons,List.length_nil,List.length_append];omega)) only [bb,bp,zKx,↓reduceIte,reduceCtorEq,Nat.reduceEqDiff,Nat.reduceLT,Nat.reduceLeDiff,Nat.reduceAdd,Nat.reduceMul,Nat.reduceSub,Nat.reduceBEq,Int.reduceToNat,cond_true,cond_false,eq_self,beq_self_eq_true,g2,g3,g7,g9,g10,g11,g43,g44,g45,y11,hcon,zHz wf,zHx wf,zFz wf,tEvbT22,zHw,zQy,zAw wf];first|(refine zCy (Q:=Q_) (fun hp_=>?_) (fun hp_=>?_) <;> first|(exfalso;omega)|(refine hQ_ _ _ ?_;clear hQ_ Q_))|(refine zBy (Q:=Q_) (fun hp_=>?_) (fun hp_=>?_) <;> first|(exfalso;omega)|(refine hQ_ _ _ ?_;clear hQ_ Q_))|(refine hQ_ _ _ ?_;clear hQ_ Q_)))
  | (refine zFv fun K_ hK_=>?_;simp (disch:=omega) only [zFx,zAz,zGz,↓reduceIte,reduceCtorEq,Nat.reduceEqDiff,Nat.reduceLT];refine hK_ _ ?_;clear hK_ K_)))
        obtain ⟨L',w',htk,hl',hw1',hw2',hkeep⟩:=yAz wf (lo:=h.clock) (Nat.le_refl _) ((F1.length+2) :: ks) (EB L2 im MS) wC hnod (fun j hj=>by
          have hd:=hdfr j hj
          rw [yPw (fun e=>by rw [← e,keepE _ _ zm] at hd;cases hd)];exact hd) hwC1.1
        refine zJw _ _ htk (ret2 (by decide) (by decide)) ?_
        simp only [zAz,↓reduceIte,reduceCtorEq,Nat.reduceEqDiff]
        refine zLx rfl hw2' ?_
        refine .inr ⟨rfl,rfl,fun l hl=>?_⟩
        rcases Int.lt_or_le ch (Cost cntI l) with hc|hc
        · exact hc
        · exfalso
          have hkl:k<l.length:=by rw [hl.length];exact hlt
          obtain ⟨j,h1,h2,h3⟩:=hfewj l[k] ⟨l,hl,hc,List.getElem?_eq_getElem hkl⟩
          exact hfst (by have:=fst_lt h2;omega)
  · have hke:k=sp.length:=by omega
    subst hke
    (repeat' (first
  | (with_reducible first|refine zJz ?_|refine zGw ?_|refine zEw ?_|refine zEx ?_|refine zEv ?_|refine zJy ?_|refine zGv ?_|refine zBw ?_|refine zDx ?_|refine zBv ?_|refine zCx ?_|refine zEz ?_|refine zCw ?_|refine zCz ?_|refine zBz ?_|refine zDv ?_|refine zDy ?_|refine zAx ?_|refine zAv ?_)
  | refine zCv ?_|refine zEy rfl ?_|refine zIw ?_|refine zIv ?_
  | ((first|refine zGx rfl rfl rfl rfl rfl fun K_ hK_=>?_|refine zGy rfl rfl rfl rfl rfl fun K_ hK_=>?_);simp only [zAz,zDz,zFw,↓reduceIte,reduceCtorEq,Nat.reduceEqDiff,Bool.not_true,Bool.not_false];refine hK_ _ ?_;clear hK_ K_)
  | refine zDw (by decide) ?_
  | ((try first|refine zJx rfl rfl rfl ?_|refine zIy rfl rfl ?_|refine zJv rfl rfl rfl ?_|refine zIx rfl rfl ?_);(refine zIz fun Q_ hQ_=>?_;simp (disch:=first|omega|(simp only [List.length_cons,List.length_nil,List.length_append];omega)) only [bb,bp,zKx,↓reduceIte,reduceCtorEq,Nat.reduceEqDiff,Nat.reduceLT,Nat.reduceLeDiff,Nat.reduceAdd,Nat.reduceMul,Nat.reduceSub,Nat.reduceBEq,Int.reduceToNat,cond_true,cond_false,eq_self,beq_self_eq_true,g2,g3,g7,g9,g10,g11,g43,g44,g45,tEvbT22,zHw,zQy,zAw wf];first|(refine zCy (Q:=Q_) (fun hp_=>?_) (fun hp_=>?_) <;> first|(exfalso;omega)|(refine hQ_ _ _ ?_;clear hQ_ Q_))|(refine zBy (Q:=Q_) (fun hp_=>?_) (fun hp_=>?_) <;> first|(exfalso;omega)|(refine hQ_ _ _ ?_;clear hQ_ Q_))|(refine hQ_ _ _ ?_;clear hQ_ Q_)))
  | (refine zFv fun K_ hK_=>?_;simp (disch:=omega) only [zFx,zAz,zGz,↓reduceIte,reduceCtorEq,Nat.reduceEqDiff,Nat.reduceLT];refine hK_ _ ?_;clear hK_ K_)))
    obtain ⟨L',w',htk,hl',hw1',hw2',hkeep⟩:=yAz wf (lo:=h.clock) (Nat.le_refl _) ks E w hks hkd hw1
    refine zJw _ _ htk (ret2 (by decide) (by decide)) ?_
    simp only [zAz,↓reduceIte,reduceCtorEq,Nat.reduceEqDiff]
    refine yCy (by
      show (_ && flat (.tup [.sl _ 0 _ none 2,_]))=false
      exact Bool.and_false _) ?_
    have hmin : ∀ w',h.clock≤w'→min h.w w'=h.w:=fun w' h'=>by have:=wf.wle;omega
    rw [hmin _ hw2']
    exact .inl ⟨L',3,R,rfl,rfl,hkeep 35 3 _ z3,hRl,hR⟩
end Go.Proofs.YtkmdidplmfdikabDoor
end

section
namespace Go.Proofs.YtkmdidplmfdikabDoor
open Go.Ev
set_option maxRecDepth 100000
set_option linter.unusedSimpArgs false
set_option linter.unusedVariables false
set_option maxHeartbeats 4000000

theorem tEvbT23 :type_of% (And.intro (And.intro (And.intro (And.intro (@zSz) (@bs_35)) (And.intro (@bs_53) (And.intro (@bs_56) (@ia_2)))) (And.intro (And.intro (@sz_2) (@ze_2)) (And.intro (@ia_3) (And.intro (@sz_3) (@ze_3))))) (And.intro (And.intro (And.intro (@zTz) (@zTy)) (And.intro (@zSv) (And.intro (@zRv) (@zXz)))) (And.intro (And.intro (@zMy) (@zMz)) (And.intro (@yPy) (And.intro (@pb_31) (@wBx)))))):=And.intro (And.intro (And.intro (And.intro (@zSz) (@bs_35)) (And.intro (@bs_53) (And.intro (@bs_56) (@ia_2)))) (And.intro (And.intro (@sz_2) (@ze_2)) (And.intro (@ia_3) (And.intro (@sz_3) (@ze_3))))) (And.intro (And.intro (And.intro (@zTz) (@zTy)) (And.intro (@zSv) (And.intro (@zRv) (@zXz)))) (And.intro (And.intro (@zMy) (@zMz)) (And.intro (@yPy) (And.intro (@pb_31) (@wBx)))))
def SpreadQ (h:H) (sp:List (Int × Int)) (ch:Int):AV→H→Prop:=fun v h'=>(∃ (L:List AO) (k:Nat) (R:List (Int × Int)),v = .tup [.sl (nx h k) 0 sp.length none 2,ii 0]∧h'=X h L h.w∧L[k]? = some (.cells (zAy (zLz R)) 35)∧R.length=sp.length ∧ ∀ i,i<sp.length→FewR sp ch i (spot R i)) ∨
      (v = .tup [.nils,ii 17]∧h'=h ∧ ∀ l,InR sp l→ch<Cost cntI l)
theorem spreadAll (sp:List (Int × Int)) (turn:Int) (hsp:spotsR sp turn=0) (a:AV) (hca:Cape 2 a) (ch:Int) (hch:0≤ch) (h:H) (wf:Wf h) (ht:TabF h) (hs:Sl h a 2 sp.length (zKv sp)) :
    WV ((om Tryd.prog KK).call (.fn 13 [.agg [a,ii turn],ii ch]) h) (SpreadQ h sp ch):=by
  obtain ⟨n1,n24,hok,hturn⟩:=xRx hsp
  by_cases hn:2≤sp.length
  · exact spread2 sp ⟨hn,n24,hok⟩ a hca turn hturn ch hch h wf ht hs
  · obtain ⟨r,rfl⟩ : ∃ r,sp=[r]:=by
      match sp,n1,hn with
      | [r],_,_=>exact ⟨r,rfl⟩
      | _ :: _ :: _,_,hn=>exact absurd (by simp) hn
    have hlen : ∀ h',lenE Tryd.prog 22 a h'=some (ii 1):=fun h'=>hs.len yIw
    have ha1:oneB a=true∧AV.cells a=[a]:=by obtain ⟨_,⟨rfl,_⟩|⟨_,_,_,_,_,_,rfl,_⟩⟩:=hs <;> exact ⟨rfl,rfl⟩
    have hCS : ∀ l w,w≤h.clock+l.length→(om Tryd.prog KK).call (.fn 20 [.agg [a,ii turn]]) (X h l w) = .ok (ii 0) (X h l w):=fun l w hw=>by
      have:=CheckSpots [r] turn a (by simp) _ (wf.X hw) (hs.up wf _ _)
      rw [hsp] at this;exact this
    have hcl:=clone [r] (by simp) a hca (X h [.cells (zAy [a,ii turn]) 24,.cells (zAy [ii ch]) 3] h.clock) (wf.X (by omega)) (hs.up wf _ _)
    rw [X_X,nx_X,X_w] at hcl
    simp only [List.length_cons,List.length_nil,Nat.reduceAdd,List.cons_append,List.nil_append] at hcl
    refine zLv (fn:=Tryd.f13) Tryd.func13 rfl rfl rfl rfl rfl ?_
    simp only [zKx]
    (repeat' (first
  | (with_reducible first|refine zJz ?_|refine zGw ?_|refine zEw ?_|refine zEx ?_|refine zEv ?_|refine zJy ?_|refine zGv ?_|refine zBw ?_|refine zDx ?_|refine zBv ?_|refine zCx ?_|refine zEz ?_|refine zCw ?_|refine zCz ?_|refine zBz ?_|refine zDv ?_|refine zDy ?_|refine zAx ?_|refine zAv ?_)
  | refine zCv ?_|refine zEy rfl ?_|refine zIw ?_|refine zIv ?_
  | ((first|refine zGx rfl rfl rfl rfl rfl fun K_ hK_=>?_|refine zGy rfl rfl rfl rfl rfl fun K_ hK_=>?_);simp only [zAz,zDz,zFw,↓reduceIte,reduceCtorEq,Nat.reduceEqDiff,Bool.not_true,Bool.not_false];refine hK_ _ ?_;clear hK_ K_)
  | refine zDw (by decide) ?_
  | ((try first|refine zJx rfl rfl rfl ?_|refine zIy rfl rfl ?_|refine zJv rfl rfl rfl ?_|refine zIx rfl rfl ?_);(refine zIz fun Q_ hQ_=>?_;simp (disch:=first|omega|(simp only [List.length_cons,List.length_nil,List.length_append];omega)) only [bb,bp,zKx,↓reduceIte,reduceCtorEq,Nat.reduceEqDiff,Nat.reduceLT,Nat.reduceLeDiff,Nat.reduceAdd,Nat.reduceMul,Nat.reduceSub,Nat.reduceBEq,Int.reduceToNat,cond_true,cond_false,eq_self,beq_self_eq_true,hCS,hlen,hcl,ha1.1,ha1.2,zHz wf,zHx wf,zFz wf,zHy wf,zBx wf,zFy,tEvbT23,zHw,zQy,zAw wf];first|(refine zCy (Q:=Q_) (fun hp_=>?_) (fun hp_=>?_) <;> first|(exfalso;omega)|(refine hQ_ _ _ ?_;clear hQ_ Q_))|(refine zBy (Q:=Q_) (fun hp_=>?_) (fun hp_=>?_) <;> first|(exfalso;omega)|(refine hQ_ _ _ ?_;clear hQ_ Q_))|(refine hQ_ _ _ ?_;clear hQ_ Q_)))
  | (refine zFv fun K_ hK_=>?_;simp (disch:=omega) only [zFx,zAz,zGz,↓reduceIte,reduceCtorEq,Nat.reduceEqDiff,Nat.reduceLT];refine hK_ _ ?_;clear hK_ K_)))
    refine zJw _ _ rfl (ret2 (by decide) (by decide)) ?_
    simp only [zAz,↓reduceIte,reduceCtorEq,Nat.reduceEqDiff]
    refine yCy (by
      show (_ && flat (.tup [.sl _ 0 _ none 2,_]))=false
      exact Bool.and_false _) ?_
    rw [Nat.min_eq_left wf.wle]
    refine .inl ⟨_,3,[r],rfl,rfl,rfl,rfl,fun i hi=>?_⟩
    have hi0:i=0:=by simp at hi;omega
    subst hi0
    have hr:=(hok r (by simp)).2.2.1
    refine ⟨⟨[r.1],⟨_,_,rfl,Int.le_refl _,hr,rfl⟩,hch,rfl⟩,⟨[r.2],⟨_,_,rfl,hr,Int.le_refl _,rfl⟩,hch,rfl⟩,fun y hy=>xCy hy⟩
theorem few_anti {sp:List (Int × Int)} {ch ch':Int} (h:ch≤ch') {i:Nat} {y:Int} (f:Few sp ch i y):Few sp ch' i y:=let ⟨l,h1,h2,h3⟩:=f;⟨l,h1,by omega,h3⟩
end Go.Proofs.YtkmdidplmfdikabDoor
end

section
namespace Go.Proofs.YtkmdidplmfdikabDoor
open Go.Ev
set_option maxRecDepth 100000
set_option linter.unusedSimpArgs false
set_option linter.unusedVariables false
set_option maxHeartbeats 4000000

theorem tEvbT24 :type_of% (And.intro (And.intro (And.intro (And.intro (@zSz) (@bs_35)) (And.intro (@ia_2) (@sz_2))) (And.intro (And.intro (@ze_2) (@ia_3)) (And.intro (@sz_3) (@zTz)))) (And.intro (And.intro (And.intro (@zUw) (@zRw)) (And.intro (@zTy) (@zSv))) (And.intro (And.intro (@zRv) (@zXz)) (And.intro (@zMv) (And.intro (@zNz) (@wBx)))))):=And.intro (And.intro (And.intro (And.intro (@zSz) (@bs_35)) (And.intro (@ia_2) (@sz_2))) (And.intro (And.intro (@ze_2) (@ia_3)) (And.intro (@sz_3) (@zTz)))) (And.intro (And.intro (And.intro (@zUw) (@zRw)) (And.intro (@zTy) (@zSv))) (And.intro (And.intro (@zRv) (@zXz)) (And.intro (@zMv) (And.intro (@zNz) (@wBx)))))
theorem under51_ : ∃ f0 f1:Field,Tryd.prog.underlying 35=some (.struct #[f0,f1])∧f0.offset=0∧f1.offset=1∧f0.type=2∧f1.type=2∧f0.name ≠ "_" ∧ f1.name ≠ "_" := ⟨_,_,Tryd.underlying35,rfl,rfl,rfl,rfl,by decide,by decide⟩
theorem stood51 :Tryd.prog.stoodInHeld 35=false:=by kernel_rfl
theorem guard51 :Tryd.prog.eqGuardType Tryd.prog.depth 35=false:=by kernel_rfl
theorem neq51 (x y:Operand) (a b:Int):binE Tryd.prog .neq 35 x y (.agg [ii a,ii b]) (.agg [ii a,ii b])=some (.bool false):=by
  obtain ⟨f0,f1,hu,o0,o1,t0,t1,m0,m1⟩:=under51_
  exact b_neq2_self hu (by rw [t0];exact Tryd.underlying2) (by rw [t1];exact Tryd.underlying2) o0 o1 m0 m1 stood51 guard51
theorem eql51 (x y:Operand) (a b:Int):binE Tryd.prog .eql 35 x y (.agg [ii a,ii b]) (.agg [ii a,ii b])=some (.bool true):=by
  obtain ⟨f0,f1,hu,o0,o1,t0,t1,m0,m1⟩:=under51_
  exact b_eql2_self hu (by rw [t0];exact Tryd.underlying2) (by rw [t1];exact Tryd.underlying2) o0 o1 m0 m1 stood51 guard51
theorem ranges (R:List (Int × Int)) (hn:R.length≤1000000) (v u:AV) (h:H) (wf:Wf h) (hv:Sl h v 2 R.length (zLz R)) (hu:Sl h u 2 R.length (zLz R)) :
    (om Tryd.prog KK).call (.fn 14 [v,u]) h = .ok (.bool true) h:=by
  have lv : ∀ h',lenE Tryd.prog 22 v h'=some (ii (R.length:Int)):=fun h'=>hv.len yIw
  have lu : ∀ h',lenE Tryd.prog 22 u h'=some (ii (R.length:Int)):=fun h'=>hu.len yIw
  refine zWv (zLv (fn:=Tryd.f14) Tryd.func14 rfl rfl rfl rfl rfl ?_)
  simp only [zKx]
  (repeat' (first
  | (with_reducible first|refine zJz ?_|refine zGw ?_|refine zEw ?_|refine zEx ?_|refine zEv ?_|refine zJy ?_|refine zGv ?_|refine zBw ?_|refine zDx ?_|refine zBv ?_|refine zCx ?_|refine zEz ?_|refine zCw ?_|refine zCz ?_|refine zBz ?_|refine zDv ?_|refine zDy ?_|refine zAx ?_|refine zAv ?_)
  | refine zCv ?_|refine zEy rfl ?_|refine zIw ?_|refine zIv ?_
  | ((first|refine zGx rfl rfl rfl rfl rfl fun K_ hK_=>?_|refine zGy rfl rfl rfl rfl rfl fun K_ hK_=>?_);simp only [zAz,zDz,zFw,↓reduceIte,reduceCtorEq,Nat.reduceEqDiff,Bool.not_true,Bool.not_false];refine hK_ _ ?_;clear hK_ K_)
  | refine zDw (by decide) ?_
  | ((try first|refine zJx rfl rfl rfl ?_|refine zIy rfl rfl ?_|refine zJv rfl rfl rfl ?_|refine zIx rfl rfl ?_);(refine zIz fun Q_ hQ_=>?_;simp (disch:=first|omega|(simp only [List.length_cons,List.length_nil,List.length_append];omega)) only [bb,bp,zKx,↓reduceIte,reduceCtorEq,Nat.reduceEqDiff,Nat.reduceLT,Nat.reduceLeDiff,Nat.reduceAdd,Nat.reduceMul,Nat.reduceSub,Nat.reduceBEq,Int.reduceToNat,cond_true,cond_false,eq_self,beq_self_eq_true,lv,lu,tEvbT24,zHw,zQy,zAw wf];first|(refine zCy (Q:=Q_) (fun hp_=>?_) (fun hp_=>?_) <;> first|(exfalso;omega)|(refine hQ_ _ _ ?_;clear hQ_ Q_))|(refine zBy (Q:=Q_) (fun hp_=>?_) (fun hp_=>?_) <;> first|(exfalso;omega)|(refine hQ_ _ _ ?_;clear hQ_ Q_))|(refine hQ_ _ _ ?_;clear hQ_ Q_)))
  | (refine zFv fun K_ hK_=>?_;simp (disch:=omega) only [zFx,zAz,zGz,↓reduceIte,reduceCtorEq,Nat.reduceEqDiff,Nat.reduceLT];refine hK_ _ ?_;clear hK_ K_)))
  refine zVz (fun (k:Nat) f d h'=>k≤R.length∧f 0=v∧f 1=u∧f 5=ii (k:Int)∧d=[]∧h'=X h [] h.clock) (fun k=>R.length - k) ?_ (R.length+1) 0 (by omega) ?_
  rotate_left 1
  · exact ⟨by omega,by (try simp only [zAz,↓reduceIte,reduceCtorEq,Nat.reduceEqDiff]) <;> rfl,by (try simp only [zAz,↓reduceIte,reduceCtorEq,Nat.reduceEqDiff]) <;> rfl,by (try simp only [zAz,↓reduceIte,reduceCtorEq,Nat.reduceEqDiff]) <;> rfl,rfl,rfl⟩
  rintro k f d h' ⟨hk,g0,g1,g5,rfl,rfl⟩
  by_cases hlt:k<R.length
  · obtain ⟨id0,off0,hix0,hld0⟩:=hv.at wf hlt yLz
    obtain ⟨id1,off1,hix1,hld1⟩:=hu.at wf hlt yLz
    have r0 : ∀ l w,loadAgg id0 off0 (some 2) (X h l w)=some (.agg [ii R[k].1,ii R[k].2]):=fun l w=>by rw [(hld0 l w).2,yAv hlt]
    have r1 : ∀ l w,loadAgg id1 off1 (some 2) (X h l w)=some (.agg [ii R[k].1,ii R[k].2]):=fun l w=>by rw [(hld1 l w).2,yAv hlt]
    (repeat' (first
  | (with_reducible first|refine zJz ?_|refine zGw ?_|refine zEw ?_|refine zEx ?_|refine zEv ?_|refine zJy ?_|refine zGv ?_|refine zBw ?_|refine zDx ?_|refine zBv ?_|refine zCx ?_|refine zEz ?_|refine zCw ?_|refine zCz ?_|refine zBz ?_|refine zDv ?_|refine zDy ?_|refine zAx ?_|refine zAv ?_)
  | refine zCv ?_|refine zEy rfl ?_|refine zIw ?_|refine zIv ?_
  | ((first|refine zGx rfl rfl rfl rfl rfl fun K_ hK_=>?_|refine zGy rfl rfl rfl rfl rfl fun K_ hK_=>?_);simp only [zAz,zDz,zFw,↓reduceIte,reduceCtorEq,Nat.reduceEqDiff,Bool.not_true,Bool.not_false];refine hK_ _ ?_;clear hK_ K_)
  | refine zDw (by decide) ?_
  | ((try first|refine zJx rfl rfl rfl ?_|refine zIy rfl rfl ?_|refine zJv rfl rfl rfl ?_|refine zIx rfl rfl ?_);(refine zIz fun Q_ hQ_=>?_;simp (disch:=first|omega|(simp only [List.length_cons,List.length_nil,List.length_append];omega)) only [bb,bp,zKx,↓reduceIte,reduceCtorEq,Nat.reduceEqDiff,Nat.reduceLT,Nat.reduceLeDiff,Nat.reduceAdd,Nat.reduceMul,Nat.reduceSub,Nat.reduceBEq,Int.reduceToNat,cond_true,cond_false,eq_self,beq_self_eq_true,g0,g1,g5,lv,lu,tEvbT24,zHw,zQy,zAw wf];first|(refine zCy (Q:=Q_) (fun hp_=>?_) (fun hp_=>?_) <;> first|(exfalso;omega)|(refine hQ_ _ _ ?_;clear hQ_ Q_))|(refine zBy (Q:=Q_) (fun hp_=>?_) (fun hp_=>?_) <;> first|(exfalso;omega)|(refine hQ_ _ _ ?_;clear hQ_ Q_))|(refine hQ_ _ _ ?_;clear hQ_ Q_)))
  | (refine zFv fun K_ hK_=>?_;simp (disch:=omega) only [zFx,zAz,zGz,↓reduceIte,reduceCtorEq,Nat.reduceEqDiff,Nat.reduceLT];refine hK_ _ ?_;clear hK_ K_)))
    refine zMw [.no,.no,.no,.no,.no,.no,.no,.no,.full] (by kernel_rfl) ?_
    (repeat' (first
  | (with_reducible first|refine zJz ?_|refine zGw ?_|refine zEw ?_|refine zEx ?_|refine zEv ?_|refine zJy ?_|refine zGv ?_|refine zBw ?_|refine zDx ?_|refine zBv ?_|refine zCx ?_|refine zEz ?_|refine zCw ?_|refine zCz ?_|refine zBz ?_|refine zDv ?_|refine zDy ?_|refine zAx ?_|refine zAv ?_)
  | refine zCv ?_|refine zEy rfl ?_|refine zIw ?_|refine zIv ?_
  | ((first|refine zGx rfl rfl rfl rfl rfl fun K_ hK_=>?_|refine zGy rfl rfl rfl rfl rfl fun K_ hK_=>?_);simp only [zAz,zDz,zFw,↓reduceIte,reduceCtorEq,Nat.reduceEqDiff,Bool.not_true,Bool.not_false];refine hK_ _ ?_;clear hK_ K_)
  | refine zDw (by decide) ?_
  | ((try first|refine zJx rfl rfl rfl ?_|refine zIy rfl rfl ?_|refine zJv rfl rfl rfl ?_|refine zIx rfl rfl ?_);(refine zIz fun Q_ hQ_=>?_;simp (disch:=first|omega|(simp only [List.length_cons,List.length_nil,List.length_append];omega)) only [bb,bp,zKx,↓reduceIte,reduceCtorEq,Nat.reduceEqDiff,Nat.reduceLT,Nat.reduceLeDiff,Nat.reduceAdd,Nat.reduceMul,Nat.reduceSub,Nat.reduceBEq,Int.reduceToNat,cond_true,cond_false,eq_self,beq_self_eq_true,g0,g1,g5,lv,lu,hix0,hix1,r0,r1,neq51,tEvbT24,zHw,zQy,zAw wf];first|(refine zCy (Q:=Q_) (fun hp_=>?_) (fun hp_=>?_) <;> first|(exfalso;omega)|(refine hQ_ _ _ ?_;clear hQ_ Q_))|(refine zBy (Q:=Q_) (fun hp_=>?_) (fun hp_=>?_) <;> first|(exfalso;omega)|(refine hQ_ _ _ ?_;clear hQ_ Q_))|(refine hQ_ _ _ ?_;clear hQ_ Q_)))
  | (refine zFv fun K_ hK_=>?_;simp (disch:=omega) only [zFx,zAz,zGz,↓reduceIte,reduceCtorEq,Nat.reduceEqDiff,Nat.reduceLT];refine hK_ _ ?_;clear hK_ K_)))
    exact zKw (k+1) (by omega) ⟨hlt,by simp only [zAz,↓reduceIte,reduceCtorEq,Nat.reduceEqDiff];exact g0,by simp only [zAz,↓reduceIte,reduceCtorEq,Nat.reduceEqDiff];exact g1,by simp only [zAz,↓reduceIte,reduceCtorEq,Nat.reduceEqDiff];rfl,rfl,rfl⟩
  · (repeat' (first
  | (with_reducible first|refine zJz ?_|refine zGw ?_|refine zEw ?_|refine zEx ?_|refine zEv ?_|refine zJy ?_|refine zGv ?_|refine zBw ?_|refine zDx ?_|refine zBv ?_|refine zCx ?_|refine zEz ?_|refine zCw ?_|refine zCz ?_|refine zBz ?_|refine zDv ?_|refine zDy ?_|refine zAx ?_|refine zAv ?_)
  | refine zCv ?_|refine zEy rfl ?_|refine zIw ?_|refine zIv ?_
  | ((first|refine zGx rfl rfl rfl rfl rfl fun K_ hK_=>?_|refine zGy rfl rfl rfl rfl rfl fun K_ hK_=>?_);simp only [zAz,zDz,zFw,↓reduceIte,reduceCtorEq,Nat.reduceEqDiff,Bool.not_true,Bool.not_false];refine hK_ _ ?_;clear hK_ K_)
  | refine zDw (by decide) ?_
  | ((try first|refine zJx rfl rfl rfl ?_|refine zIy rfl rfl ?_|refine zJv rfl rfl rfl ?_|refine zIx rfl rfl ?_);(refine zIz fun Q_ hQ_=>?_;simp (disch:=first|omega|(simp only [List.length_cons,List.length_nil,List.length_append];omega)) only [bb,bp,zKx,↓reduceIte,reduceCtorEq,Nat.reduceEqDiff,Nat.reduceLT,Nat.reduceLeDiff,Nat.reduceAdd,Nat.reduceMul,Nat.reduceSub,Nat.reduceBEq,Int.reduceToNat,cond_true,cond_false,eq_self,beq_self_eq_true,g0,g1,g5,lv,lu,tEvbT24,zHw,zQy,zAw wf];first|(refine zCy (Q:=Q_) (fun hp_=>?_) (fun hp_=>?_) <;> first|(exfalso;omega)|(refine hQ_ _ _ ?_;clear hQ_ Q_))|(refine zBy (Q:=Q_) (fun hp_=>?_) (fun hp_=>?_) <;> first|(exfalso;omega)|(refine hQ_ _ _ ?_;clear hQ_ Q_))|(refine hQ_ _ _ ?_;clear hQ_ Q_)))
  | (refine zFv fun K_ hK_=>?_;simp (disch:=omega) only [zFx,zAz,zGz,↓reduceIte,reduceCtorEq,Nat.reduceEqDiff,Nat.reduceLT];refine hK_ _ ?_;clear hK_ K_)))
    (refine zJw _ _ rfl (ret1 (by decide)) ?_;simp only [zAz,↓reduceIte,reduceCtorEq,Nat.reduceEqDiff];refine zLx rfl (by omega) ?_)
    exact ⟨rfl,rfl⟩
theorem costL_cnt (t:Int) : ∀ (cs:List Int) (a b s:Int),costL (payI t) a b s cs=costL (payI 0) a b s cs+t * costL cntI a b s cs
  | [],_,_,_=>by show (0:Int)=0+t * 0;omega
  | c :: cs,a,b,s=>by
    have ih:=costL_cnt t cs b c (nsg s (a - 2 * b+c))
    show payI t a b s c+costL (payI t) b c (nsg s (a - 2 * b+c)) cs=payI 0 a b s c+costL (payI 0) b c (nsg s (a - 2 * b+c)) cs+t * (chgI s (a - 2 * b+c)+costL cntI b c (nsg s (a - 2 * b+c)) cs)
    rw [ih,Int.mul_add]
    have e1:payI t a b s c=payI 0 a b s c+t * chgI s (a - 2 * b+c):=by unfold payI;rw [Int.zero_mul];omega
    rw [e1];omega
theorem Cost_cnt (t:Int) : ∀ l:List Int,Cost (payI t) l=Cost (payI 0) l+t * Cost cntI l
  | []=>by show (0:Int)=0+t * 0;omega
  | [_]=>by show (0:Int)=0+t * 0;omega
  | a :: b :: cs=>costL_cnt t cs a b 0
theorem Cost_cnt_nn : ∀ l:List Int,0≤Cost cntI l
  | []=>Int.le_refl _
  | [_]=>Int.le_refl _
  | a :: b :: cs=>by
    have key : ∀ (cs:List Int) (a b s:Int),0≤costL cntI a b s cs:=fun cs=>by
      induction cs with
      | nil=>intro a b s;exact Int.le_refl _
      | cons c cs ih=>
        intro a b s
        have h1:=chgI_01 s (a - 2 * b+c)
        have h2:=ih b c (nsg s (a - 2 * b+c))
        show 0≤chgI s (a - 2 * b+c)+costL cntI b c (nsg s (a - 2 * b+c)) cs
        omega
    exact key cs a b 0
theorem xZx : ∀ l:List Int,Cost cntI l≤l.length
  | []=>Int.le_refl _
  | [_]=>by show (0:Int)≤1;omega
  | a :: b :: cs=>by
    have key : ∀ (cs:List Int) (a b s:Int),costL cntI a b s cs≤cs.length:=fun cs=>by
      induction cs with
      | nil=>intro a b s;exact Int.le_refl _
      | cons c cs ih=>
        intro a b s
        have h1:=chgI_01 s (a - 2 * b+c)
        have h2:=ih b c (nsg s (a - 2 * b+c))
        show chgI s (a - 2 * b+c)+costL cntI b c (nsg s (a - 2 * b+c)) cs≤((cs.length+1:Nat):Int)
        omega
    have:=key cs a b 0
    show costL cntI a b 0 cs≤((cs.length+1+1:Nat):Int)
    omega
theorem line_at {sp:List (Int × Int)} (hok : ∀ r ∈ sp,r.1≤r.2) {i:Nat} (hi:i<sp.length) {y:Int} (hy:(spot sp i).1≤y∧y≤(spot sp i).2) : ∃ l,InR sp l∧l[i]? = some y:=by
  refine ⟨(sp.map (·.1)).set i y,inR_of (by simp) fun j c hc=>?_,by rw [List.getElem?_set_self (by simpa using hi)]⟩
  by_cases e:i=j
  · subst e
    rw [List.getElem?_set_self (by simpa using hi)] at hc
    cases hc;exact hy
  · rw [List.getElem?_set_ne e,List.getElem?_map] at hc
    obtain ⟨r,hr,rfl⟩:=Option.map_eq_some_iff.1 hc
    have hj:=zHv hr
    have:spot sp j=r:=by unfold spot;simp [List.getD,hr]
    rw [this]
    exact ⟨Int.le_refl _,hok r (List.mem_of_getElem? hr)⟩
theorem few_all {sp:List (Int × Int)} (hok : ∀ r ∈ sp,r.1≤r.2) {ch:Int} (hch:(sp.length:Int)≤ch) {i:Nat} (hi:i<sp.length) {r:Int × Int} (f:FewR sp ch i r):r=spot sp i:=by
  obtain ⟨f1,f2,f3⟩:=f
  have hr:(spot sp i).1≤(spot sp i).2:=by rw [← zPz hi];exact hok _ (List.getElem_mem hi)
  have all : ∀ y,(spot sp i).1≤y→y≤(spot sp i).2→Few sp ch i y:=fun y h1 h2=>by
    obtain ⟨l,l1,l2⟩:=line_at hok hi ⟨h1,h2⟩
    exact ⟨l,l1,by have:=xZx l;rw [l1.length] at this;omega,l2⟩
  have h1:=f3 _ (all _ (Int.le_refl _) hr)
  have h2:=f3 _ (all _ hr (Int.le_refl _))
  have h3:=xCy f1
  have h4:=xCy f2
  exact Prod.ext (by omega) (by omega)
theorem spots_eq {R S:List (Int × Int)} (hl:R.length=S.length) (h : ∀ i,i<S.length→spot R i=spot S i):R=S:=by
  refine List.ext_getElem? fun i=>?_
  by_cases hi:i<S.length
  · have:=h i hi
    rw [List.getElem?_eq_getElem hi,List.getElem?_eq_getElem (by omega),zPz hi,zPz (by omega),this]
  · rw [List.getElem?_eq_none (by omega),List.getElem?_eq_none (by omega)]
end Go.Proofs.YtkmdidplmfdikabDoor
end

section
namespace Go.Proofs.YtkmdidplmfdikabDoor
open Go.Ev
set_option maxRecDepth 100000
set_option linter.unusedSimpArgs false
set_option linter.unusedVariables false
set_option maxHeartbeats 4000000

theorem tEvbV1 :type_of% (And.intro (And.intro (And.intro (And.intro (@zSz) (@ia_2)) (And.intro (@sz_2) (@ia_3))) (And.intro (And.intro (@sz_3) (@ia_5)) (And.intro (@sz_5) (@zRv)))) (And.intro (And.intro (And.intro (@ia_27) (@zTw)) (And.intro (@zMv) (@zNz))) (And.intro (And.intro (@zMy) (@zMz)) (And.intro (@pb_11) (@wBy))))):=And.intro (And.intro (And.intro (And.intro (@zSz) (@ia_2)) (And.intro (@sz_2) (@ia_3))) (And.intro (And.intro (@sz_3) (@ia_5)) (And.intro (@sz_5) (@zRv)))) (And.intro (And.intro (And.intro (@ia_27) (@zTw)) (And.intro (@zMv) (@zNz))) (And.intro (And.intro (@zMy) (@zMz)) (And.intro (@pb_11) (@wBy))))
abbrev u8 (n:Int):AV:=.int .u8 n
theorem Line (sp:List (Int × Int)) (hn0:sp.length≠0) (hn:sp.length≤24) (hok : ∀ r ∈ sp,SpotOK r) (bs:List Int) (hbl:bs.length≤40) (hb8 : ∀ n ∈ bs,0≤n∧n≤255) (a:AV) (turn:Int) (b:AV) (h:H) (wf:Wf h) (hs:Sl h a 2 sp.length (zKv sp)) (hb:Sl h b 1 bs.length (bs.map u8)) :
    WV ((om Tryd.prog KK).call (.fn 11 [.agg [a,ii turn],b]) h) fun v h'=>∃ M,h'=X h M h.w∧LineV h M 2 v ((lineB sp bs sp.length).map ii):=by
  have hlen : ∀ h',lenE Tryd.prog 22 a h'=some (ii (sp.length:Int)):=fun h'=>hs.len yIw
  have hlb : ∀ h',lenE Tryd.prog 27 b h'=some (ii (bs.length:Int)):=fun h'=>hb.len un_27
  have ha1:oneB a=true∧AV.cells a=[a]:=by obtain ⟨_,⟨rfl,_⟩|⟨_,_,_,_,_,_,rfl,_⟩⟩:=hs <;> exact ⟨rfl,rfl⟩
  refine zLv (fn:=Tryd.f11) Tryd.func11 rfl rfl rfl rfl rfl ?_
  simp only [zKx]
  (repeat' (first
  | (with_reducible first|refine zJz ?_|refine zGw ?_|refine zEw ?_|refine zEx ?_|refine zEv ?_|refine zJy ?_|refine zGv ?_|refine zBw ?_|refine zDx ?_|refine zBv ?_|refine zCx ?_|refine zEz ?_|refine zCw ?_|refine zCz ?_|refine zBz ?_|refine zDv ?_|refine zDy ?_|refine zAx ?_|refine zAv ?_)
  | refine zCv ?_|refine zEy rfl ?_|refine zIw ?_|refine zIv ?_
  | ((first|refine zGx rfl rfl rfl rfl rfl fun K_ hK_=>?_|refine zGy rfl rfl rfl rfl rfl fun K_ hK_=>?_);simp only [zAz,zDz,zFw,↓reduceIte,reduceCtorEq,Nat.reduceEqDiff,Bool.not_true,Bool.not_false];refine hK_ _ ?_;clear hK_ K_)
  | refine zDw (by decide) ?_
  | ((try first|refine zJx rfl rfl rfl ?_|refine zIy rfl rfl ?_|refine zJv rfl rfl rfl ?_|refine zIx rfl rfl ?_);(refine zIz fun Q_ hQ_=>?_;simp (disch:=first|omega|(simp only [List.length_cons,List.length_nil,List.length_append];omega)) only [bb,bp,zKx,↓reduceIte,reduceCtorEq,Nat.reduceEqDiff,Nat.reduceLT,Nat.reduceLeDiff,Nat.reduceAdd,Nat.reduceMul,Nat.reduceSub,Nat.reduceBEq,Int.reduceToNat,cond_true,cond_false,eq_self,beq_self_eq_true,hlen,hlb,ha1.1,ha1.2,zHz wf,zHx wf,zFz wf,zHy wf,zBx wf,tEvbV1,zHw,zAw wf];first|(refine zCy (Q:=Q_) (fun hp_=>?_) (fun hp_=>?_) <;> first|(exfalso;omega)|(refine hQ_ _ _ ?_;clear hQ_ Q_))|(refine zBy (Q:=Q_) (fun hp_=>?_) (fun hp_=>?_) <;> first|(exfalso;omega)|(refine hQ_ _ _ ?_;clear hQ_ Q_))|(refine hQ_ _ _ ?_;clear hQ_ Q_)))
  | (refine zFv fun K_ hK_=>?_;simp (disch:=omega) only [zFx,zAz,zGz,↓reduceIte,reduceCtorEq,Nat.reduceEqDiff,Nat.reduceLT];refine hK_ _ ?_;clear hK_ K_)))
  refine zVz (fun (k:Nat) f d h'=>k≤sp.length∧f 1=b∧f 2 = .ptr (nx h 0) 0∧f 6=ii (k:Int)∧d=[] ∧ ∃ (G:List AO) (w:Nat),h'=X h (.cells (zAy [a,ii turn]) 24 :: G) w∧Grow h [.cells (zAy [a,ii turn]) 24] G (f 5) 1 2 k ((lineB sp bs k).map ii)∧h.clock≤w∧w≤h.clock+(G.length+1)) (fun k=>sp.length - k) ?_ (sp.length+1) 0 (by omega) ?_
  · rintro k f d h' ⟨hk,g1,g2,g6,rfl,G,w,rfl,hg,hw1,hw2⟩
    generalize g5:f 5=ov at hg
    by_cases hlt:k<sp.length
    · obtain ⟨id0,off0,hix0,hld0⟩:=hs.at wf hlt yLz
      have ho:=hok _ (List.getElem_mem hlt)
      rw [zPz hlt] at ho
      obtain ⟨o1,o2,o3,o4⟩:=ho
      have hlo : ∀ l w,load1 id0 off0 (X h l w)=some (ii (spot sp k).1):=fun l w=>by have:=(hld0 l w).1 0 (by decide);rw [Nat.add_zero,(zUx hlt).1,zPz hlt] at this;exact this
      have hhi : ∀ l w,load1 id0 (off0+1) (X h l w)=some (ii (spot sp k).2):=fun l w=>by have:=(hld0 l w).1 1 (by decide);rw [(zUx hlt).2,zPz hlt] at this;exact this
      have hr5:=hg.resz (P:=Tryd.prog) 30
      have rs30 : ∀ (id:Pos) (off len c esz:Nat),reszT Tryd.prog 30 (.sl id off len (some c) esz) = .sl id off len (some c) 1:=fun id off len c esz=>yAx Tryd.underlying30 sz_2
      have rest : ∀ (y:Int) (w:Nat),h.clock≤w → ∃ (v:AV) (G2:List AO) (w':Nat),Grow h [.cells (zAy [a,ii turn]) 24] G2 v 1 2 (k+1) ((lineB sp bs k).map ii++[ii y])∧h.clock≤w'∧w'≤w∧G2.length=G.length+2 ∧
          appendE Tryd.prog 30 ov (.sl (nx h (G.length+1)) 0 1 (some 1) 1) (X h (.cells (zAy [a,ii turn]) 24 :: (G++[.cells (zAy [ii y]) 2])) w) = .ok v (X h (.cells (zAy [a,ii turn]) 24 :: G2) w'):=fun y w hw=>by
        obtain ⟨v',G2,o',w',hch,hg',hw1',hw2',happ⟩:=(hg.keepK (Keep.more G [.cells (zAy [ii y]) 2])).appendC (P:=Tryd.prog) wf Tryd.underlying30 sz_2 el_2 (n:=1) (new:=[ii y]) (x:=.sl (nx h (G.length+1)) 0 1 (some 1) 1) (t:=30) (by omega) (by decide) (by decide) rfl rfl (fun w=>xEy (e:=2) wf (by simp only [List.cons_append,List.nil_append,List.getElem?_cons_succ,zNx,List.getElem?_cons_zero]) rfl) w hw
        refine ⟨v',G2++[o'],w',hg',hw1',hw2',?_,happ⟩
        have:=hch.1
        simp only [List.length_append,List.length_cons,List.length_nil] at this ⊢
        omega
      by_cases hb0:bs.length=0
      · have hy:byI bs (spot sp k) k=(spot sp k).1:=by unfold byI;rw [if_pos hb0];omega
        (repeat' (first
  | (with_reducible first|refine zJz ?_|refine zGw ?_|refine zEw ?_|refine zEx ?_|refine zEv ?_|refine zJy ?_|refine zGv ?_|refine zBw ?_|refine zDx ?_|refine zBv ?_|refine zCx ?_|refine zEz ?_|refine zCw ?_|refine zCz ?_|refine zBz ?_|refine zDv ?_|refine zDy ?_|refine zAx ?_|refine zAv ?_)
  | refine zCv ?_|refine zEy rfl ?_|refine zIw ?_|refine zIv ?_
  | ((first|refine zGx rfl rfl rfl rfl rfl fun K_ hK_=>?_|refine zGy rfl rfl rfl rfl rfl fun K_ hK_=>?_);simp only [zAz,zDz,zFw,↓reduceIte,reduceCtorEq,Nat.reduceEqDiff,Bool.not_true,Bool.not_false];refine hK_ _ ?_;clear hK_ K_)
  | refine zDw (by decide) ?_
  | ((try first|refine zJx rfl rfl rfl ?_|refine zIy rfl rfl ?_|refine zJv rfl rfl rfl ?_|refine zIx rfl rfl ?_);(refine zIz fun Q_ hQ_=>?_;simp (disch:=first|omega|(simp only [List.length_cons,List.length_nil,List.length_append];omega)) only [bb,bp,zKx,↓reduceIte,reduceCtorEq,Nat.reduceEqDiff,Nat.reduceLT,Nat.reduceLeDiff,Nat.reduceAdd,Nat.reduceMul,Nat.reduceSub,Nat.reduceBEq,Int.reduceToNat,cond_true,cond_false,eq_self,beq_self_eq_true,g1,g2,g5,g6,hlen,hlb,hix0,hlo,hhi,hr5,rs30,zHz wf,zHx wf,zFz wf,zHy wf,zBx wf,tEvbV1,zHw,zAw wf];first|(refine zCy (Q:=Q_) (fun hp_=>?_) (fun hp_=>?_) <;> first|(exfalso;omega)|(refine hQ_ _ _ ?_;clear hQ_ Q_))|(refine zBy (Q:=Q_) (fun hp_=>?_) (fun hp_=>?_) <;> first|(exfalso;omega)|(refine hQ_ _ _ ?_;clear hQ_ Q_))|(refine hQ_ _ _ ?_;clear hQ_ Q_)))
  | (refine zFv fun K_ hK_=>?_;simp (disch:=omega) only [zFx,zAz,zGz,↓reduceIte,reduceCtorEq,Nat.reduceEqDiff,Nat.reduceLT];refine hK_ _ ?_;clear hK_ K_)))
        obtain ⟨v,G2,w',hg2,hw3,hw4,hl2,happ⟩:=rest (spot sp k).1 w hw1
        (repeat' (first
  | (with_reducible first|refine zJz ?_|refine zGw ?_|refine zEw ?_|refine zEx ?_|refine zEv ?_|refine zJy ?_|refine zGv ?_|refine zBw ?_|refine zDx ?_|refine zBv ?_|refine zCx ?_|refine zEz ?_|refine zCw ?_|refine zCz ?_|refine zBz ?_|refine zDv ?_|refine zDy ?_|refine zAx ?_|refine zAv ?_)
  | refine zCv ?_|refine zEy rfl ?_|refine zIw ?_|refine zIv ?_
  | ((first|refine zGx rfl rfl rfl rfl rfl fun K_ hK_=>?_|refine zGy rfl rfl rfl rfl rfl fun K_ hK_=>?_);simp only [zAz,zDz,zFw,↓reduceIte,reduceCtorEq,Nat.reduceEqDiff,Bool.not_true,Bool.not_false];refine hK_ _ ?_;clear hK_ K_)
  | refine zDw (by decide) ?_
  | ((try first|refine zJx rfl rfl rfl ?_|refine zIy rfl rfl ?_|refine zJv rfl rfl rfl ?_|refine zIx rfl rfl ?_);(refine zIz fun Q_ hQ_=>?_;simp (disch:=first|omega|(simp only [List.length_cons,List.length_nil,List.length_append];omega)) only [bb,bp,zKx,↓reduceIte,reduceCtorEq,Nat.reduceEqDiff,Nat.reduceLT,Nat.reduceLeDiff,Nat.reduceAdd,Nat.reduceMul,Nat.reduceSub,Nat.reduceBEq,Int.reduceToNat,cond_true,cond_false,eq_self,beq_self_eq_true,g6,hr5,rs30,happ,zHz wf,zHx wf,zFz wf,zHy wf,zBx wf,tEvbV1,zHw,zAw wf];first|(refine zCy (Q:=Q_) (fun hp_=>?_) (fun hp_=>?_) <;> first|(exfalso;omega)|(refine hQ_ _ _ ?_;clear hQ_ Q_))|(refine zBy (Q:=Q_) (fun hp_=>?_) (fun hp_=>?_) <;> first|(exfalso;omega)|(refine hQ_ _ _ ?_;clear hQ_ Q_))|(refine hQ_ _ _ ?_;clear hQ_ Q_)))
  | (refine zFv fun K_ hK_=>?_;simp (disch:=omega) only [zFx,zAz,zGz,↓reduceIte,reduceCtorEq,Nat.reduceEqDiff,Nat.reduceLT];refine hK_ _ ?_;clear hK_ K_)))
        refine zKw (k+1) (by omega) ⟨hlt,by simp only [zAz,↓reduceIte,reduceCtorEq,Nat.reduceEqDiff];exact g1,by simp only [zAz,↓reduceIte,reduceCtorEq,Nat.reduceEqDiff];exact g2,by simp only [zAz,↓reduceIte,reduceCtorEq,Nat.reduceEqDiff];rfl,rfl,G2,w',rfl,?_,hw3,by omega⟩
        simp only [zAz,↓reduceIte,reduceCtorEq,Nat.reduceEqDiff]
        rw [lineB_snoc,List.map_append,hy]
        exact hg2
      · obtain ⟨id1,off1,hix1,hld1⟩:=hb.at1 wf (i:=k % bs.length) (Nat.mod_lt _ (by omega)) ik_27
        have hml:k % bs.length<bs.length:=Nat.mod_lt _ (by omega)
        rw [List.getElem?_map,List.getElem?_eq_getElem hml,Option.map_some] at hld1
        have hrem : ∀ (x y:Operand),binE Tryd.prog .rem 3 x y (ii (k:Int)) (ii (bs.length:Int))=some (ii ((k % bs.length:Nat):Int)):=fun x y=>b_rem (by omega)
        have hb1:=hb8 _ (List.getElem_mem hml)
        have hgd:bs.getD (k % bs.length) 0=bs[k % bs.length]:=by simp [hml]
        have hy:byI bs (spot sp k) k=(spot sp k).1+bs[k % bs.length].tmod ((spot sp k).2 - (spot sp k).1+1):=by unfold byI;rw [if_neg hb0,hgd,Int.tmod_eq_emod_of_nonneg hb1.1]
        have hr2 : ∀ (x y:Operand),binE Tryd.prog .rem 2 x y (ii bs[k % bs.length]) (ii ((spot sp k).2 - (spot sp k).1+1))=some (ii (bs[k % bs.length].tmod ((spot sp k).2 - (spot sp k).1+1))):=fun x y=>b_rem (by omega)
        have hcv:convE Tryd.prog 5 2 (u8 bs[k % bs.length])=some (ii bs[k % bs.length]):=by rw [c_int un_5 un_2,yNz _ (by omega) (by omega)]
        have hin:=byI_in bs o3 k
        rw [hy] at hin
        generalize hbe:bs[k % bs.length]=be at *
        generalize htm:be.tmod ((spot sp k).2 - (spot sp k).1+1)=tm at *
        (repeat' (first
  | (with_reducible first|refine zJz ?_|refine zGw ?_|refine zEw ?_|refine zEx ?_|refine zEv ?_|refine zJy ?_|refine zGv ?_|refine zBw ?_|refine zDx ?_|refine zBv ?_|refine zCx ?_|refine zEz ?_|refine zCw ?_|refine zCz ?_|refine zBz ?_|refine zDv ?_|refine zDy ?_|refine zAx ?_|refine zAv ?_)
  | refine zCv ?_|refine zEy rfl ?_|refine zIw ?_|refine zIv ?_
  | ((first|refine zGx rfl rfl rfl rfl rfl fun K_ hK_=>?_|refine zGy rfl rfl rfl rfl rfl fun K_ hK_=>?_);simp only [zAz,zDz,zFw,↓reduceIte,reduceCtorEq,Nat.reduceEqDiff,Bool.not_true,Bool.not_false];refine hK_ _ ?_;clear hK_ K_)
  | refine zDw (by decide) ?_
  | ((try first|refine zJx rfl rfl rfl ?_|refine zIy rfl rfl ?_|refine zJv rfl rfl rfl ?_|refine zIx rfl rfl ?_);(refine zIz fun Q_ hQ_=>?_;simp (disch:=first|omega|(simp only [List.length_cons,List.length_nil,List.length_append];omega)) only [bb,bp,zKx,↓reduceIte,reduceCtorEq,Nat.reduceEqDiff,Nat.reduceLT,Nat.reduceLeDiff,Nat.reduceAdd,Nat.reduceMul,Nat.reduceSub,Nat.reduceBEq,Int.reduceToNat,cond_true,cond_false,eq_self,beq_self_eq_true,g1,g2,g5,g6,hlen,hlb,hix0,hlo,hhi,hr5,rs30,zHz wf,zHx wf,zFz wf,zHy wf,zBx wf,tEvbV1,zHw,zAw wf];first|(refine zCy (Q:=Q_) (fun hp_=>?_) (fun hp_=>?_) <;> first|(exfalso;omega)|(refine hQ_ _ _ ?_;clear hQ_ Q_))|(refine zBy (Q:=Q_) (fun hp_=>?_) (fun hp_=>?_) <;> first|(exfalso;omega)|(refine hQ_ _ _ ?_;clear hQ_ Q_))|(refine hQ_ _ _ ?_;clear hQ_ Q_)))
  | (refine zFv fun K_ hK_=>?_;simp (disch:=omega) only [zFx,zAz,zGz,↓reduceIte,reduceCtorEq,Nat.reduceEqDiff,Nat.reduceLT];refine hK_ _ ?_;clear hK_ K_)))
        refine zMw [.no,.no,.no,.no,.no,.no,.no,.no,.no,.no,.no,.no,.no,.no,.no,.no,.no,.no,.full,.full,.full] (by kernel_rfl) ?_
        (repeat' (first
  | (with_reducible first|refine zJz ?_|refine zGw ?_|refine zEw ?_|refine zEx ?_|refine zEv ?_|refine zJy ?_|refine zGv ?_|refine zBw ?_|refine zDx ?_|refine zBv ?_|refine zCx ?_|refine zEz ?_|refine zCw ?_|refine zCz ?_|refine zBz ?_|refine zDv ?_|refine zDy ?_|refine zAx ?_|refine zAv ?_)
  | refine zCv ?_|refine zEy rfl ?_|refine zIw ?_|refine zIv ?_
  | ((first|refine zGx rfl rfl rfl rfl rfl fun K_ hK_=>?_|refine zGy rfl rfl rfl rfl rfl fun K_ hK_=>?_);simp only [zAz,zDz,zFw,↓reduceIte,reduceCtorEq,Nat.reduceEqDiff,Bool.not_true,Bool.not_false];refine hK_ _ ?_;clear hK_ K_)
  | refine zDw (by decide) ?_
  | ((try first|refine zJx rfl rfl rfl ?_|refine zIy rfl rfl ?_|refine zJv rfl rfl rfl ?_|refine zIx rfl rfl ?_);(refine zIz fun Q_ hQ_=>?_;simp (disch:=first|omega|(simp only [List.length_cons,List.length_nil,List.length_append];omega)) only [bb,bp,zKx,↓reduceIte,reduceCtorEq,Nat.reduceEqDiff,Nat.reduceLT,Nat.reduceLeDiff,Nat.reduceAdd,Nat.reduceMul,Nat.reduceSub,Nat.reduceBEq,Int.reduceToNat,cond_true,cond_false,eq_self,beq_self_eq_true,g1,g2,g5,g6,hlen,hlb,hix0,hlo,hhi,hix1,hld1,hrem,hr2,hcv,hr5,rs30,zHz wf,zHx wf,zFz wf,zHy wf,zBx wf,tEvbV1,zHw,zAw wf];first|(refine zCy (Q:=Q_) (fun hp_=>?_) (fun hp_=>?_) <;> first|(exfalso;omega)|(refine hQ_ _ _ ?_;clear hQ_ Q_))|(refine zBy (Q:=Q_) (fun hp_=>?_) (fun hp_=>?_) <;> first|(exfalso;omega)|(refine hQ_ _ _ ?_;clear hQ_ Q_))|(refine hQ_ _ _ ?_;clear hQ_ Q_)))
  | (refine zFv fun K_ hK_=>?_;simp (disch:=omega) only [zFx,zAz,zGz,↓reduceIte,reduceCtorEq,Nat.reduceEqDiff,Nat.reduceLT];refine hK_ _ ?_;clear hK_ K_)))
        obtain ⟨v,G2,w',hg2,hw3,hw4,hl2,happ⟩:=rest ((spot sp k).1+tm) w hw1
        (repeat' (first
  | (with_reducible first|refine zJz ?_|refine zGw ?_|refine zEw ?_|refine zEx ?_|refine zEv ?_|refine zJy ?_|refine zGv ?_|refine zBw ?_|refine zDx ?_|refine zBv ?_|refine zCx ?_|refine zEz ?_|refine zCw ?_|refine zCz ?_|refine zBz ?_|refine zDv ?_|refine zDy ?_|refine zAx ?_|refine zAv ?_)
  | refine zCv ?_|refine zEy rfl ?_|refine zIw ?_|refine zIv ?_
  | ((first|refine zGx rfl rfl rfl rfl rfl fun K_ hK_=>?_|refine zGy rfl rfl rfl rfl rfl fun K_ hK_=>?_);simp only [zAz,zDz,zFw,↓reduceIte,reduceCtorEq,Nat.reduceEqDiff,Bool.not_true,Bool.not_false];refine hK_ _ ?_;clear hK_ K_)
  | refine zDw (by decide) ?_
  | ((try first|refine zJx rfl rfl rfl ?_|refine zIy rfl rfl ?_|refine zJv rfl rfl rfl ?_|refine zIx rfl rfl ?_);(refine zIz fun Q_ hQ_=>?_;simp (disch:=first|omega|(simp only [List.length_cons,List.length_nil,List.length_append];omega)) only [bb,bp,zKx,↓reduceIte,reduceCtorEq,Nat.reduceEqDiff,Nat.reduceLT,Nat.reduceLeDiff,Nat.reduceAdd,Nat.reduceMul,Nat.reduceSub,Nat.reduceBEq,Int.reduceToNat,cond_true,cond_false,eq_self,beq_self_eq_true,g6,hr5,rs30,happ,zHz wf,zHx wf,zFz wf,zHy wf,zBx wf,tEvbV1,zHw,zAw wf];first|(refine zCy (Q:=Q_) (fun hp_=>?_) (fun hp_=>?_) <;> first|(exfalso;omega)|(refine hQ_ _ _ ?_;clear hQ_ Q_))|(refine zBy (Q:=Q_) (fun hp_=>?_) (fun hp_=>?_) <;> first|(exfalso;omega)|(refine hQ_ _ _ ?_;clear hQ_ Q_))|(refine hQ_ _ _ ?_;clear hQ_ Q_)))
  | (refine zFv fun K_ hK_=>?_;simp (disch:=omega) only [zFx,zAz,zGz,↓reduceIte,reduceCtorEq,Nat.reduceEqDiff,Nat.reduceLT];refine hK_ _ ?_;clear hK_ K_)))
        refine zKw (k+1) (by omega) ⟨hlt,by simp only [zAz,↓reduceIte,reduceCtorEq,Nat.reduceEqDiff];exact g1,by simp only [zAz,↓reduceIte,reduceCtorEq,Nat.reduceEqDiff];exact g2,by simp only [zAz,↓reduceIte,reduceCtorEq,Nat.reduceEqDiff];rfl,rfl,G2,w',rfl,?_,hw3,by omega⟩
        simp only [zAz,↓reduceIte,reduceCtorEq,Nat.reduceEqDiff]
        rw [lineB_snoc,List.map_append,hy]
        exact hg2
    · have hke:k=sp.length:=by omega
      subst hke
      (repeat' (first
  | (with_reducible first|refine zJz ?_|refine zGw ?_|refine zEw ?_|refine zEx ?_|refine zEv ?_|refine zJy ?_|refine zGv ?_|refine zBw ?_|refine zDx ?_|refine zBv ?_|refine zCx ?_|refine zEz ?_|refine zCw ?_|refine zCz ?_|refine zBz ?_|refine zDv ?_|refine zDy ?_|refine zAx ?_|refine zAv ?_)
  | refine zCv ?_|refine zEy rfl ?_|refine zIw ?_|refine zIv ?_
  | ((first|refine zGx rfl rfl rfl rfl rfl fun K_ hK_=>?_|refine zGy rfl rfl rfl rfl rfl fun K_ hK_=>?_);simp only [zAz,zDz,zFw,↓reduceIte,reduceCtorEq,Nat.reduceEqDiff,Bool.not_true,Bool.not_false];refine hK_ _ ?_;clear hK_ K_)
  | refine zDw (by decide) ?_
  | ((try first|refine zJx rfl rfl rfl ?_|refine zIy rfl rfl ?_|refine zJv rfl rfl rfl ?_|refine zIx rfl rfl ?_);(refine zIz fun Q_ hQ_=>?_;simp (disch:=first|omega|(simp only [List.length_cons,List.length_nil,List.length_append];omega)) only [bb,bp,zKx,↓reduceIte,reduceCtorEq,Nat.reduceEqDiff,Nat.reduceLT,Nat.reduceLeDiff,Nat.reduceAdd,Nat.reduceMul,Nat.reduceSub,Nat.reduceBEq,Int.reduceToNat,cond_true,cond_false,eq_self,beq_self_eq_true,g1,g2,g5,g6,hlen,hlb,zHz wf,zHx wf,zFz wf,zHy wf,zBx wf,tEvbV1,zHw,zAw wf];first|(refine zCy (Q:=Q_) (fun hp_=>?_) (fun hp_=>?_) <;> first|(exfalso;omega)|(refine hQ_ _ _ ?_;clear hQ_ Q_))|(refine zBy (Q:=Q_) (fun hp_=>?_) (fun hp_=>?_) <;> first|(exfalso;omega)|(refine hQ_ _ _ ?_;clear hQ_ Q_))|(refine hQ_ _ _ ?_;clear hQ_ Q_)))
  | (refine zFv fun K_ hK_=>?_;simp (disch:=omega) only [zFx,zAz,zGz,↓reduceIte,reduceCtorEq,Nat.reduceEqDiff,Nat.reduceLT];refine hK_ _ ?_;clear hK_ K_)))
      refine zJw _ _ rfl (ret1 (by decide)) ?_
      simp only [zAz,↓reduceIte,reduceCtorEq,Nat.reduceEqDiff]
      have hmin : ∀ w',h.clock≤w'→min h.w w'=h.w:=fun w' h'=>by have:=wf.wle;omega
      obtain ⟨hgl,⟨h0,rfl⟩|⟨idx,rfl,hgi⟩⟩:=hg
      · exact absurd h0 hn0
      · refine yCy (by
          show (_ && flat (.sl _ 0 _ none 1))=false
          exact Bool.and_false _) ?_
        rw [hmin _ hw1]
        have hl1:((lineB sp bs sp.length).map ii).length=sp.length:=by rw [List.length_map,yRx]
        exact ⟨_,rfl,⟨idx+1,none,by rw [hl1,Nat.add_comm];rfl,by simp only [List.getElem?_cons_succ];exact hgi,.inl rfl⟩⟩
  · exact ⟨Nat.zero_le _,by simp only [zAz,↓reduceIte,reduceCtorEq,Nat.reduceEqDiff],by simp only [zAz,↓reduceIte,reduceCtorEq,Nat.reduceEqDiff],by simp only [zAz,↓reduceIte,reduceCtorEq,Nat.reduceEqDiff];rfl,rfl,[],_,rfl,by simp only [zAz,↓reduceIte,reduceCtorEq,Nat.reduceEqDiff];exact Grow.nil _ _ _ _ _,Nat.le_refl _,by simp⟩
end Go.Proofs.YtkmdidplmfdikabDoor
end

section
namespace Go.Proofs.YtkmdidplmfdikabDoor
open Go.Ev
set_option maxRecDepth 100000
set_option linter.unusedSimpArgs false
set_option linter.unusedVariables false
set_option maxHeartbeats 4000000

theorem tEvbW :type_of% (And.intro (And.intro (And.intro (And.intro (@zSz) (And.intro (@ia_2) (@sz_2))) (And.intro (And.intro (@ia_3) (@sz_3)) (And.intro (@zTz) (@zUw)))) (And.intro (And.intro (@zRw) (And.intro (@zVx) (@zUy))) (And.intro (And.intro (@zTy) (@zSv)) (And.intro (@zRv) (@zTw))))) (And.intro (And.intro (And.intro (@zOz) (And.intro (@zNv) (@zNw))) (And.intro (And.intro (@zOw) (@zMv)) (And.intro (@zNz) (@zMy)))) (And.intro (And.intro (And.intro (@zMz) (@zVy)) (And.intro (@zPw) (@yPy))) (And.intro (And.intro (@pb_18) (@pb_8)) (And.intro (@pb_9) (@wBy)))))):=And.intro (And.intro (And.intro (And.intro (@zSz) (And.intro (@ia_2) (@sz_2))) (And.intro (And.intro (@ia_3) (@sz_3)) (And.intro (@zTz) (@zUw)))) (And.intro (And.intro (@zRw) (And.intro (@zVx) (@zUy))) (And.intro (And.intro (@zTy) (@zSv)) (And.intro (@zRv) (@zTw))))) (And.intro (And.intro (And.intro (@zOz) (And.intro (@zNv) (@zNw))) (And.intro (And.intro (@zOw) (@zMv)) (And.intro (@zNz) (@zMy)))) (And.intro (And.intro (And.intro (@zMz) (@zVy)) (And.intro (@zPw) (@yPy))) (And.intro (And.intro (@pb_18) (@pb_8)) (And.intro (@pb_9) (@wBy)))))
theorem rCheckSpots (sp:List (Int × Int)) (turn:Int) (a:AV) (hn:sp.length≤1000000) (h:H) (wf:Wf h) (hs:Sl h a 2 sp.length (zKv sp)) :
    (om Tryd.prog KK).call (.fn 18 [.agg [a,ii turn]]) h = .ok (ii (spotsR sp turn)) h:=by
  refine zWv (zLv (fn:=Tryd.f18) Tryd.func18 rfl rfl rfl rfl rfl ?_)
  simp only [zKx]
  have hlen : ∀ h',lenE Tryd.prog 22 a h'=some (ii (sp.length:Int)):=fun h'=>hs.len yIw
  (repeat' (first
  | (with_reducible first|refine zJz ?_|refine zGw ?_|refine zEw ?_|refine zEx ?_|refine zEv ?_|refine zJy ?_|refine zGv ?_|refine zBw ?_|refine zDx ?_|refine zBv ?_|refine zCx ?_|refine zEz ?_|refine zCw ?_|refine zCz ?_|refine zBz ?_|refine zDv ?_|refine zDy ?_|refine zAx ?_|refine zAv ?_)
  | refine zCv ?_|refine zEy rfl ?_|refine zIw ?_|refine zIv ?_
  | ((first|refine zGx rfl rfl rfl rfl rfl fun K_ hK_=>?_|refine zGy rfl rfl rfl rfl rfl fun K_ hK_=>?_);simp only [zAz,zDz,zFw,↓reduceIte,reduceCtorEq,Nat.reduceEqDiff,Bool.not_true,Bool.not_false];refine hK_ _ ?_;clear hK_ K_)
  | refine zDw (by decide) ?_
  | ((try first|refine zJx rfl rfl rfl ?_|refine zIy rfl rfl ?_|refine zJv rfl rfl rfl ?_|refine zIx rfl rfl ?_);(refine zIz fun Q_ hQ_=>?_;simp (disch:=first|omega|(simp only [List.length_cons,List.length_nil,List.length_append];omega)) only [bb,bp,zKx,↓reduceIte,reduceCtorEq,Nat.reduceEqDiff,Nat.reduceLT,Nat.reduceLeDiff,Nat.reduceAdd,Nat.reduceMul,Nat.reduceSub,Nat.reduceBEq,Int.reduceToNat,cond_true,cond_false,eq_self,beq_self_eq_true,hlen,zHz wf,zHx wf,zFz wf,zHy wf,zBx wf,tEvbW,zHw,zAw wf];first|(refine zCy (Q:=Q_) (fun hp_=>?_) (fun hp_=>?_) <;> first|(exfalso;omega)|(refine hQ_ _ _ ?_;clear hQ_ Q_))|(refine zBy (Q:=Q_) (fun hp_=>?_) (fun hp_=>?_) <;> first|(exfalso;omega)|(refine hQ_ _ _ ?_;clear hQ_ Q_))|(refine hQ_ _ _ ?_;clear hQ_ Q_)))
  | (refine zFv fun K_ hK_=>?_;simp (disch:=omega) only [zFx,zAz,zGz,↓reduceIte,reduceCtorEq,Nat.reduceEqDiff,Nat.reduceLT];refine hK_ _ ?_;clear hK_ K_)))
  · (refine zJw _ _ rfl (ret1 (by decide)) ?_;simp only [zAz,↓reduceIte,reduceCtorEq,Nat.reduceEqDiff];refine zLx rfl (by omega) ?_)
    have e:spotsR sp turn=6:=if_pos (by omega)
    rw [e];exact ⟨rfl,rfl⟩
  · (refine zJw _ _ rfl (ret1 (by decide)) ?_;simp only [zAz,↓reduceIte,reduceCtorEq,Nat.reduceEqDiff];refine zLx rfl (by omega) ?_)
    have e:spotsR sp turn=6:=if_pos (by omega)
    rw [e];exact ⟨rfl,rfl⟩
  · have e1 : ¬ (sp.length=0∨24<sp.length):=by omega
    (refine zJw _ _ rfl (ret1 (by decide)) ?_;simp only [zAz,↓reduceIte,reduceCtorEq,Nat.reduceEqDiff];refine zLx rfl (by omega) ?_)
    have e:spotsR sp turn=2:=by unfold spotsR;rw [if_neg e1,if_neg (by omega)]
    rw [e];exact ⟨rfl,rfl⟩
  · have e1 : ¬ (sp.length=0∨24<sp.length):=by omega
    (refine zJw _ _ rfl (ret1 (by decide)) ?_;simp only [zAz,↓reduceIte,reduceCtorEq,Nat.reduceEqDiff];refine zLx rfl (by omega) ?_)
    have e:spotsR sp turn=2:=by unfold spotsR;rw [if_neg e1,if_neg (by omega)]
    rw [e];exact ⟨rfl,rfl⟩
  have e1 : ¬ (sp.length=0∨24<sp.length):=by omega
  have ht:0≤turn∧turn≤1000000:=by omega
  refine zVz (fun (k:Nat) f d h'=>k≤sp.length∧f 1 = .ptr (nx h 0) 0∧f 3=ii (k:Int)∧d=[]∧(∃ G,h'=X h (.cells (zAy [a,ii turn]) 24 :: G) h.clock) ∧ ∀ i (hi:i<sp.length),i<k→SpotOK sp[i]) (fun k=>sp.length - k) ?_ (sp.length+1) 0 (by omega) ?_
  · rintro k f d h' ⟨hk,h1,h3,rfl,⟨G,rfl⟩,hall⟩
    by_cases hlt:k<sp.length
    · obtain ⟨id,off,hix,hld⟩:=hs.at wf hlt yLz
      have hld' : ∀ l w,loadAgg id off (some 2) (X h l w)=some (.agg [ii sp[k].1,ii sp[k].2]):=fun l w=>by rw [(hld l w).2,zWx hlt]
      clear hld
      (repeat' (first
  | (with_reducible first|refine zJz ?_|refine zGw ?_|refine zEw ?_|refine zEx ?_|refine zEv ?_|refine zJy ?_|refine zGv ?_|refine zBw ?_|refine zDx ?_|refine zBv ?_|refine zCx ?_|refine zEz ?_|refine zCw ?_|refine zCz ?_|refine zBz ?_|refine zDv ?_|refine zDy ?_|refine zAx ?_|refine zAv ?_)
  | refine zCv ?_|refine zEy rfl ?_|refine zIw ?_|refine zIv ?_
  | ((first|refine zGx rfl rfl rfl rfl rfl fun K_ hK_=>?_|refine zGy rfl rfl rfl rfl rfl fun K_ hK_=>?_);simp only [zAz,zDz,zFw,↓reduceIte,reduceCtorEq,Nat.reduceEqDiff,Bool.not_true,Bool.not_false];refine hK_ _ ?_;clear hK_ K_)
  | refine zDw (by decide) ?_
  | ((try first|refine zJx rfl rfl rfl ?_|refine zIy rfl rfl ?_|refine zJv rfl rfl rfl ?_|refine zIx rfl rfl ?_);(refine zIz fun Q_ hQ_=>?_;simp (disch:=first|omega|(simp only [List.length_cons,List.length_nil,List.length_append];omega)) only [bb,bp,zKx,↓reduceIte,reduceCtorEq,Nat.reduceEqDiff,Nat.reduceLT,Nat.reduceLeDiff,Nat.reduceAdd,Nat.reduceMul,Nat.reduceSub,Nat.reduceBEq,Int.reduceToNat,cond_true,cond_false,eq_self,beq_self_eq_true,h1,h3,hlen,hix,hld',zHz wf,zHx wf,zFz wf,zHy wf,zBx wf,tEvbW,zHw,zAw wf];first|(refine zCy (Q:=Q_) (fun hp_=>?_) (fun hp_=>?_) <;> first|(exfalso;omega)|(refine hQ_ _ _ ?_;clear hQ_ Q_))|(refine zBy (Q:=Q_) (fun hp_=>?_) (fun hp_=>?_) <;> first|(exfalso;omega)|(refine hQ_ _ _ ?_;clear hQ_ Q_))|(refine hQ_ _ _ ?_;clear hQ_ Q_)))
  | (refine zFv fun K_ hK_=>?_;simp (disch:=omega) only [zFx,zAz,zGz,↓reduceIte,reduceCtorEq,Nat.reduceEqDiff,Nat.reduceLT];refine hK_ _ ?_;clear hK_ K_)))
      iterate 4
        · (refine zJw _ _ rfl (ret1 (by decide)) ?_;simp only [zAz,↓reduceIte,reduceCtorEq,Nat.reduceEqDiff];refine zLx rfl (by omega) ?_)
          have hno : ¬ SpotOK sp[k]:=by unfold SpotOK;omega
          have e:spotsR sp turn=2:=by unfold spotsR;rw [if_neg e1,if_neg (fun hh=>all_not (p:=SpotOK) hlt hno hh.1)]
          rw [e];exact ⟨rfl,rfl⟩
      · have hok:SpotOK sp[k]:=by unfold SpotOK;omega
        exact zKw (k+1) (by omega) ⟨hlt,by simp only [zAz,↓reduceIte,reduceCtorEq,Nat.reduceEqDiff];exact h1,by simp only [zAz,↓reduceIte,reduceCtorEq,Nat.reduceEqDiff];rfl,rfl,⟨_,rfl⟩,all_step hlt hall hok⟩
    · have hkl:k=sp.length:=by omega
      subst hkl
      have hx:=all_done hall
      (repeat' (first
  | (with_reducible first|refine zJz ?_|refine zGw ?_|refine zEw ?_|refine zEx ?_|refine zEv ?_|refine zJy ?_|refine zGv ?_|refine zBw ?_|refine zDx ?_|refine zBv ?_|refine zCx ?_|refine zEz ?_|refine zCw ?_|refine zCz ?_|refine zBz ?_|refine zDv ?_|refine zDy ?_|refine zAx ?_|refine zAv ?_)
  | refine zCv ?_|refine zEy rfl ?_|refine zIw ?_|refine zIv ?_
  | ((first|refine zGx rfl rfl rfl rfl rfl fun K_ hK_=>?_|refine zGy rfl rfl rfl rfl rfl fun K_ hK_=>?_);simp only [zAz,zDz,zFw,↓reduceIte,reduceCtorEq,Nat.reduceEqDiff,Bool.not_true,Bool.not_false];refine hK_ _ ?_;clear hK_ K_)
  | refine zDw (by decide) ?_
  | ((try first|refine zJx rfl rfl rfl ?_|refine zIy rfl rfl ?_|refine zJv rfl rfl rfl ?_|refine zIx rfl rfl ?_);(refine zIz fun Q_ hQ_=>?_;simp (disch:=first|omega|(simp only [List.length_cons,List.length_nil,List.length_append];omega)) only [bb,bp,zKx,↓reduceIte,reduceCtorEq,Nat.reduceEqDiff,Nat.reduceLT,Nat.reduceLeDiff,Nat.reduceAdd,Nat.reduceMul,Nat.reduceSub,Nat.reduceBEq,Int.reduceToNat,cond_true,cond_false,eq_self,beq_self_eq_true,h1,h3,hlen,zHz wf,zHx wf,zFz wf,zHy wf,zBx wf,tEvbW,zHw,zAw wf];first|(refine zCy (Q:=Q_) (fun hp_=>?_) (fun hp_=>?_) <;> first|(exfalso;omega)|(refine hQ_ _ _ ?_;clear hQ_ Q_))|(refine zBy (Q:=Q_) (fun hp_=>?_) (fun hp_=>?_) <;> first|(exfalso;omega)|(refine hQ_ _ _ ?_;clear hQ_ Q_))|(refine hQ_ _ _ ?_;clear hQ_ Q_)))
  | (refine zFv fun K_ hK_=>?_;simp (disch:=omega) only [zFx,zAz,zGz,↓reduceIte,reduceCtorEq,Nat.reduceEqDiff,Nat.reduceLT];refine hK_ _ ?_;clear hK_ K_)))
      (refine zJw _ _ rfl (ret1 (by decide)) ?_;simp only [zAz,↓reduceIte,reduceCtorEq,Nat.reduceEqDiff];refine zLx rfl (by omega) ?_)
      have e:spotsR sp turn=0:=by unfold spotsR;rw [if_neg e1,if_pos ⟨hx,ht⟩]
      rw [e];exact ⟨rfl,rfl⟩
  · refine ⟨Nat.zero_le _,by simp only [zAz,↓reduceIte,reduceCtorEq,Nat.reduceEqDiff],by simp only [zAz,↓reduceIte,reduceCtorEq,Nat.reduceEqDiff];rfl,rfl,⟨[],rfl⟩,fun i _ hi=>absurd hi (Nat.not_lt_zero i)⟩

noncomputable def farCells :List AV:=[ii 1099511627776,ii 1099511627776,ii 1099511627776]
def Tab (h:H):Prop:=∃ f,Ev.getObj (posN 0) h=some (AO.ro f)∧f 0=some (ii 1099511627776)∧f 1=some (ii 1099511627776)∧f 2=some (ii 1099511627776)
theorem Tab.up {h:H} (wf:Wf h) (t:Tab h) (l:List AO) (w:Nat):Tab (X h l w):=let ⟨f,h1,h2⟩:=t;⟨f,yMy wf h1 l w,h2⟩
theorem works (h:H) (t:Tab h):(om Tryd.prog KK).call (.fn 8 []) h = .ok (.bool true) h:=by
  refine om_con (c:=cW) (r:=[]) ?_
  have h1:holds1 h (posN 0) farCells=true:=by
    obtain ⟨f,t1,t2,t3,t4⟩:=t
    unfold holds1
    rw [t1]
    show (match readM f 3 0 with|some vs=>eqFL vs farCells|none=>false)=true
    have e:readM f 3 0=some farCells:=by
      simp only [readM,Nat.succ_eq_add_one,Nat.zero_add,Nat.reduceAdd,t2,t3,t4];rfl
    rw [e]
    rfl
  have h2:(heldB cW.tb ((posN 0,posN 0) :: pairs cW.args []) h)=true:=by
    show (holds1 h (posN 0) farCells && true)=true
    rw [h1];rfl
  show (bif fits ((posN 0,posN 0) :: pairs cW.args []) cW.args [] && heldB cW.tb ((posN 0,posN 0) :: pairs cW.args []) h && apartB cW.tb ((posN 0,posN 0) :: pairs cW.args []) && knownB cW.tb ((posN 0,posN 0) :: pairs cW.args []) then
    (match adopt cW.news h with|some (n,h')=>(match ren n cW.ret with|some v=>RV.ok v h'|none=>.no)|none=>.no) else .no)=_
  rw [h2]
  rfl

theorem Tab.f {h:H} (t:Tab h):TabF h:=t
def FairQ (h:H) (sp:List (Int × Int)) (turn:Int):AV→H→Prop:=fun v h'=>∃ (L:List AO) (lv:AV),v = .tup [lv,ii (fairL (payI turn) sp).2,ii 0]∧h'=X h L h.w∧LineV h L 2 lv ((fairL (payI turn) sp).1.map ii)
end Go.Proofs.YtkmdidplmfdikabDoor
end

section
namespace Go.Ev
variable {P:Program}
theorem Sl.cut {h:H} {a:AV} {m len:Nat} {cells:List AV} (s:Sl h a m len cells) {lo hi:Option Nat} {l hh:Nat} (hlh:l≤hh) (hhl:hh≤len) (hlo:lo.getD 0=l) (hhi:hi.getD len=hh) {t e:TypeId} (hu:P.underlying t=some (.slice e)) (hz:sizeE P e=some m) (hm:0<m) (hc:CapU m a) :
    ∃ b,sliceE P t (reszT P t a) lo hi none=some b∧Sl h b m (hh - l) ((cells.drop (l * m)).take ((hh - l) * m))∧CapU m b:=by
  have hml:hh * m≤len * m:=Nat.mul_le_mul_right _ hhl
  have hmk:l * m≤hh * m:=Nat.mul_le_mul_right _ hlh
  obtain ⟨hl,⟨rfl,rfl⟩|⟨id,off,cap,esz,o,cs,rfl,hg,hcs,hx⟩⟩:=s
  · have e1:hh=0:=by omega
    have e2:l=0:=by omega
    subst e1 e2
    have hr:reszT P t .nils = .nils:=by unfold reszT;rw [hu];dsimp only;rw [hz];rfl
    have hb:boundsE 0 (some 0) lo hi none=some (0,0,some 0):=by
      unfold boundsE
      show (bif Nat.ble (hi.getD 0) 0 && Nat.ble (lo.getD 0) (hi.getD 0) then some (lo.getD 0,hi.getD 0,some 0) else none)=_
      rw [hhi,hlo];rfl
    refine ⟨.nils,?_,?_,?_⟩
    · rw [hr]
      unfold sliceE;rw [hu];dsimp only;rw [hz,hb]
    · refine ⟨?_,.inl ⟨rfl,rfl⟩⟩
      simp
    · exact Capd.capu capd_nils m
  · have hk : ∀ j,j<(hh - l) * m→cs (off+l * m+j)=((cells.drop (l * m)).take ((hh - l) * m))[j]?:=fun j hj=>by
      rw [List.getElem?_take_of_lt hj,List.getElem?_drop]
      have hj':l * m+j<len * m:=by rw [Nat.sub_mul] at hj;omega
      have:=hx (l * m+j) hj'
      rw [← this,Nat.add_assoc]
    have hln:((cells.drop (l * m)).take ((hh - l) * m)).length=(hh - l) * m:=by
      rw [List.length_take,List.length_drop,hl,Nat.sub_mul];omega
    cases cap with
    | none=>
      have he:esz=m:=hc.2 _ _ _ _ rfl
      subst he
      have hr:reszT P t (.sl id off len none esz) = .sl id off len none esz:=by unfold reszT;rw [hu];dsimp only;rw [hz];rfl
      have hb:boundsE len none lo hi none=some (l,hh,none):=by
        unfold boundsE
        show (bif Nat.ble (hi.getD len) len && Nat.ble (lo.getD 0) (hi.getD len) then some (lo.getD 0,hi.getD len,(none:Option Nat)) else none)=_
        rw [hhi,hlo,Nat.ble_eq_true_of_le hhl,Nat.ble_eq_true_of_le hlh];rfl
      have hof:sliceOf id off esz (some (l,hh,none))=some (.sl id (off+l * esz) (hh - l) none esz):=by
        cases l with
        | zero=>show some (AV.sl id off hh none esz)=_;rw [Nat.zero_mul,Nat.add_zero,Nat.sub_zero]
        | succ l=>
          show (bif Nat.beq (off+(l+1) * esz) 0 then none else some (AV.sl id (off+(l+1) * esz) (hh - (l+1)) none esz))=_
          have:off+(l+1) * esz≠0:=by have:=Nat.mul_pos (Nat.succ_pos l) hm;rw [Nat.succ_eq_add_one] at this;omega
          rw [show Nat.beq (off+(l+1) * esz) 0=false from by cases hb:Nat.beq (off+(l+1) * esz) 0 with|false=>rfl|true=>exact absurd (Nat.eq_of_beq_eq_true hb) this];rfl
      refine ⟨.sl id (off+l * esz) (hh - l) none esz,?_,⟨hln,.inr ⟨_,_,_,_,o,cs,rfl,hg,hcs,hk⟩⟩,xYz⟩
      rw [hr]
      unfold sliceE;rw [hu];dsimp only;rw [hz];dsimp only
      rw [show Nat.beq esz esz=true from Nat.beq_refl esz,hb];exact hof
    | some c=>
      have hlc:=hc.1 id off len c esz rfl
      have hr:reszT P t (.sl id off len (some c) esz) = .sl id off len (some c) m:=by unfold reszT;rw [hu];dsimp only;rw [hz];rfl
      have hb:boundsE len (some c) lo hi none=some (l,hh,some c):=by
        unfold boundsE
        show (bif Nat.ble (hi.getD len) c && Nat.ble (lo.getD 0) (hi.getD len) then some (lo.getD 0,hi.getD len,some c) else none)=_
        rw [hhi,hlo,Nat.ble_eq_true_of_le (show hh≤c by omega),Nat.ble_eq_true_of_le hlh];rfl
      refine ⟨.sl id (bif Nat.beq c l then off else off+l * m) (hh - l) (some (c - l)) m,?_,⟨hln,.inr ⟨_,_,_,_,o,cs,rfl,hg,hcs,fun j hj=>?_⟩⟩,capu_some (by omega)⟩
      · rw [hr]
        unfold sliceE;rw [hu];dsimp only;rw [hz];dsimp only
        rw [show Nat.beq m m=true from Nat.beq_refl m,hb];rfl
      · rw [← hk j hj]
        cases hbq:Nat.beq c l with
        | true=>
          have:=Nat.eq_of_beq_eq_true hbq
          subst this
          have e:hh - c=0:=by omega
          rw [e,Nat.zero_mul] at hj
          omega
        | false=>rfl
end Go.Ev
end

section
namespace Go.Proofs.YtkmdidplmfdikabDoor
open Go.Ev
set_option maxRecDepth 100000
set_option linter.unusedSimpArgs false
set_option linter.unusedVariables false
set_option maxHeartbeats 4000000

theorem tEvbV2 :type_of% (And.intro (And.intro (And.intro (And.intro (@zSz) (And.intro (@ia_2) (@sz_2))) (And.intro (@ia_3) (And.intro (@sz_3) (@ia_5)))) (And.intro (And.intro (@sz_5) (And.intro (@zRv) (@ia_27))) (And.intro (And.intro (@zTw) (@zTz)) (And.intro (@zTy) (@zSv))))) (And.intro (And.intro (And.intro (@zMv) (And.intro (@zNz) (@zMy))) (And.intro (@zMz) (And.intro (@pb_4) (@pb_7)))) (And.intro (And.intro (@pb_8) (And.intro (@pb_9) (@pb_10))) (And.intro (And.intro (@pb_11) (@pb_12)) (And.intro (@pb_18) (@wBy)))))):=And.intro (And.intro (And.intro (And.intro (@zSz) (And.intro (@ia_2) (@sz_2))) (And.intro (@ia_3) (And.intro (@sz_3) (@ia_5)))) (And.intro (And.intro (@sz_5) (And.intro (@zRv) (@ia_27))) (And.intro (And.intro (@zTw) (@zTz)) (And.intro (@zTy) (@zSv))))) (And.intro (And.intro (And.intro (@zMv) (And.intro (@zNz) (@zMy))) (And.intro (@zMz) (And.intro (@pb_4) (@pb_7)))) (And.intro (And.intro (@pb_8) (And.intro (@pb_9) (@pb_10))) (And.intro (And.intro (@pb_11) (@pb_12)) (And.intro (@pb_18) (@wBy)))))
theorem costL_fold (turn:Int) : ∀ (r:List Int) (t:St5),t.be+turn * t.ch+costL (payI turn) t.a t.b t.s r=(r.foldl mstep t).be+turn * (r.foldl mstep t).ch
  | [],t=>by show t.be+turn * t.ch+0=_;rw [Int.add_zero];rfl
  | c :: r,t=>by
    rw [List.foldl_cons,← costL_fold turn r (mstep t c)]
    have e:costL (payI turn) t.a t.b t.s (c :: r)=payI turn t.a t.b t.s c+costL (payI turn) t.b c (nextSign t.s (t.d c)) r:=rfl
    rw [e,pay_cost]
    show _=t.be+max (t.d c) (0 - t.d c)+turn * (t.ch+chg t.s (t.d c))+costL (payI turn) t.b c (nextSign t.s (t.d c)) r
    rw [Int.mul_add]
    show t.be+turn * t.ch+(max (t.d c) (0 - t.d c)+turn * chg t.s (t.d c)+_)=_
    omega
theorem cost_meas (turn:Int) : ∀ xs:List Int,(measOf xs).2+turn * (measOf xs).1=Cost (payI turn) xs
  | []=>by show (0:Int)+turn * 0=0;omega
  | [x]=>by show (0:Int)+turn * 0=0;omega
  | a :: b :: r=>by
    have:=costL_fold turn r ⟨a,b,0,0,0⟩
    show (mfold a b r).be+turn * (mfold a b r).ch=costL (payI turn) a b 0 r
    unfold mfold
    rw [← this]
    show (0:Int)+turn * 0+costL (payI turn) a b 0 r=costL (payI turn) a b 0 r
    omega
theorem spotsR_ne0 {sp:List (Int × Int)} {turn:Int} (h:24<sp.length):spotsR sp turn=6:=by unfold spotsR;rw [if_pos (.inr h)]
theorem spotsR_of {sp:List (Int × Int)} {turn:Int} (h1:0<sp.length) (h2:sp.length≤24) (h3 : ∀ p ∈ sp,SpotOK p) (h4:0≤turn∧turn≤1000000):spotsR sp turn=0:=by
  unfold spotsR
  rw [if_neg (by omega),if_pos ⟨h3,h4⟩]
theorem rCheckBig (sp:List (Int × Int)) (turn:Int) (a:AV) (hn:24<sp.length) (h:H) (wf:Wf h) (hs:Sl h a 2 sp.length (zKv sp)) :
    (om Tryd.prog KK).call (.fn 18 [.agg [a,ii turn]]) h = .ok (ii 6) h:=by
  have ha1:oneB a=true∧AV.cells a=[a]:=by obtain ⟨_,⟨rfl,_⟩|⟨_,_,_,_,_,_,rfl,_⟩⟩:=hs <;> exact ⟨rfl,rfl⟩
  have hlen : ∀ h',lenE Tryd.prog 22 a h'=some (ii (sp.length:Int)):=fun h'=>hs.len yIw
  refine zWv (zLv (fn:=Tryd.f18) Tryd.func18 rfl rfl rfl rfl rfl ?_)
  simp only [zKx]
  (repeat' (first
  | (with_reducible first|refine zJz ?_|refine zGw ?_|refine zEw ?_|refine zEx ?_|refine zEv ?_|refine zJy ?_|refine zGv ?_|refine zBw ?_|refine zDx ?_|refine zBv ?_|refine zCx ?_|refine zEz ?_|refine zCw ?_|refine zCz ?_|refine zBz ?_|refine zDv ?_|refine zDy ?_|refine zAx ?_|refine zAv ?_)
  | refine zCv ?_|refine zEy rfl ?_|refine zIw ?_|refine zIv ?_
  | ((first|refine zGx rfl rfl rfl rfl rfl fun K_ hK_=>?_|refine zGy rfl rfl rfl rfl rfl fun K_ hK_=>?_);simp only [zAz,zDz,zFw,↓reduceIte,reduceCtorEq,Nat.reduceEqDiff,Bool.not_true,Bool.not_false];refine hK_ _ ?_;clear hK_ K_)
  | refine zDw (by decide) ?_
  | ((try first|refine zJx rfl rfl rfl ?_|refine zIy rfl rfl ?_|refine zJv rfl rfl rfl ?_|refine zIx rfl rfl ?_);(refine zIz fun Q_ hQ_=>?_;simp (disch:=first|omega|(simp only [List.length_cons,List.length_nil,List.length_append];omega)) only [bb,bp,zKx,↓reduceIte,reduceCtorEq,Nat.reduceEqDiff,Nat.reduceLT,Nat.reduceLeDiff,Nat.reduceAdd,Nat.reduceMul,Nat.reduceSub,Nat.reduceBEq,Int.reduceToNat,cond_true,cond_false,eq_self,beq_self_eq_true,hlen,ha1.1,ha1.2,zHz wf,zHx wf,zFz wf,zHy wf,zBx wf,tEvbV2,zHw,zAw wf];first|(refine zCy (Q:=Q_) (fun hp_=>?_) (fun hp_=>?_) <;> first|(exfalso;omega)|(refine hQ_ _ _ ?_;clear hQ_ Q_))|(refine zBy (Q:=Q_) (fun hp_=>?_) (fun hp_=>?_) <;> first|(exfalso;omega)|(refine hQ_ _ _ ?_;clear hQ_ Q_))|(refine hQ_ _ _ ?_;clear hQ_ Q_)))
  | (refine zFv fun K_ hK_=>?_;simp (disch:=omega) only [zFx,zAz,zGz,↓reduceIte,reduceCtorEq,Nat.reduceEqDiff,Nat.reduceLT];refine hK_ _ ?_;clear hK_ K_)))
  (refine zJw _ _ rfl (ret1 (by decide)) ?_;simp only [zAz,↓reduceIte,reduceCtorEq,Nat.reduceEqDiff];refine zLx rfl (by omega) ?_)
  exact ⟨rfl,rfl⟩
theorem fineSpots (sp:List (Int × Int)) (turn:Int) (a:AV) (h:H) (wf:Wf h) (hs:Sl h a 2 sp.length (zKv sp)) :
    (om Tryd.prog KK).call (.fn 7 [.agg [a,ii turn]]) h = .ok (.bool (decide (spotsR sp turn=0))) h:=by
  have ha1:oneB a=true∧AV.cells a=[a]:=by obtain ⟨_,⟨rfl,_⟩|⟨_,_,_,_,_,_,rfl,_⟩⟩:=hs <;> exact ⟨rfl,rfl⟩
  have hlen : ∀ h',lenE Tryd.prog 22 a h'=some (ii (sp.length:Int)):=fun h'=>hs.len yIw
  have hC : ∀ l w,w≤h.clock+l.length→(om Tryd.prog KK).call (.fn 18 [.agg [a,ii turn]]) (X h l w) = .ok (ii (spotsR sp turn)) (X h l w):=fun l w hw=>by
    by_cases hn:sp.length≤24
    · exact rCheckSpots sp turn a (by omega) _ (wf.X hw) (hs.up wf _ _)
    · rw [spotsR_ne0 (by omega)]
      exact rCheckBig sp turn a (by omega) _ (wf.X hw) (hs.up wf _ _)
  generalize spotsR sp turn=e at *
  refine zWv (zLv (fn:=Tryd.f7) Tryd.func7 rfl rfl rfl rfl rfl ?_)
  simp only [zKx]
  (repeat' (first
  | (with_reducible first|refine zJz ?_|refine zGw ?_|refine zEw ?_|refine zEx ?_|refine zEv ?_|refine zJy ?_|refine zGv ?_|refine zBw ?_|refine zDx ?_|refine zBv ?_|refine zCx ?_|refine zEz ?_|refine zCw ?_|refine zCz ?_|refine zBz ?_|refine zDv ?_|refine zDy ?_|refine zAx ?_|refine zAv ?_)
  | refine zCv ?_|refine zEy rfl ?_|refine zIw ?_|refine zIv ?_
  | ((first|refine zGx rfl rfl rfl rfl rfl fun K_ hK_=>?_|refine zGy rfl rfl rfl rfl rfl fun K_ hK_=>?_);simp only [zAz,zDz,zFw,↓reduceIte,reduceCtorEq,Nat.reduceEqDiff,Bool.not_true,Bool.not_false];refine hK_ _ ?_;clear hK_ K_)
  | refine zDw (by decide) ?_
  | ((try first|refine zJx rfl rfl rfl ?_|refine zIy rfl rfl ?_|refine zJv rfl rfl rfl ?_|refine zIx rfl rfl ?_);(refine zIz fun Q_ hQ_=>?_;simp (disch:=first|omega|(simp only [List.length_cons,List.length_nil,List.length_append];omega)) only [bb,bp,zKx,↓reduceIte,reduceCtorEq,Nat.reduceEqDiff,Nat.reduceLT,Nat.reduceLeDiff,Nat.reduceAdd,Nat.reduceMul,Nat.reduceSub,Nat.reduceBEq,Int.reduceToNat,cond_true,cond_false,eq_self,beq_self_eq_true,hC,ha1.1,ha1.2,zHz wf,zHx wf,zFz wf,zHy wf,zBx wf,tEvbV2,zHw,zAw wf];first|(refine zCy (Q:=Q_) (fun hp_=>?_) (fun hp_=>?_) <;> first|(exfalso;omega)|(refine hQ_ _ _ ?_;clear hQ_ Q_))|(refine zBy (Q:=Q_) (fun hp_=>?_) (fun hp_=>?_) <;> first|(exfalso;omega)|(refine hQ_ _ _ ?_;clear hQ_ Q_))|(refine hQ_ _ _ ?_;clear hQ_ Q_)))
  | (refine zFv fun K_ hK_=>?_;simp (disch:=omega) only [zFx,zAz,zGz,↓reduceIte,reduceCtorEq,Nat.reduceEqDiff,Nat.reduceLT];refine hK_ _ ?_;clear hK_ K_)))
  all_goals (refine zJw _ _ rfl (ret1 (by decide)) ?_;simp only [zAz,↓reduceIte,reduceCtorEq,Nat.reduceEqDiff];refine zLx rfl (by omega) ?_)
  all_goals exact ⟨by simp [*],rfl⟩
end Go.Proofs.YtkmdidplmfdikabDoor
end

section
namespace Go.Proofs.YtkmdidplmfdikabDoor
open Go.Ev
set_option maxRecDepth 100000
set_option linter.unusedSimpArgs false
set_option linter.unusedVariables false
set_option maxHeartbeats 4000000

theorem InR.off : ∀ {R:List (Int × Int)} {l:List Int},(∀ r ∈ R,SpotOK r)→InR R l → ∀ x ∈ l,Off x
  | [],_,_,h=>fun x hx=>by cases h;simp at hx
  | r :: R,_,hR,⟨c,cs,rfl,h1,h2,h⟩=>fun x hx=>by
    obtain ⟨⟨o1,o2⟩,⟨o3,o4⟩,_,_⟩:=hR r (by simp)
    rcases List.mem_cons.1 hx with rfl|hx
    · exact ⟨by omega,by omega⟩
    · exact InR.off (fun r hr=>hR r (by simp [hr])) h x hx
end Go.Proofs.YtkmdidplmfdikabDoor
end
