/- The statement DragSpans of layer 4: the least and the greatest coefficient are what the definition says, or the error, and a truth that is returned has the end, for all tests, lines and both ends; no condition. -/
import Derived.Test.YthaleckfgcgegaaSpaM7
import Derived.Test.YthaleckfgcgegaaRows
import Derived.WalkKit
import Derived.ProofKit
import Derived.OpenShut
set_option linter.all false
section
namespace Go.Proofs.Ythaleckfgcgegaa
open Go.Ev
set_option maxRecDepth 100000
set_option linter.unusedSimpArgs false
set_option linter.unusedVariables false
set_option maxHeartbeats 2000000
theorem tEvD30 :type_of% (And.intro (And.intro (And.intro (And.intro (And.intro (And.intro (And.intro (@yYz) (@yXv)) (And.intro (@yXw) (And.intro (@yXx) (@yXy)))) (And.intro (And.intro (@yXz) (And.intro (@yWv) (@yWw))) (And.intro (@zWz) (And.intro (@ia_2) (@sz_2))))) (And.intro (And.intro (And.intro (@ia_3) (@sz_3)) (And.intro (@ia_4) (And.intro (@sz_4) (@yWx)))) (And.intro (And.intro (@yFw) (And.intro (@yWy) (@yFx))) (And.intro (@yWz) (And.intro (@yFy) (@yVv)))))) (And.intro (And.intro (And.intro (And.intro (@yFz) (@yVw)) (And.intro (@yEv) (And.intro (@yVx) (@yEw)))) (And.intro (And.intro (@yVy) (And.intro (@yEx) (@yVz))) (And.intro (@yEy) (And.intro (@yUv) (@yEz))))) (And.intro (And.intro (And.intro (@yUw) (And.intro (@yDv) (@yUx))) (And.intro (@zYx) (And.intro (@yUy) (@yDw)))) (And.intro (And.intro (@yUz) (And.intro (@yDx) (@yTv))) (And.intro (@yDy) (And.intro (@yTw) (@yDz))))))) (And.intro (And.intro (And.intro (And.intro (And.intro (@yTx) (@yCv)) (And.intro (@yTy) (And.intro (@yCw) (@yTz)))) (And.intro (And.intro (@yCx) (And.intro (@ySv) (@yCy))) (And.intro (@ySw) (And.intro (@yCz) (@ySx))))) (And.intro (And.intro (And.intro (@yBv) (@zVv)) (And.intro (@zUx) (And.intro (@zVw) (@zUy)))) (And.intro (And.intro (@zVx) (And.intro (@zUz) (@zVy))) (And.intro (@zTv) (And.intro (@zVz) (@zTw)))))) (And.intro (And.intro (And.intro (And.intro (@zUv) (@zTx)) (And.intro (@zUw) (And.intro (@zTy) (@ze_2)))) (And.intro (And.intro (@ze_3) (And.intro (@ze_4) (@yBw))) (And.intro (@yBx) (And.intro (@yBy) (@yBz))))) (And.intro (And.intro (And.intro (@yAv) (And.intro (@yAw) (@xOw))) (And.intro (@yAx) (And.intro (@yAy) (@yAz)))) (And.intro (And.intro (@zTz) (And.intro (@zSy) (@zSz))) (And.intro (@zRv) (And.intro (@zRw) (@zRx)))))))) (And.intro (And.intro (And.intro (And.intro (And.intro (And.intro (@zRy) (@zRz)) (And.intro (@zQv) (And.intro (@zQw) (@zQx)))) (And.intro (And.intro (@zQy) (And.intro (@zQz) (@zPv))) (And.intro (@zPw) (And.intro (@zPx) (@zPy))))) (And.intro (And.intro (And.intro (@zPz) (@zOv)) (And.intro (@zOw) (And.intro (@zOx) (@zOy)))) (And.intro (And.intro (@zOz) (And.intro (@zNv) (@zNw))) (And.intro (@zNx) (And.intro (@zNy) (@zNz)))))) (And.intro (And.intro (And.intro (And.intro (@zMv) (@ySy)) (And.intro (@ySz) (And.intro (@yRv) (@yRw)))) (And.intro (And.intro (@yRx) (And.intro (@yRy) (@yRz))) (And.intro (@yQv) (And.intro (@yQw) (@yQx))))) (And.intro (And.intro (And.intro (@yQy) (And.intro (@yQz) (@yPv))) (And.intro (@yPw) (And.intro (@yPx) (@yPy)))) (And.intro (And.intro (@yPz) (And.intro (@yOv) (@yOw))) (And.intro (@yOx) (And.intro (@yOy) (@yOz))))))) (And.intro (And.intro (And.intro (And.intro (And.intro (@yNv) (@yNw)) (And.intro (@yNx) (And.intro (@yNy) (@yNz)))) (And.intro (And.intro (@yMv) (And.intro (@yMw) (@yMx))) (And.intro (@yMy) (And.intro (@yMz) (@yLv))))) (And.intro (And.intro (And.intro (@yLw) (@yLx)) (And.intro (@yLy) (And.intro (@yLz) (@yKv)))) (And.intro (And.intro (@yKw) (And.intro (@yKx) (@yKy))) (And.intro (@yKz) (And.intro (@yJv) (@yJw)))))) (And.intro (And.intro (And.intro (And.intro (@yJx) (@yJy)) (And.intro (@yJz) (And.intro (@yIv) (@yIw)))) (And.intro (And.intro (@yIx) (And.intro (@zZw) (@zZx))) (And.intro (@yIy) (And.intro (@yIz) (@yHv))))) (And.intro (And.intro (And.intro (@yHw) (And.intro (@yHx) (@yHy))) (And.intro (@yHz) (And.intro (@yGv) (@yGw)))) (And.intro (And.intro (@yGx) (And.intro (@yGy) (@zZy))) (And.intro (@yGz) (And.intro (@yFv) (@zZz))))))))):=And.intro (And.intro (And.intro (And.intro (And.intro (And.intro (And.intro (@yYz) (@yXv)) (And.intro (@yXw) (And.intro (@yXx) (@yXy)))) (And.intro (And.intro (@yXz) (And.intro (@yWv) (@yWw))) (And.intro (@zWz) (And.intro (@ia_2) (@sz_2))))) (And.intro (And.intro (And.intro (@ia_3) (@sz_3)) (And.intro (@ia_4) (And.intro (@sz_4) (@yWx)))) (And.intro (And.intro (@yFw) (And.intro (@yWy) (@yFx))) (And.intro (@yWz) (And.intro (@yFy) (@yVv)))))) (And.intro (And.intro (And.intro (And.intro (@yFz) (@yVw)) (And.intro (@yEv) (And.intro (@yVx) (@yEw)))) (And.intro (And.intro (@yVy) (And.intro (@yEx) (@yVz))) (And.intro (@yEy) (And.intro (@yUv) (@yEz))))) (And.intro (And.intro (And.intro (@yUw) (And.intro (@yDv) (@yUx))) (And.intro (@zYx) (And.intro (@yUy) (@yDw)))) (And.intro (And.intro (@yUz) (And.intro (@yDx) (@yTv))) (And.intro (@yDy) (And.intro (@yTw) (@yDz))))))) (And.intro (And.intro (And.intro (And.intro (And.intro (@yTx) (@yCv)) (And.intro (@yTy) (And.intro (@yCw) (@yTz)))) (And.intro (And.intro (@yCx) (And.intro (@ySv) (@yCy))) (And.intro (@ySw) (And.intro (@yCz) (@ySx))))) (And.intro (And.intro (And.intro (@yBv) (@zVv)) (And.intro (@zUx) (And.intro (@zVw) (@zUy)))) (And.intro (And.intro (@zVx) (And.intro (@zUz) (@zVy))) (And.intro (@zTv) (And.intro (@zVz) (@zTw)))))) (And.intro (And.intro (And.intro (And.intro (@zUv) (@zTx)) (And.intro (@zUw) (And.intro (@zTy) (@ze_2)))) (And.intro (And.intro (@ze_3) (And.intro (@ze_4) (@yBw))) (And.intro (@yBx) (And.intro (@yBy) (@yBz))))) (And.intro (And.intro (And.intro (@yAv) (And.intro (@yAw) (@xOw))) (And.intro (@yAx) (And.intro (@yAy) (@yAz)))) (And.intro (And.intro (@zTz) (And.intro (@zSy) (@zSz))) (And.intro (@zRv) (And.intro (@zRw) (@zRx)))))))) (And.intro (And.intro (And.intro (And.intro (And.intro (And.intro (@zRy) (@zRz)) (And.intro (@zQv) (And.intro (@zQw) (@zQx)))) (And.intro (And.intro (@zQy) (And.intro (@zQz) (@zPv))) (And.intro (@zPw) (And.intro (@zPx) (@zPy))))) (And.intro (And.intro (And.intro (@zPz) (@zOv)) (And.intro (@zOw) (And.intro (@zOx) (@zOy)))) (And.intro (And.intro (@zOz) (And.intro (@zNv) (@zNw))) (And.intro (@zNx) (And.intro (@zNy) (@zNz)))))) (And.intro (And.intro (And.intro (And.intro (@zMv) (@ySy)) (And.intro (@ySz) (And.intro (@yRv) (@yRw)))) (And.intro (And.intro (@yRx) (And.intro (@yRy) (@yRz))) (And.intro (@yQv) (And.intro (@yQw) (@yQx))))) (And.intro (And.intro (And.intro (@yQy) (And.intro (@yQz) (@yPv))) (And.intro (@yPw) (And.intro (@yPx) (@yPy)))) (And.intro (And.intro (@yPz) (And.intro (@yOv) (@yOw))) (And.intro (@yOx) (And.intro (@yOy) (@yOz))))))) (And.intro (And.intro (And.intro (And.intro (And.intro (@yNv) (@yNw)) (And.intro (@yNx) (And.intro (@yNy) (@yNz)))) (And.intro (And.intro (@yMv) (And.intro (@yMw) (@yMx))) (And.intro (@yMy) (And.intro (@yMz) (@yLv))))) (And.intro (And.intro (And.intro (@yLw) (@yLx)) (And.intro (@yLy) (And.intro (@yLz) (@yKv)))) (And.intro (And.intro (@yKw) (And.intro (@yKx) (@yKy))) (And.intro (@yKz) (And.intro (@yJv) (@yJw)))))) (And.intro (And.intro (And.intro (And.intro (@yJx) (@yJy)) (And.intro (@yJz) (And.intro (@yIv) (@yIw)))) (And.intro (And.intro (@yIx) (And.intro (@zZw) (@zZx))) (And.intro (@yIy) (And.intro (@yIz) (@yHv))))) (And.intro (And.intro (And.intro (@yHw) (And.intro (@yHx) (@yHy))) (And.intro (@yHz) (And.intro (@yGv) (@yGw)))) (And.intro (And.intro (@yGx) (And.intro (@yGy) (@zZy))) (And.intro (@yGz) (And.intro (@yFv) (@zZz))))))))
theorem greaterT (s:AV) (ls:List Ln) (hg:Greater ls) (h:H) (x:LinesR h s ls):(om Try.prog KK).call (.fn 25 [s]) h = .ok (.bool true) h:=by
  obtain ⟨t,ht,hc⟩:=greater s ls h x
  rw [hc,ht.2 hg]
theorem greaterF (s:AV) (ls:List Ln) (hg : ¬ Greater ls) (h:H) (x:LinesR h s ls):(om Try.prog KK).call (.fn 25 [s]) h = .ok (.bool false) h:=by
  obtain ⟨t,ht,hc⟩:=greater s ls h x
  rw [hc]
  cases t
  · rfl
  · exact absurd (ht.1 rfl) hg
def Slow (T:Te):Prop:=okT T∧40<T.o1 - T.o0
instance (T:Te):Decidable (Slow T):=by unfold Slow;infer_instance
theorem slow (T:Te) (h:H) (wf:Wf h):(om Try.prog KK).call (.fn 26 [.agg [ii T.sp,ii T.lo,ii T.we,ii T.al,ii T.f0,ii T.f1,ii T.t0,ii T.t1,ii T.s0,ii T.s1,ii T.o0,ii T.o1,ii T.b0,ii T.b1,ii T.r0,ii T.r1]]) h = .ok (.bool (decide (Slow T))) h:=by
  refine zXz (zLv (fn:=Try.f26) Try.func26 rfl rfl rfl rfl rfl ?_)
  simp only [zLz]
  by_cases k:okT T
  · have e0:=yYw k
    have ko:=k.o
    (repeat' (first
  | (with_reducible first|refine zJw ?_|refine zHz ?_|refine zFz ?_|refine zEv ?_|refine zFy ?_|refine zJv ?_|refine zHy ?_|refine zCz ?_|refine zDw ?_|refine zCy ?_|refine zCv ?_|refine zEx ?_|refine zDz ?_|refine zCx ?_|refine zBy ?_|refine zEz ?_|refine zEy ?_|refine zAv ?_|refine zBz ?_)
  | refine zDy ?_|refine zEw rfl ?_|refine zJy ?_|refine zJx ?_
  | ((first|refine zGv rfl rfl rfl rfl rfl fun K_ hK_=>?_|refine zGw rfl rfl rfl rfl rfl fun K_ hK_=>?_);simp only [zAz,zDx,zGx,↓reduceIte,reduceCtorEq,Nat.reduceEqDiff,Bool.not_true,Bool.not_false];refine hK_ _ ?_;clear hK_ K_)
  | refine zDv (by decide) ?_
  | ((try first|refine zKy rfl rfl rfl ?_|refine zJz rfl rfl ?_|refine zKx rfl rfl rfl ?_|refine zIw rfl rfl ?_);(refine zIv fun Q_ hQ_=>?_;simp (disch:=first|omega|(simp only [List.length_cons,List.length_nil,List.length_append];omega)) only [bb,bp,zLz,↓reduceIte,reduceCtorEq,Nat.reduceEqDiff,Nat.reduceLT,Nat.reduceLeDiff,Nat.reduceAdd,Nat.reduceMul,Nat.reduceSub,Nat.reduceBEq,Int.reduceToNat,cond_true,cond_false,eq_self,beq_self_eq_true,zFw wf,zGy wf,zBw wf,zFx wf,zAy wf,zAx,tEvD30,zIx,zIy,zIz,zHv,zFv,zAw wf];first|(refine zCw (Q:=Q_) (fun hp_=>?_) (fun hp_=>?_) <;> first|(exfalso;omega)|(refine hQ_ _ _ ?_;clear hQ_ Q_))|(refine zBx (Q:=Q_) (fun hp_=>?_) (fun hp_=>?_) <;> first|(exfalso;omega)|(refine hQ_ _ _ ?_;clear hQ_ Q_))|(refine hQ_ _ _ ?_;clear hQ_ Q_)|(refine zMz ((refCheckTest T _ (wf.X (Nat.le_add_right _ _))).trans (by rw [e0])) ?_;refine hQ_ _ _ ?_;clear hQ_ Q_)))
  | (refine zHx fun K_ hK_=>?_;simp (disch:=omega) only [zGz,zAz,zHw,↓reduceIte,reduceCtorEq,Nat.reduceEqDiff,Nat.reduceLT];refine hK_ _ ?_;clear hK_ K_)))
    all_goals (refine zKz _ _ rfl (ret1 (by decide)) ?_;simp only [zAz,↓reduceIte,reduceCtorEq,Nat.reduceEqDiff];refine zKw rfl (by omega) ?_)
    · exact ⟨by rw [decide_eq_true (show Slow T from ⟨k,by assumption⟩)],rfl⟩
    · exact ⟨by rw [decide_eq_false (show ¬ Slow T from fun q=>by have:=q.2;omega)],rfl⟩
  · have e0:=yZv k
    (repeat' (first
  | (with_reducible first|refine zJw ?_|refine zHz ?_|refine zFz ?_|refine zEv ?_|refine zFy ?_|refine zJv ?_|refine zHy ?_|refine zCz ?_|refine zDw ?_|refine zCy ?_|refine zCv ?_|refine zEx ?_|refine zDz ?_|refine zCx ?_|refine zBy ?_|refine zEz ?_|refine zEy ?_|refine zAv ?_|refine zBz ?_)
  | refine zDy ?_|refine zEw rfl ?_|refine zJy ?_|refine zJx ?_
  | ((first|refine zGv rfl rfl rfl rfl rfl fun K_ hK_=>?_|refine zGw rfl rfl rfl rfl rfl fun K_ hK_=>?_);simp only [zAz,zDx,zGx,↓reduceIte,reduceCtorEq,Nat.reduceEqDiff,Bool.not_true,Bool.not_false];refine hK_ _ ?_;clear hK_ K_)
  | refine zDv (by decide) ?_
  | ((try first|refine zKy rfl rfl rfl ?_|refine zJz rfl rfl ?_|refine zKx rfl rfl rfl ?_|refine zIw rfl rfl ?_);(refine zIv fun Q_ hQ_=>?_;simp (disch:=first|omega|(simp only [List.length_cons,List.length_nil,List.length_append];omega)) only [bb,bp,zLz,↓reduceIte,reduceCtorEq,Nat.reduceEqDiff,Nat.reduceLT,Nat.reduceLeDiff,Nat.reduceAdd,Nat.reduceMul,Nat.reduceSub,Nat.reduceBEq,Int.reduceToNat,cond_true,cond_false,eq_self,beq_self_eq_true,zFw wf,zGy wf,zBw wf,zFx wf,zAy wf,zAx,tEvD30,zIx,zIy,zIz,zHv,zFv,zAw wf];first|(refine zCw (Q:=Q_) (fun hp_=>?_) (fun hp_=>?_) <;> first|(exfalso;omega)|(refine hQ_ _ _ ?_;clear hQ_ Q_))|(refine zBx (Q:=Q_) (fun hp_=>?_) (fun hp_=>?_) <;> first|(exfalso;omega)|(refine hQ_ _ _ ?_;clear hQ_ Q_))|(refine hQ_ _ _ ?_;clear hQ_ Q_)|(refine zMz ((refCheckTest T _ (wf.X (Nat.le_add_right _ _))).trans (by rw [e0])) ?_;refine hQ_ _ _ ?_;clear hQ_ Q_)))
  | (refine zHx fun K_ hK_=>?_;simp (disch:=omega) only [zGz,zAz,zHw,↓reduceIte,reduceCtorEq,Nat.reduceEqDiff,Nat.reduceLT];refine hK_ _ ?_;clear hK_ K_)))
    (refine zKz _ _ rfl (ret1 (by decide)) ?_;simp only [zAz,↓reduceIte,reduceCtorEq,Nat.reduceEqDiff];refine zKw rfl (by omega) ?_)
    exact ⟨by rw [decide_eq_false (show ¬ Slow T from fun q=>k q.1)],rfl⟩
theorem refSpan (T:Te) (s:AV) (ls:List Ln) (h:H) (x:LinesR h s ls):(om Try.prog KK).call (.fn 28 [.agg [ii T.sp,ii T.lo,ii T.we,ii T.al,ii T.f0,ii T.f1,ii T.t0,ii T.t1,ii T.s0,ii T.s1,ii T.o0,ii T.o1,ii T.b0,ii T.b1,ii T.r0,ii T.r1],s]) h = .ok (.tup [.agg [ii (spanErrA T ls false),ii (spanErrA T ls true)],ii (reckErr T ls)]) h:=by
  have wf:=x.wf
  refine zXz (zLv (fn:=Try.f28) Try.func28 rfl rfl rfl rfl rfl ?_)
  simp only [zLz]
  by_cases k:okT T
  · have e0:=yYw k
    by_cases hz:linesErr ls=0
    · have hk:=yZy.1 hz
      by_cases q:rk T ls
      · have he:=reck4 k hz q
        rw [show spanErrA T ls false=_ from if_pos he,show spanErrA T ls true=_ from if_pos he,he]
        (repeat' (first
  | (with_reducible first|refine zJw ?_|refine zHz ?_|refine zFz ?_|refine zEv ?_|refine zFy ?_|refine zJv ?_|refine zHy ?_|refine zCz ?_|refine zDw ?_|refine zCy ?_|refine zCv ?_|refine zEx ?_|refine zDz ?_|refine zCx ?_|refine zBy ?_|refine zEz ?_|refine zEy ?_|refine zAv ?_|refine zBz ?_)
  | refine zDy ?_|refine zEw rfl ?_|refine zJy ?_|refine zJx ?_
  | ((first|refine zGv rfl rfl rfl rfl rfl fun K_ hK_=>?_|refine zGw rfl rfl rfl rfl rfl fun K_ hK_=>?_);simp only [zAz,zDx,zGx,↓reduceIte,reduceCtorEq,Nat.reduceEqDiff,Bool.not_true,Bool.not_false];refine hK_ _ ?_;clear hK_ K_)
  | refine zDv (by decide) ?_
  | ((try first|refine zKy rfl rfl rfl ?_|refine zJz rfl rfl ?_|refine zKx rfl rfl rfl ?_|refine zIw rfl rfl ?_);(refine zIv fun Q_ hQ_=>?_;simp (disch:=first|omega|(simp only [List.length_cons,List.length_nil,List.length_append];omega)) only [bb,bp,zLz,↓reduceIte,reduceCtorEq,Nat.reduceEqDiff,Nat.reduceLT,Nat.reduceLeDiff,Nat.reduceAdd,Nat.reduceMul,Nat.reduceSub,Nat.reduceBEq,Int.reduceToNat,cond_true,cond_false,eq_self,beq_self_eq_true,zFw wf,zGy wf,zBw wf,zFx wf,zAy wf,zAx,tEvD30,zIx,zIy,zIz,zHv,zFv,zAw wf];first|(refine zCw (Q:=Q_) (fun hp_=>?_) (fun hp_=>?_) <;> first|(exfalso;omega)|(refine hQ_ _ _ ?_;clear hQ_ Q_))|(refine zBx (Q:=Q_) (fun hp_=>?_) (fun hp_=>?_) <;> first|(exfalso;omega)|(refine hQ_ _ _ ?_;clear hQ_ Q_))|(refine hQ_ _ _ ?_;clear hQ_ Q_)|(refine zMz ((refCheckTest T _ (wf.X (Nat.le_add_right _ _))).trans (by rw [e0])) ?_;refine hQ_ _ _ ?_;clear hQ_ Q_)|(refine zMz ((refLines s ls _ (x.up _ _ (by first|omega|(simp only [List.length_append,List.length_cons,List.length_nil];omega)))).trans (by rw [hz])) ?_;refine hQ_ _ _ ?_;clear hQ_ Q_)|(refine zMz ((Reckoned T k s ls hk _ (x.up _ _ (by first|omega|(simp only [List.length_append,List.length_cons,List.length_nil];omega)))).trans (by rw [decide_eq_true q])) ?_;refine hQ_ _ _ ?_;clear hQ_ Q_)|(refine zMz (spanned T k s ls hk q _ (x.up _ _ (by first|omega|(simp only [List.length_append,List.length_cons,List.length_nil];omega)))) ?_;refine hQ_ _ _ ?_;clear hQ_ Q_)))
  | (refine zHx fun K_ hK_=>?_;simp (disch:=omega) only [zGz,zAz,zHw,↓reduceIte,reduceCtorEq,Nat.reduceEqDiff,Nat.reduceLT];refine hK_ _ ?_;clear hK_ K_)))
        refine zKz _ _ rfl (retc1 (by decide) (by decide) (by simp (disch:=first|omega|(simp only [List.length_cons,List.length_nil,List.length_append];omega)) only [bb,bp,zLz,↓reduceIte,reduceCtorEq,Nat.reduceEqDiff,Nat.reduceLT,Nat.reduceLeDiff,Nat.reduceAdd,Nat.reduceMul,Nat.reduceSub,Nat.reduceBEq,Int.reduceToNat,cond_true,cond_false,eq_self,beq_self_eq_true,zBw wf,tEvD30,zIx,zIy,zIz,zHv,zFv,zAw wf];rfl)) ?_
        refine zKw rfl (by omega) ?_
        exact ⟨rfl,rfl⟩
      · have he:=reck3 k hz q
        have hne : ¬ reckErr T ls=0:=by omega
        rw [show spanErrA T ls false=_ from if_neg hne,show spanErrA T ls true=_ from if_neg hne,he]
        (repeat' (first
  | (with_reducible first|refine zJw ?_|refine zHz ?_|refine zFz ?_|refine zEv ?_|refine zFy ?_|refine zJv ?_|refine zHy ?_|refine zCz ?_|refine zDw ?_|refine zCy ?_|refine zCv ?_|refine zEx ?_|refine zDz ?_|refine zCx ?_|refine zBy ?_|refine zEz ?_|refine zEy ?_|refine zAv ?_|refine zBz ?_)
  | refine zDy ?_|refine zEw rfl ?_|refine zJy ?_|refine zJx ?_
  | ((first|refine zGv rfl rfl rfl rfl rfl fun K_ hK_=>?_|refine zGw rfl rfl rfl rfl rfl fun K_ hK_=>?_);simp only [zAz,zDx,zGx,↓reduceIte,reduceCtorEq,Nat.reduceEqDiff,Bool.not_true,Bool.not_false];refine hK_ _ ?_;clear hK_ K_)
  | refine zDv (by decide) ?_
  | ((try first|refine zKy rfl rfl rfl ?_|refine zJz rfl rfl ?_|refine zKx rfl rfl rfl ?_|refine zIw rfl rfl ?_);(refine zIv fun Q_ hQ_=>?_;simp (disch:=first|omega|(simp only [List.length_cons,List.length_nil,List.length_append];omega)) only [bb,bp,zLz,↓reduceIte,reduceCtorEq,Nat.reduceEqDiff,Nat.reduceLT,Nat.reduceLeDiff,Nat.reduceAdd,Nat.reduceMul,Nat.reduceSub,Nat.reduceBEq,Int.reduceToNat,cond_true,cond_false,eq_self,beq_self_eq_true,zFw wf,zGy wf,zBw wf,zFx wf,zAy wf,zAx,tEvD30,zIx,zIy,zIz,zHv,zFv,zAw wf];first|(refine zCw (Q:=Q_) (fun hp_=>?_) (fun hp_=>?_) <;> first|(exfalso;omega)|(refine hQ_ _ _ ?_;clear hQ_ Q_))|(refine zBx (Q:=Q_) (fun hp_=>?_) (fun hp_=>?_) <;> first|(exfalso;omega)|(refine hQ_ _ _ ?_;clear hQ_ Q_))|(refine hQ_ _ _ ?_;clear hQ_ Q_)|(refine zMz ((refCheckTest T _ (wf.X (Nat.le_add_right _ _))).trans (by rw [e0])) ?_;refine hQ_ _ _ ?_;clear hQ_ Q_)|(refine zMz ((refLines s ls _ (x.up _ _ (by first|omega|(simp only [List.length_append,List.length_cons,List.length_nil];omega)))).trans (by rw [hz])) ?_;refine hQ_ _ _ ?_;clear hQ_ Q_)|(refine zMz ((Reckoned T k s ls hk _ (x.up _ _ (by first|omega|(simp only [List.length_append,List.length_cons,List.length_nil];omega)))).trans (by rw [decide_eq_false q])) ?_;refine hQ_ _ _ ?_;clear hQ_ Q_)))
  | (refine zHx fun K_ hK_=>?_;simp (disch:=omega) only [zGz,zAz,zHw,↓reduceIte,reduceCtorEq,Nat.reduceEqDiff,Nat.reduceLT];refine hK_ _ ?_;clear hK_ K_)))
        refine zKz _ _ rfl (retc1 (by decide) (by decide) (by simp (disch:=first|omega|(simp only [List.length_cons,List.length_nil,List.length_append];omega)) only [bb,bp,zLz,↓reduceIte,reduceCtorEq,Nat.reduceEqDiff,Nat.reduceLT,Nat.reduceLeDiff,Nat.reduceAdd,Nat.reduceMul,Nat.reduceSub,Nat.reduceBEq,Int.reduceToNat,cond_true,cond_false,eq_self,beq_self_eq_true,zBw wf,tEvD30,zIx,zIy,zIz,zHv,zFv,zAw wf];rfl)) ?_
        refine zKw rfl (by omega) ?_
        exact ⟨rfl,rfl⟩
    · have he:=reck2 k hz
      have hne : ¬ reckErr T ls=0:=by rw [he];exact hz
      rw [show spanErrA T ls false=_ from if_neg hne,show spanErrA T ls true=_ from if_neg hne,he]
      (repeat' (first
  | (with_reducible first|refine zJw ?_|refine zHz ?_|refine zFz ?_|refine zEv ?_|refine zFy ?_|refine zJv ?_|refine zHy ?_|refine zCz ?_|refine zDw ?_|refine zCy ?_|refine zCv ?_|refine zEx ?_|refine zDz ?_|refine zCx ?_|refine zBy ?_|refine zEz ?_|refine zEy ?_|refine zAv ?_|refine zBz ?_)
  | refine zDy ?_|refine zEw rfl ?_|refine zJy ?_|refine zJx ?_
  | ((first|refine zGv rfl rfl rfl rfl rfl fun K_ hK_=>?_|refine zGw rfl rfl rfl rfl rfl fun K_ hK_=>?_);simp only [zAz,zDx,zGx,↓reduceIte,reduceCtorEq,Nat.reduceEqDiff,Bool.not_true,Bool.not_false];refine hK_ _ ?_;clear hK_ K_)
  | refine zDv (by decide) ?_
  | ((try first|refine zKy rfl rfl rfl ?_|refine zJz rfl rfl ?_|refine zKx rfl rfl rfl ?_|refine zIw rfl rfl ?_);(refine zIv fun Q_ hQ_=>?_;simp (disch:=first|omega|(simp only [List.length_cons,List.length_nil,List.length_append];omega)) only [bb,bp,zLz,↓reduceIte,reduceCtorEq,Nat.reduceEqDiff,Nat.reduceLT,Nat.reduceLeDiff,Nat.reduceAdd,Nat.reduceMul,Nat.reduceSub,Nat.reduceBEq,Int.reduceToNat,cond_true,cond_false,eq_self,beq_self_eq_true,zFw wf,zGy wf,zBw wf,zFx wf,zAy wf,zAx,tEvD30,zIx,zIy,zIz,zHv,zFv,zAw wf];first|(refine zCw (Q:=Q_) (fun hp_=>?_) (fun hp_=>?_) <;> first|(exfalso;omega)|(refine hQ_ _ _ ?_;clear hQ_ Q_))|(refine zBx (Q:=Q_) (fun hp_=>?_) (fun hp_=>?_) <;> first|(exfalso;omega)|(refine hQ_ _ _ ?_;clear hQ_ Q_))|(refine hQ_ _ _ ?_;clear hQ_ Q_)|(refine zMz ((refCheckTest T _ (wf.X (Nat.le_add_right _ _))).trans (by rw [e0])) ?_;refine hQ_ _ _ ?_;clear hQ_ Q_)|(refine zMz (refLines s ls _ (x.up _ _ (by first|omega|(simp only [List.length_append,List.length_cons,List.length_nil];omega)))) ?_;refine hQ_ _ _ ?_;clear hQ_ Q_)))
  | (refine zHx fun K_ hK_=>?_;simp (disch:=omega) only [zGz,zAz,zHw,↓reduceIte,reduceCtorEq,Nat.reduceEqDiff,Nat.reduceLT];refine hK_ _ ?_;clear hK_ K_)))
      refine zKz _ _ rfl (retc1 (by decide) (by decide) (by simp (disch:=first|omega|(simp only [List.length_cons,List.length_nil,List.length_append];omega)) only [bb,bp,zLz,↓reduceIte,reduceCtorEq,Nat.reduceEqDiff,Nat.reduceLT,Nat.reduceLeDiff,Nat.reduceAdd,Nat.reduceMul,Nat.reduceSub,Nat.reduceBEq,Int.reduceToNat,cond_true,cond_false,eq_self,beq_self_eq_true,zBw wf,tEvD30,zIx,zIy,zIz,zHv,zFv,zAw wf];rfl)) ?_
      refine zKw rfl (by omega) ?_
      exact ⟨rfl,rfl⟩
  · have e0:=yZv k
    have he:=reck1 (ls:=ls) k
    have hne : ¬ reckErr T ls=0:=by omega
    rw [show spanErrA T ls false=_ from if_neg hne,show spanErrA T ls true=_ from if_neg hne,he]
    (repeat' (first
  | (with_reducible first|refine zJw ?_|refine zHz ?_|refine zFz ?_|refine zEv ?_|refine zFy ?_|refine zJv ?_|refine zHy ?_|refine zCz ?_|refine zDw ?_|refine zCy ?_|refine zCv ?_|refine zEx ?_|refine zDz ?_|refine zCx ?_|refine zBy ?_|refine zEz ?_|refine zEy ?_|refine zAv ?_|refine zBz ?_)
  | refine zDy ?_|refine zEw rfl ?_|refine zJy ?_|refine zJx ?_
  | ((first|refine zGv rfl rfl rfl rfl rfl fun K_ hK_=>?_|refine zGw rfl rfl rfl rfl rfl fun K_ hK_=>?_);simp only [zAz,zDx,zGx,↓reduceIte,reduceCtorEq,Nat.reduceEqDiff,Bool.not_true,Bool.not_false];refine hK_ _ ?_;clear hK_ K_)
  | refine zDv (by decide) ?_
  | ((try first|refine zKy rfl rfl rfl ?_|refine zJz rfl rfl ?_|refine zKx rfl rfl rfl ?_|refine zIw rfl rfl ?_);(refine zIv fun Q_ hQ_=>?_;simp (disch:=first|omega|(simp only [List.length_cons,List.length_nil,List.length_append];omega)) only [bb,bp,zLz,↓reduceIte,reduceCtorEq,Nat.reduceEqDiff,Nat.reduceLT,Nat.reduceLeDiff,Nat.reduceAdd,Nat.reduceMul,Nat.reduceSub,Nat.reduceBEq,Int.reduceToNat,cond_true,cond_false,eq_self,beq_self_eq_true,zFw wf,zGy wf,zBw wf,zFx wf,zAy wf,zAx,tEvD30,zIx,zIy,zIz,zHv,zFv,zAw wf];first|(refine zCw (Q:=Q_) (fun hp_=>?_) (fun hp_=>?_) <;> first|(exfalso;omega)|(refine hQ_ _ _ ?_;clear hQ_ Q_))|(refine zBx (Q:=Q_) (fun hp_=>?_) (fun hp_=>?_) <;> first|(exfalso;omega)|(refine hQ_ _ _ ?_;clear hQ_ Q_))|(refine hQ_ _ _ ?_;clear hQ_ Q_)|(refine zMz ((refCheckTest T _ (wf.X (Nat.le_add_right _ _))).trans (by rw [e0])) ?_;refine hQ_ _ _ ?_;clear hQ_ Q_)))
  | (refine zHx fun K_ hK_=>?_;simp (disch:=omega) only [zGz,zAz,zHw,↓reduceIte,reduceCtorEq,Nat.reduceEqDiff,Nat.reduceLT];refine hK_ _ ?_;clear hK_ K_)))
    refine zKz _ _ rfl (retc1 (by decide) (by decide) (by simp (disch:=first|omega|(simp only [List.length_cons,List.length_nil,List.length_append];omega)) only [bb,bp,zLz,↓reduceIte,reduceCtorEq,Nat.reduceEqDiff,Nat.reduceLT,Nat.reduceLeDiff,Nat.reduceAdd,Nat.reduceMul,Nat.reduceSub,Nat.reduceBEq,Int.reduceToNat,cond_true,cond_false,eq_self,beq_self_eq_true,zBw wf,tEvD30,zIx,zIy,zIz,zHv,zFv,zAw wf];rfl)) ?_
    refine zKw rfl (by omega) ?_
    exact ⟨rfl,rfl⟩
theorem EndE (T:Te) (s:AV) (ls:List Ln) (he : ¬ reckErr T ls=0) (high:Bool) (h:H) (x:LinesR h s ls) :
    (om Try.prog KK).call (.fn 29 [.agg [ii T.sp,ii T.lo,ii T.we,ii T.al,ii T.f0,ii T.f1,ii T.t0,ii T.t1,ii T.s0,ii T.s1,ii T.o0,ii T.o1,ii T.b0,ii T.b1,ii T.r0,ii T.r1],s,.bool high]) h = .ok (.tup [ii 0,.agg [ii 0,ii 0,ii 0,ii 0,ii 0,ii 0],ii (reckErr T ls)]) h:=by
  have wf:=x.wf
  have hc:=fun l w hw=>reckonedE T s ls he _ (x.up l w hw)
  unfold z17 at hc
  refine zXz (zLv (fn:=Try.f29) Try.func29 rfl rfl rfl rfl rfl ?_)
  simp only [zLz]
  (repeat' (first
  | (with_reducible first|refine zJw ?_|refine zHz ?_|refine zFz ?_|refine zEv ?_|refine zFy ?_|refine zJv ?_|refine zHy ?_|refine zCz ?_|refine zDw ?_|refine zCy ?_|refine zCv ?_|refine zEx ?_|refine zDz ?_|refine zCx ?_|refine zBy ?_|refine zEz ?_|refine zEy ?_|refine zAv ?_|refine zBz ?_)
  | refine zDy ?_|refine zEw rfl ?_|refine zJy ?_|refine zJx ?_
  | ((first|refine zGv rfl rfl rfl rfl rfl fun K_ hK_=>?_|refine zGw rfl rfl rfl rfl rfl fun K_ hK_=>?_);simp only [zAz,zDx,zGx,↓reduceIte,reduceCtorEq,Nat.reduceEqDiff,Bool.not_true,Bool.not_false];refine hK_ _ ?_;clear hK_ K_)
  | refine zDv (by decide) ?_
  | ((try first|refine zKy rfl rfl rfl ?_|refine zJz rfl rfl ?_|refine zKx rfl rfl rfl ?_|refine zIw rfl rfl ?_);(refine zIv fun Q_ hQ_=>?_;simp (disch:=first|omega|(simp only [List.length_cons,List.length_nil,List.length_append];omega)) only [bb,bp,zLz,↓reduceIte,reduceCtorEq,Nat.reduceEqDiff,Nat.reduceLT,Nat.reduceLeDiff,Nat.reduceAdd,Nat.reduceMul,Nat.reduceSub,Nat.reduceBEq,Int.reduceToNat,cond_true,cond_false,eq_self,beq_self_eq_true,zFw wf,zGy wf,zBw wf,zFx wf,zAy wf,zAx,tEvD30,zIx,zIy,zIz,zHv,zFv,zAw wf];first|(refine zCw (Q:=Q_) (fun hp_=>?_) (fun hp_=>?_) <;> first|(exfalso;omega)|(refine hQ_ _ _ ?_;clear hQ_ Q_))|(refine zBx (Q:=Q_) (fun hp_=>?_) (fun hp_=>?_) <;> first|(exfalso;omega)|(refine hQ_ _ _ ?_;clear hQ_ Q_))|(refine hQ_ _ _ ?_;clear hQ_ Q_)|(refine zMz (hc _ _ (by first|omega|(simp only [List.length_append,List.length_cons,List.length_nil];omega))) ?_;refine hQ_ _ _ ?_;clear hQ_ Q_)))
  | (refine zHx fun K_ hK_=>?_;simp (disch:=omega) only [zGz,zAz,zHw,↓reduceIte,reduceCtorEq,Nat.reduceEqDiff,Nat.reduceLT];refine hK_ _ ?_;clear hK_ K_)))
  refine zKz _ _ rfl (rettc1 (by decide) (by decide) (by decide) (by simp (disch:=first|omega|(simp only [List.length_cons,List.length_nil,List.length_append];omega)) only [bb,bp,zLz,↓reduceIte,reduceCtorEq,Nat.reduceEqDiff,Nat.reduceLT,Nat.reduceLeDiff,Nat.reduceAdd,Nat.reduceMul,Nat.reduceSub,Nat.reduceBEq,Int.reduceToNat,cond_true,cond_false,eq_self,beq_self_eq_true,zBw wf,tEvD30,zIx,zIy,zIz,zHv,zFv,zAw wf];rfl)) ?_
  refine zKw rfl (by omega) ?_
  exact ⟨rfl,rfl⟩
theorem neR {x y:Operand} {a b:Int} : binE Try.prog .neq 33 x y (.agg [ii a,ii b]) (.agg [ii a,ii b])=some (.bool false):=by
  obtain ⟨f0,f1,hu,o0,o1,t0,t1,n0,n1⟩:=under33
  exact b_neq2_self hu (by rw [t0];exact Try.underlying2) (by rw [t1];exact Try.underlying2) o0 o1 n0 n1 (by kernel_rfl) (by kernel_rfl)
theorem lawSpans (T:Te) (s:AV) (ls:List Ln) (high:Bool) (h:H) (z:LinesR h s ls):(om Try.prog KK).call (.fn 5 [.agg [ii T.sp,ii T.lo,ii T.we,ii T.al,ii T.f0,ii T.f1,ii T.t0,ii T.t1,ii T.s0,ii T.s1,ii T.o0,ii T.o1,ii T.b0,ii T.b1,ii T.r0,ii T.r1],s,.bool high]) h = .ok (.bool true) h:=by
  have wf:=z.wf
  have hl : ∀ h',lenE Try.prog 43 s h'=some (ii (ls.length:Int)):=fun h'=>z.sl.len un_43
  refine zXz (zLv (fn:=Try.f5) Try.func5 rfl rfl rfl rfl rfl ?_)
  simp only [zLz]
  by_cases hg:Greater ls
  · (repeat' (first
  | (with_reducible first|refine zJw ?_|refine zHz ?_|refine zFz ?_|refine zEv ?_|refine zFy ?_|refine zJv ?_|refine zHy ?_|refine zCz ?_|refine zDw ?_|refine zCy ?_|refine zCv ?_|refine zEx ?_|refine zDz ?_|refine zCx ?_|refine zBy ?_|refine zEz ?_|refine zEy ?_|refine zAv ?_|refine zBz ?_)
  | refine zDy ?_|refine zEw rfl ?_|refine zJy ?_|refine zJx ?_
  | ((first|refine zGv rfl rfl rfl rfl rfl fun K_ hK_=>?_|refine zGw rfl rfl rfl rfl rfl fun K_ hK_=>?_);simp only [zAz,zDx,zGx,↓reduceIte,reduceCtorEq,Nat.reduceEqDiff,Bool.not_true,Bool.not_false];refine hK_ _ ?_;clear hK_ K_)
  | refine zDv (by decide) ?_
  | ((try first|refine zKy rfl rfl rfl ?_|refine zJz rfl rfl ?_|refine zKx rfl rfl rfl ?_|refine zIw rfl rfl ?_);(refine zIv fun Q_ hQ_=>?_;simp (disch:=first|omega|(simp only [List.length_cons,List.length_nil,List.length_append];omega)) only [bb,bp,zLz,↓reduceIte,reduceCtorEq,Nat.reduceEqDiff,Nat.reduceLT,Nat.reduceLeDiff,Nat.reduceAdd,Nat.reduceMul,Nat.reduceSub,Nat.reduceBEq,Int.reduceToNat,cond_true,cond_false,eq_self,beq_self_eq_true,zFw wf,zGy wf,zBw wf,zFx wf,zAy wf,zAx,tEvD30,zIx,zIy,zIz,zHv,zFv,zAw wf];first|(refine zCw (Q:=Q_) (fun hp_=>?_) (fun hp_=>?_) <;> first|(exfalso;omega)|(refine hQ_ _ _ ?_;clear hQ_ Q_))|(refine zBx (Q:=Q_) (fun hp_=>?_) (fun hp_=>?_) <;> first|(exfalso;omega)|(refine hQ_ _ _ ?_;clear hQ_ Q_))|(refine hQ_ _ _ ?_;clear hQ_ Q_)|(refine zMz (greaterT s ls hg _ (z.up _ _ (by first|omega|(simp only [List.length_append,List.length_cons,List.length_nil];omega)))) ?_;refine hQ_ _ _ ?_;clear hQ_ Q_)|(refine zMz (works _) ?_;refine hQ_ _ _ ?_;clear hQ_ Q_)))
  | (refine zHx fun K_ hK_=>?_;simp (disch:=omega) only [zGz,zAz,zHw,↓reduceIte,reduceCtorEq,Nat.reduceEqDiff,Nat.reduceLT];refine hK_ _ ?_;clear hK_ K_)))
    (refine zKz _ _ rfl (ret1 (by decide)) ?_;simp only [zAz,↓reduceIte,reduceCtorEq,Nat.reduceEqDiff];refine zKw rfl (by omega) ?_)
    exact ⟨rfl,rfl⟩
  by_cases hs:Slow T
  · (repeat' (first
  | (with_reducible first|refine zJw ?_|refine zHz ?_|refine zFz ?_|refine zEv ?_|refine zFy ?_|refine zJv ?_|refine zHy ?_|refine zCz ?_|refine zDw ?_|refine zCy ?_|refine zCv ?_|refine zEx ?_|refine zDz ?_|refine zCx ?_|refine zBy ?_|refine zEz ?_|refine zEy ?_|refine zAv ?_|refine zBz ?_)
  | refine zDy ?_|refine zEw rfl ?_|refine zJy ?_|refine zJx ?_
  | ((first|refine zGv rfl rfl rfl rfl rfl fun K_ hK_=>?_|refine zGw rfl rfl rfl rfl rfl fun K_ hK_=>?_);simp only [zAz,zDx,zGx,↓reduceIte,reduceCtorEq,Nat.reduceEqDiff,Bool.not_true,Bool.not_false];refine hK_ _ ?_;clear hK_ K_)
  | refine zDv (by decide) ?_
  | ((try first|refine zKy rfl rfl rfl ?_|refine zJz rfl rfl ?_|refine zKx rfl rfl rfl ?_|refine zIw rfl rfl ?_);(refine zIv fun Q_ hQ_=>?_;simp (disch:=first|omega|(simp only [List.length_cons,List.length_nil,List.length_append];omega)) only [bb,bp,zLz,↓reduceIte,reduceCtorEq,Nat.reduceEqDiff,Nat.reduceLT,Nat.reduceLeDiff,Nat.reduceAdd,Nat.reduceMul,Nat.reduceSub,Nat.reduceBEq,Int.reduceToNat,cond_true,cond_false,eq_self,beq_self_eq_true,zFw wf,zGy wf,zBw wf,zFx wf,zAy wf,zAx,tEvD30,zIx,zIy,zIz,zHv,zFv,zAw wf];first|(refine zCw (Q:=Q_) (fun hp_=>?_) (fun hp_=>?_) <;> first|(exfalso;omega)|(refine hQ_ _ _ ?_;clear hQ_ Q_))|(refine zBx (Q:=Q_) (fun hp_=>?_) (fun hp_=>?_) <;> first|(exfalso;omega)|(refine hQ_ _ _ ?_;clear hQ_ Q_))|(refine hQ_ _ _ ?_;clear hQ_ Q_)|(refine zMz (greaterF s ls hg _ (z.up _ _ (by first|omega|(simp only [List.length_append,List.length_cons,List.length_nil];omega)))) ?_;refine hQ_ _ _ ?_;clear hQ_ Q_)|(refine zMz ((slow T _ (wf.X (Nat.le_add_right _ _))).trans (by rw [decide_eq_true hs])) ?_;refine hQ_ _ _ ?_;clear hQ_ Q_)|(refine zMz (works _) ?_;refine hQ_ _ _ ?_;clear hQ_ Q_)))
  | (refine zHx fun K_ hK_=>?_;simp (disch:=omega) only [zGz,zAz,zHw,↓reduceIte,reduceCtorEq,Nat.reduceEqDiff,Nat.reduceLT];refine hK_ _ ?_;clear hK_ K_)))
    (refine zKz _ _ rfl (ret1 (by decide)) ?_;simp only [zAz,↓reduceIte,reduceCtorEq,Nat.reduceEqDiff];refine zKw rfl (by omega) ?_)
    exact ⟨rfl,rfl⟩
  have sp:=fun l w hw=>Span T s ls _ (z.up l w hw)
  have rsp:=fun l w hw=>refSpan T s ls _ (z.up l w hw)
  by_cases he:reckErr T ls=0
  · obtain ⟨k,hk,hr⟩:=fine_of he
    have ko:=k.o
    have hn4:=hk.n
    have hcnt:(cnt T:Int)=T.o1 - T.o0+1:=by unfold cnt;omega
    have hf:Fine T ls:=⟨hg,k,hk,hr⟩
    rw [he,show spanErrA T ls false=_ from if_pos he,show spanErrA T ls true=_ from if_pos he] at sp rsp
    obtain ⟨i,q,hi,hq,hit,hc1⟩:=EndOK T s ls he high _ (z.up [.cells (zBv [ii T.sp,ii T.lo,ii T.we,ii T.al,ii T.f0,ii T.f1,ii T.t0,ii T.t1,ii T.s0,ii T.s1,ii T.o0,ii T.o1,ii T.b0,ii T.b1,ii T.r0,ii T.r1]) 35,.cells (zBv [ii (spanV T ls false),ii (spanV T ls true)]) 33,.cells (zBv [ii (spanV T ls false),ii (spanV T ls true)]) 33] h.clock (Nat.le_add_right _ _))
    have kx:=xDv k high (o:=T.o0+(q:Int)) ⟨by omega,by omega⟩
    obtain ⟨s1,s2⟩:=shipOK hf (List.getElem_mem hi) kx
    unfold cg at hit
    rw [hit] at s2
    unfold trC at hc1
    generalize cand T high (T.o0+(q:Int))=x at *
    obtain ⟨id,off,hix,hld,hln⟩:=z.at ik_43 hi
    obtain ⟨⟨fa,fa'⟩,⟨fb,fb'⟩⟩:=hln.flats
    have r1:=fun l w hw=>(refShip T ls[i].a ls[i].b ls[i].re ls[i].cf x _ (hln.up l w hw)).trans (by rw [s1,s2])
    clear s1 s2 hit kx
    cases high
    · (repeat' (first
  | (with_reducible first|refine zJw ?_|refine zHz ?_|refine zFz ?_|refine zEv ?_|refine zFy ?_|refine zJv ?_|refine zHy ?_|refine zCz ?_|refine zDw ?_|refine zCy ?_|refine zCv ?_|refine zEx ?_|refine zDz ?_|refine zCx ?_|refine zBy ?_|refine zEz ?_|refine zEy ?_|refine zAv ?_|refine zBz ?_)
  | refine zDy ?_|refine zEw rfl ?_|refine zJy ?_|refine zJx ?_
  | ((first|refine zGv rfl rfl rfl rfl rfl fun K_ hK_=>?_|refine zGw rfl rfl rfl rfl rfl fun K_ hK_=>?_);simp only [zAz,zDx,zGx,↓reduceIte,reduceCtorEq,Nat.reduceEqDiff,Bool.not_true,Bool.not_false];refine hK_ _ ?_;clear hK_ K_)
  | refine zDv (by decide) ?_
  | ((try first|refine zKy rfl rfl rfl ?_|refine zJz rfl rfl ?_|refine zKx rfl rfl rfl ?_|refine zIw rfl rfl ?_);(refine zIv fun Q_ hQ_=>?_;simp (disch:=first|omega|(simp only [List.length_cons,List.length_nil,List.length_append];omega)) only [bb,bp,zLz,↓reduceIte,reduceCtorEq,Nat.reduceEqDiff,Nat.reduceLT,Nat.reduceLeDiff,Nat.reduceAdd,Nat.reduceMul,Nat.reduceSub,Nat.reduceBEq,Int.reduceToNat,cond_true,cond_false,eq_self,beq_self_eq_true,neR,zFw wf,zGy wf,zBw wf,zFx wf,zAy wf,zAx,tEvD30,zIx,zIy,zIz,zHv,zFv,zAw wf];first|(refine zCw (Q:=Q_) (fun hp_=>?_) (fun hp_=>?_) <;> first|(exfalso;omega)|(refine hQ_ _ _ ?_;clear hQ_ Q_))|(refine zBx (Q:=Q_) (fun hp_=>?_) (fun hp_=>?_) <;> first|(exfalso;omega)|(refine hQ_ _ _ ?_;clear hQ_ Q_))|(refine hQ_ _ _ ?_;clear hQ_ Q_)|(refine zMz (greaterF s ls hg _ (z.up _ _ (by first|omega|(simp only [List.length_append,List.length_cons,List.length_nil];omega)))) ?_;refine hQ_ _ _ ?_;clear hQ_ Q_)|(refine zMz ((slow T _ (wf.X (Nat.le_add_right _ _))).trans (by rw [decide_eq_false hs])) ?_;refine hQ_ _ _ ?_;clear hQ_ Q_)|(refine zMz (sp _ _ (by first|omega|(simp only [List.length_append,List.length_cons,List.length_nil];omega))) ?_;refine hQ_ _ _ ?_;clear hQ_ Q_)|(refine zMz (rsp _ _ (by first|omega|(simp only [List.length_append,List.length_cons,List.length_nil];omega))) ?_;refine hQ_ _ _ ?_;clear hQ_ Q_)|(refine zMz (hc1) ?_;refine hQ_ _ _ ?_;clear hQ_ Q_)))
  | (refine zHx fun K_ hK_=>?_;simp (disch:=omega) only [zGz,zAz,zHw,↓reduceIte,reduceCtorEq,Nat.reduceEqDiff,Nat.reduceLT];refine hK_ _ ?_;clear hK_ K_)))
      (repeat' (first
  | (with_reducible first|refine zJw ?_|refine zHz ?_|refine zFz ?_|refine zEv ?_|refine zFy ?_|refine zJv ?_|refine zHy ?_|refine zCz ?_|refine zDw ?_|refine zCy ?_|refine zCv ?_|refine zEx ?_|refine zDz ?_|refine zCx ?_|refine zBy ?_|refine zEz ?_|refine zEy ?_|refine zAv ?_|refine zBz ?_)
  | refine zDy ?_|refine zEw rfl ?_|refine zJy ?_|refine zJx ?_
  | ((first|refine zGv rfl rfl rfl rfl rfl fun K_ hK_=>?_|refine zGw rfl rfl rfl rfl rfl fun K_ hK_=>?_);simp only [zAz,zDx,zGx,↓reduceIte,reduceCtorEq,Nat.reduceEqDiff,Bool.not_true,Bool.not_false];refine hK_ _ ?_;clear hK_ K_)
  | refine zDv (by decide) ?_
  | ((try first|refine zKy rfl rfl rfl ?_|refine zJz rfl rfl ?_|refine zKx rfl rfl rfl ?_|refine zIw rfl rfl ?_);(refine zIv fun Q_ hQ_=>?_;simp (disch:=first|omega|(simp only [List.length_cons,List.length_nil,List.length_append];omega)) only [bb,bp,zLz,↓reduceIte,reduceCtorEq,Nat.reduceEqDiff,Nat.reduceLT,Nat.reduceLeDiff,Nat.reduceAdd,Nat.reduceMul,Nat.reduceSub,Nat.reduceBEq,Int.reduceToNat,cond_true,cond_false,eq_self,beq_self_eq_true,hl,zFw wf,zGy wf,zBw wf,zFx wf,zAy wf,zAx,tEvD30,zIx,zIy,zIz,zHv,zFv,zAw wf];first|(refine zCw (Q:=Q_) (fun hp_=>?_) (fun hp_=>?_) <;> first|(exfalso;omega)|(refine hQ_ _ _ ?_;clear hQ_ Q_))|(refine zBx (Q:=Q_) (fun hp_=>?_) (fun hp_=>?_) <;> first|(exfalso;omega)|(refine hQ_ _ _ ?_;clear hQ_ Q_))|(refine hQ_ _ _ ?_;clear hQ_ Q_)))
  | (refine zHx fun K_ hK_=>?_;simp (disch:=omega) only [zGz,zAz,zHw,↓reduceIte,reduceCtorEq,Nat.reduceEqDiff,Nat.reduceLT];refine hK_ _ ?_;clear hK_ K_)))
      refine zLx [.no,.no,.no,.no,.no,.no,.full,.full,.full,.full,.full,.full] (by kernel_rfl) ?_
      (repeat' (first
  | (with_reducible first|refine zJw ?_|refine zHz ?_|refine zFz ?_|refine zEv ?_|refine zFy ?_|refine zJv ?_|refine zHy ?_|refine zCz ?_|refine zDw ?_|refine zCy ?_|refine zCv ?_|refine zEx ?_|refine zDz ?_|refine zCx ?_|refine zBy ?_|refine zEz ?_|refine zEy ?_|refine zAv ?_|refine zBz ?_)
  | refine zDy ?_|refine zEw rfl ?_|refine zJy ?_|refine zJx ?_
  | ((first|refine zGv rfl rfl rfl rfl rfl fun K_ hK_=>?_|refine zGw rfl rfl rfl rfl rfl fun K_ hK_=>?_);simp only [zAz,zDx,zGx,↓reduceIte,reduceCtorEq,Nat.reduceEqDiff,Bool.not_true,Bool.not_false];refine hK_ _ ?_;clear hK_ K_)
  | refine zDv (by decide) ?_
  | ((try first|refine zKy rfl rfl rfl ?_|refine zJz rfl rfl ?_|refine zKx rfl rfl rfl ?_|refine zIw rfl rfl ?_);(refine zIv fun Q_ hQ_=>?_;simp (disch:=first|omega|(simp only [List.length_cons,List.length_nil,List.length_append];omega)) only [bb,bp,zLz,↓reduceIte,reduceCtorEq,Nat.reduceEqDiff,Nat.reduceLT,Nat.reduceLeDiff,Nat.reduceAdd,Nat.reduceMul,Nat.reduceSub,Nat.reduceBEq,Int.reduceToNat,cond_true,cond_false,eq_self,beq_self_eq_true,hix,hld,fa,fb,fa',fb',r1,zFw wf,zGy wf,zBw wf,zFx wf,zAy wf,zAx,tEvD30,zIx,zIy,zIz,zHv,zFv,zAw wf];first|(refine zCw (Q:=Q_) (fun hp_=>?_) (fun hp_=>?_) <;> first|(exfalso;omega)|(refine hQ_ _ _ ?_;clear hQ_ Q_))|(refine zBx (Q:=Q_) (fun hp_=>?_) (fun hp_=>?_) <;> first|(exfalso;omega)|(refine hQ_ _ _ ?_;clear hQ_ Q_))|(refine hQ_ _ _ ?_;clear hQ_ Q_)))
  | (refine zHx fun K_ hK_=>?_;simp (disch:=omega) only [zGz,zAz,zHw,↓reduceIte,reduceCtorEq,Nat.reduceEqDiff,Nat.reduceLT];refine hK_ _ ?_;clear hK_ K_)))
      (repeat' (first
  | (with_reducible first|refine zJw ?_|refine zHz ?_|refine zFz ?_|refine zEv ?_|refine zFy ?_|refine zJv ?_|refine zHy ?_|refine zCz ?_|refine zDw ?_|refine zCy ?_|refine zCv ?_|refine zEx ?_|refine zDz ?_|refine zCx ?_|refine zBy ?_|refine zEz ?_|refine zEy ?_|refine zAv ?_|refine zBz ?_)
  | refine zDy ?_|refine zEw rfl ?_|refine zJy ?_|refine zJx ?_
  | ((first|refine zGv rfl rfl rfl rfl rfl fun K_ hK_=>?_|refine zGw rfl rfl rfl rfl rfl fun K_ hK_=>?_);simp only [zAz,zDx,zGx,↓reduceIte,reduceCtorEq,Nat.reduceEqDiff,Bool.not_true,Bool.not_false];refine hK_ _ ?_;clear hK_ K_)
  | refine zDv (by decide) ?_
  | ((try first|refine zKy rfl rfl rfl ?_|refine zJz rfl rfl ?_|refine zKx rfl rfl rfl ?_|refine zIw rfl rfl ?_);(refine zIv fun Q_ hQ_=>?_;simp (disch:=first|omega|(simp only [List.length_cons,List.length_nil,List.length_append];omega)) only [bb,bp,zLz,↓reduceIte,reduceCtorEq,Nat.reduceEqDiff,Nat.reduceLT,Nat.reduceLeDiff,Nat.reduceAdd,Nat.reduceMul,Nat.reduceSub,Nat.reduceBEq,Int.reduceToNat,cond_true,cond_false,eq_self,beq_self_eq_true,zFw wf,zGy wf,zBw wf,zFx wf,zAy wf,zAx,tEvD30,zIx,zIy,zIz,zHv,zFv,zAw wf];first|(refine zCw (Q:=Q_) (fun hp_=>?_) (fun hp_=>?_) <;> first|(exfalso;omega)|(refine hQ_ _ _ ?_;clear hQ_ Q_))|(refine zBx (Q:=Q_) (fun hp_=>?_) (fun hp_=>?_) <;> first|(exfalso;omega)|(refine hQ_ _ _ ?_;clear hQ_ Q_))|(refine hQ_ _ _ ?_;clear hQ_ Q_)|(refine zMz (works _) ?_;refine hQ_ _ _ ?_;clear hQ_ Q_)))
  | (refine zHx fun K_ hK_=>?_;simp (disch:=omega) only [zGz,zAz,zHw,↓reduceIte,reduceCtorEq,Nat.reduceEqDiff,Nat.reduceLT];refine hK_ _ ?_;clear hK_ K_)))
      (refine zKz _ _ rfl (ret1 (by decide)) ?_;simp only [zAz,↓reduceIte,reduceCtorEq,Nat.reduceEqDiff];refine zKw rfl (by omega) ?_)
      exact ⟨rfl,rfl⟩
    · (repeat' (first
  | (with_reducible first|refine zJw ?_|refine zHz ?_|refine zFz ?_|refine zEv ?_|refine zFy ?_|refine zJv ?_|refine zHy ?_|refine zCz ?_|refine zDw ?_|refine zCy ?_|refine zCv ?_|refine zEx ?_|refine zDz ?_|refine zCx ?_|refine zBy ?_|refine zEz ?_|refine zEy ?_|refine zAv ?_|refine zBz ?_)
  | refine zDy ?_|refine zEw rfl ?_|refine zJy ?_|refine zJx ?_
  | ((first|refine zGv rfl rfl rfl rfl rfl fun K_ hK_=>?_|refine zGw rfl rfl rfl rfl rfl fun K_ hK_=>?_);simp only [zAz,zDx,zGx,↓reduceIte,reduceCtorEq,Nat.reduceEqDiff,Bool.not_true,Bool.not_false];refine hK_ _ ?_;clear hK_ K_)
  | refine zDv (by decide) ?_
  | ((try first|refine zKy rfl rfl rfl ?_|refine zJz rfl rfl ?_|refine zKx rfl rfl rfl ?_|refine zIw rfl rfl ?_);(refine zIv fun Q_ hQ_=>?_;simp (disch:=first|omega|(simp only [List.length_cons,List.length_nil,List.length_append];omega)) only [bb,bp,zLz,↓reduceIte,reduceCtorEq,Nat.reduceEqDiff,Nat.reduceLT,Nat.reduceLeDiff,Nat.reduceAdd,Nat.reduceMul,Nat.reduceSub,Nat.reduceBEq,Int.reduceToNat,cond_true,cond_false,eq_self,beq_self_eq_true,neR,zFw wf,zGy wf,zBw wf,zFx wf,zAy wf,zAx,tEvD30,zIx,zIy,zIz,zHv,zFv,zAw wf];first|(refine zCw (Q:=Q_) (fun hp_=>?_) (fun hp_=>?_) <;> first|(exfalso;omega)|(refine hQ_ _ _ ?_;clear hQ_ Q_))|(refine zBx (Q:=Q_) (fun hp_=>?_) (fun hp_=>?_) <;> first|(exfalso;omega)|(refine hQ_ _ _ ?_;clear hQ_ Q_))|(refine hQ_ _ _ ?_;clear hQ_ Q_)|(refine zMz (greaterF s ls hg _ (z.up _ _ (by first|omega|(simp only [List.length_append,List.length_cons,List.length_nil];omega)))) ?_;refine hQ_ _ _ ?_;clear hQ_ Q_)|(refine zMz ((slow T _ (wf.X (Nat.le_add_right _ _))).trans (by rw [decide_eq_false hs])) ?_;refine hQ_ _ _ ?_;clear hQ_ Q_)|(refine zMz (sp _ _ (by first|omega|(simp only [List.length_append,List.length_cons,List.length_nil];omega))) ?_;refine hQ_ _ _ ?_;clear hQ_ Q_)|(refine zMz (rsp _ _ (by first|omega|(simp only [List.length_append,List.length_cons,List.length_nil];omega))) ?_;refine hQ_ _ _ ?_;clear hQ_ Q_)|(refine zMz (hc1) ?_;refine hQ_ _ _ ?_;clear hQ_ Q_)))
  | (refine zHx fun K_ hK_=>?_;simp (disch:=omega) only [zGz,zAz,zHw,↓reduceIte,reduceCtorEq,Nat.reduceEqDiff,Nat.reduceLT];refine hK_ _ ?_;clear hK_ K_)))
      (repeat' (first
  | (with_reducible first|refine zJw ?_|refine zHz ?_|refine zFz ?_|refine zEv ?_|refine zFy ?_|refine zJv ?_|refine zHy ?_|refine zCz ?_|refine zDw ?_|refine zCy ?_|refine zCv ?_|refine zEx ?_|refine zDz ?_|refine zCx ?_|refine zBy ?_|refine zEz ?_|refine zEy ?_|refine zAv ?_|refine zBz ?_)
  | refine zDy ?_|refine zEw rfl ?_|refine zJy ?_|refine zJx ?_
  | ((first|refine zGv rfl rfl rfl rfl rfl fun K_ hK_=>?_|refine zGw rfl rfl rfl rfl rfl fun K_ hK_=>?_);simp only [zAz,zDx,zGx,↓reduceIte,reduceCtorEq,Nat.reduceEqDiff,Bool.not_true,Bool.not_false];refine hK_ _ ?_;clear hK_ K_)
  | refine zDv (by decide) ?_
  | ((try first|refine zKy rfl rfl rfl ?_|refine zJz rfl rfl ?_|refine zKx rfl rfl rfl ?_|refine zIw rfl rfl ?_);(refine zIv fun Q_ hQ_=>?_;simp (disch:=first|omega|(simp only [List.length_cons,List.length_nil,List.length_append];omega)) only [bb,bp,zLz,↓reduceIte,reduceCtorEq,Nat.reduceEqDiff,Nat.reduceLT,Nat.reduceLeDiff,Nat.reduceAdd,Nat.reduceMul,Nat.reduceSub,Nat.reduceBEq,Int.reduceToNat,cond_true,cond_false,eq_self,beq_self_eq_true,hl,zFw wf,zGy wf,zBw wf,zFx wf,zAy wf,zAx,tEvD30,zIx,zIy,zIz,zHv,zFv,zAw wf];first|(refine zCw (Q:=Q_) (fun hp_=>?_) (fun hp_=>?_) <;> first|(exfalso;omega)|(refine hQ_ _ _ ?_;clear hQ_ Q_))|(refine zBx (Q:=Q_) (fun hp_=>?_) (fun hp_=>?_) <;> first|(exfalso;omega)|(refine hQ_ _ _ ?_;clear hQ_ Q_))|(refine hQ_ _ _ ?_;clear hQ_ Q_)))
  | (refine zHx fun K_ hK_=>?_;simp (disch:=omega) only [zGz,zAz,zHw,↓reduceIte,reduceCtorEq,Nat.reduceEqDiff,Nat.reduceLT];refine hK_ _ ?_;clear hK_ K_)))
      refine zLx [.no,.no,.no,.no,.no,.no,.full,.full,.full,.full,.full,.full] (by kernel_rfl) ?_
      (repeat' (first
  | (with_reducible first|refine zJw ?_|refine zHz ?_|refine zFz ?_|refine zEv ?_|refine zFy ?_|refine zJv ?_|refine zHy ?_|refine zCz ?_|refine zDw ?_|refine zCy ?_|refine zCv ?_|refine zEx ?_|refine zDz ?_|refine zCx ?_|refine zBy ?_|refine zEz ?_|refine zEy ?_|refine zAv ?_|refine zBz ?_)
  | refine zDy ?_|refine zEw rfl ?_|refine zJy ?_|refine zJx ?_
  | ((first|refine zGv rfl rfl rfl rfl rfl fun K_ hK_=>?_|refine zGw rfl rfl rfl rfl rfl fun K_ hK_=>?_);simp only [zAz,zDx,zGx,↓reduceIte,reduceCtorEq,Nat.reduceEqDiff,Bool.not_true,Bool.not_false];refine hK_ _ ?_;clear hK_ K_)
  | refine zDv (by decide) ?_
  | ((try first|refine zKy rfl rfl rfl ?_|refine zJz rfl rfl ?_|refine zKx rfl rfl rfl ?_|refine zIw rfl rfl ?_);(refine zIv fun Q_ hQ_=>?_;simp (disch:=first|omega|(simp only [List.length_cons,List.length_nil,List.length_append];omega)) only [bb,bp,zLz,↓reduceIte,reduceCtorEq,Nat.reduceEqDiff,Nat.reduceLT,Nat.reduceLeDiff,Nat.reduceAdd,Nat.reduceMul,Nat.reduceSub,Nat.reduceBEq,Int.reduceToNat,cond_true,cond_false,eq_self,beq_self_eq_true,hix,hld,fa,fb,fa',fb',r1,zFw wf,zGy wf,zBw wf,zFx wf,zAy wf,zAx,tEvD30,zIx,zIy,zIz,zHv,zFv,zAw wf];first|(refine zCw (Q:=Q_) (fun hp_=>?_) (fun hp_=>?_) <;> first|(exfalso;omega)|(refine hQ_ _ _ ?_;clear hQ_ Q_))|(refine zBx (Q:=Q_) (fun hp_=>?_) (fun hp_=>?_) <;> first|(exfalso;omega)|(refine hQ_ _ _ ?_;clear hQ_ Q_))|(refine hQ_ _ _ ?_;clear hQ_ Q_)))
  | (refine zHx fun K_ hK_=>?_;simp (disch:=omega) only [zGz,zAz,zHw,↓reduceIte,reduceCtorEq,Nat.reduceEqDiff,Nat.reduceLT];refine hK_ _ ?_;clear hK_ K_)))
      (repeat' (first
  | (with_reducible first|refine zJw ?_|refine zHz ?_|refine zFz ?_|refine zEv ?_|refine zFy ?_|refine zJv ?_|refine zHy ?_|refine zCz ?_|refine zDw ?_|refine zCy ?_|refine zCv ?_|refine zEx ?_|refine zDz ?_|refine zCx ?_|refine zBy ?_|refine zEz ?_|refine zEy ?_|refine zAv ?_|refine zBz ?_)
  | refine zDy ?_|refine zEw rfl ?_|refine zJy ?_|refine zJx ?_
  | ((first|refine zGv rfl rfl rfl rfl rfl fun K_ hK_=>?_|refine zGw rfl rfl rfl rfl rfl fun K_ hK_=>?_);simp only [zAz,zDx,zGx,↓reduceIte,reduceCtorEq,Nat.reduceEqDiff,Bool.not_true,Bool.not_false];refine hK_ _ ?_;clear hK_ K_)
  | refine zDv (by decide) ?_
  | ((try first|refine zKy rfl rfl rfl ?_|refine zJz rfl rfl ?_|refine zKx rfl rfl rfl ?_|refine zIw rfl rfl ?_);(refine zIv fun Q_ hQ_=>?_;simp (disch:=first|omega|(simp only [List.length_cons,List.length_nil,List.length_append];omega)) only [bb,bp,zLz,↓reduceIte,reduceCtorEq,Nat.reduceEqDiff,Nat.reduceLT,Nat.reduceLeDiff,Nat.reduceAdd,Nat.reduceMul,Nat.reduceSub,Nat.reduceBEq,Int.reduceToNat,cond_true,cond_false,eq_self,beq_self_eq_true,zFw wf,zGy wf,zBw wf,zFx wf,zAy wf,zAx,tEvD30,zIx,zIy,zIz,zHv,zFv,zAw wf];first|(refine zCw (Q:=Q_) (fun hp_=>?_) (fun hp_=>?_) <;> first|(exfalso;omega)|(refine hQ_ _ _ ?_;clear hQ_ Q_))|(refine zBx (Q:=Q_) (fun hp_=>?_) (fun hp_=>?_) <;> first|(exfalso;omega)|(refine hQ_ _ _ ?_;clear hQ_ Q_))|(refine hQ_ _ _ ?_;clear hQ_ Q_)|(refine zMz (works _) ?_;refine hQ_ _ _ ?_;clear hQ_ Q_)))
  | (refine zHx fun K_ hK_=>?_;simp (disch:=omega) only [zGz,zAz,zHw,↓reduceIte,reduceCtorEq,Nat.reduceEqDiff,Nat.reduceLT];refine hK_ _ ?_;clear hK_ K_)))
      (refine zKz _ _ rfl (ret1 (by decide)) ?_;simp only [zAz,↓reduceIte,reduceCtorEq,Nat.reduceEqDiff];refine zKw rfl (by omega) ?_)
      exact ⟨rfl,rfl⟩
  · have en:=fun l w hw=>EndE T s ls he high _ (z.up l w hw)
    rw [show spanErrA T ls false=_ from if_neg he,show spanErrA T ls true=_ from if_neg he] at sp rsp
    have hq0:decide ((0:Int)=0∧(0:Int)=0∧(0:Int)=0∧(0:Int)=0∧(0:Int)=0∧(0:Int)=0)=true:=by decide
    generalize reckErr T ls=e at *
    (repeat' (first
  | (with_reducible first|refine zJw ?_|refine zHz ?_|refine zFz ?_|refine zEv ?_|refine zFy ?_|refine zJv ?_|refine zHy ?_|refine zCz ?_|refine zDw ?_|refine zCy ?_|refine zCv ?_|refine zEx ?_|refine zDz ?_|refine zCx ?_|refine zBy ?_|refine zEz ?_|refine zEy ?_|refine zAv ?_|refine zBz ?_)
  | refine zDy ?_|refine zEw rfl ?_|refine zJy ?_|refine zJx ?_
  | ((first|refine zGv rfl rfl rfl rfl rfl fun K_ hK_=>?_|refine zGw rfl rfl rfl rfl rfl fun K_ hK_=>?_);simp only [zAz,zDx,zGx,↓reduceIte,reduceCtorEq,Nat.reduceEqDiff,Bool.not_true,Bool.not_false];refine hK_ _ ?_;clear hK_ K_)
  | refine zDv (by decide) ?_
  | ((try first|refine zKy rfl rfl rfl ?_|refine zJz rfl rfl ?_|refine zKx rfl rfl rfl ?_|refine zIw rfl rfl ?_);(refine zIv fun Q_ hQ_=>?_;simp (disch:=first|omega|(simp only [List.length_cons,List.length_nil,List.length_append];omega)) only [bb,bp,zLz,↓reduceIte,reduceCtorEq,Nat.reduceEqDiff,Nat.reduceLT,Nat.reduceLeDiff,Nat.reduceAdd,Nat.reduceMul,Nat.reduceSub,Nat.reduceBEq,Int.reduceToNat,cond_true,cond_false,eq_self,beq_self_eq_true,neR,eqT,hq0,zFw wf,zGy wf,zBw wf,zFx wf,zAy wf,zAx,tEvD30,zIx,zIy,zIz,zHv,zFv,zAw wf];first|(refine zCw (Q:=Q_) (fun hp_=>?_) (fun hp_=>?_) <;> first|(exfalso;omega)|(refine hQ_ _ _ ?_;clear hQ_ Q_))|(refine zBx (Q:=Q_) (fun hp_=>?_) (fun hp_=>?_) <;> first|(exfalso;omega)|(refine hQ_ _ _ ?_;clear hQ_ Q_))|(refine hQ_ _ _ ?_;clear hQ_ Q_)|(refine zMz (greaterF s ls hg _ (z.up _ _ (by first|omega|(simp only [List.length_append,List.length_cons,List.length_nil];omega)))) ?_;refine hQ_ _ _ ?_;clear hQ_ Q_)|(refine zMz ((slow T _ (wf.X (Nat.le_add_right _ _))).trans (by rw [decide_eq_false hs])) ?_;refine hQ_ _ _ ?_;clear hQ_ Q_)|(refine zMz (sp _ _ (by first|omega|(simp only [List.length_append,List.length_cons,List.length_nil];omega))) ?_;refine hQ_ _ _ ?_;clear hQ_ Q_)|(refine zMz (rsp _ _ (by first|omega|(simp only [List.length_append,List.length_cons,List.length_nil];omega))) ?_;refine hQ_ _ _ ?_;clear hQ_ Q_)|(refine zMz (en _ _ (by first|omega|(simp only [List.length_append,List.length_cons,List.length_nil];omega))) ?_;refine hQ_ _ _ ?_;clear hQ_ Q_)|(refine zMz (works _) ?_;refine hQ_ _ _ ?_;clear hQ_ Q_)))
  | (refine zHx fun K_ hK_=>?_;simp (disch:=omega) only [zGz,zAz,zHw,↓reduceIte,reduceCtorEq,Nat.reduceEqDiff,Nat.reduceLT];refine hK_ _ ?_;clear hK_ K_)))
    · (refine zKz _ _ rfl (ret1 (by decide)) ?_;simp only [zAz,↓reduceIte,reduceCtorEq,Nat.reduceEqDiff];refine zKw rfl (by omega) ?_)
      exact ⟨rfl,rfl⟩
    · exact absurd (⟨trivial,trivial,trivial,trivial,trivial,trivial⟩:True∧True∧True∧True∧True∧True) (by assumption)
end Go.Proofs.Ythaleckfgcgegaa
end

section
namespace Go.Proofs.Ythaleckfgcgegaa.dragSpans
open Go.ChangeShapes Go.WideShapes Go.ChangeAt Go.RowKit Go.Ev
set_option maxRecDepth 100000
set_option maxHeartbeats 0

theorem contract (H:Type) (enc:TypeId × Value→H) (W:World) (base:Nat) (args:Array Value) (ds gs:List (DataW H)) (before:List MemPlace) (hval : ∀ (j:Nat) t v,Try.f5.params[j]? = some t→args[j]? = some v→Value.okWide Try.prog W .any base t v)
    (hW:DataW.Whole enc Try.prog Try.f5.params.toList Rows.dragSpansSpec.vars false W args.toList ds gs before) :
    Calls Try.prog 5 args W fun e W'=>∃ v,e = .returned v∧Rows.dragSpansSpec.post enc Try.prog Try.f5 false true false false W args v W':=by
  have hW':=hW
  obtain ⟨p,q,hA0,hV,rfl,hfz,hnd⟩:=hW
  have hA:DataW.TrodAll enc Try.prog W 0 (fun _=>true) true Try.f5.params.toList args.toList ds p:=hA0
  rw [Try.params5] at hA hval
  obtain ⟨v0,v1,v2,d0,d1,d2,p0,p1,p2,rfl,rfl,rfl,⟨n0,h0⟩,⟨n1,h1⟩,⟨n2,h2⟩⟩:=trodAll_three hA
  obtain ⟨T0,w0⟩:=test_in (hval 0 35 v0 rfl rfl)
  have k1:=(okWide_cell (P:=Try.prog) Try.underlying43 (fun _ e=>by cases e) (fun _ _ e=>by cases e) (hval 1 43 v1 rfl rfl))
  rw [slice_cells Try.underlying43 k1] at h1
  obtain ⟨a1,ls1,w1,q1,x1⟩:=lines_in k1 h1
  obtain ⟨r2,hz2⟩:=okWideBool Try.underlying4 (okWide_cell (P:=Try.prog) Try.underlying4 (fun _ e=>by cases e) (fun _ _ e=>by cases e) (hval 2 4 v2 rfl rfl))
  subst hz2
  have walk:=lawSpans T0 a1 ls1 r2 (startW W) x1
  have hargs:VL (startWR W) [.agg [ii T0.sp,ii T0.lo,ii T0.we,ii T0.al,ii T0.f0,ii T0.f1,ii T0.t0,ii T0.t1,ii T0.s0,ii T0.s1,ii T0.o0,ii T0.o1,ii T0.b0,ii T0.b1,ii T0.r0,ii T0.r1],a1,.bool r2] (#[v0,v1,.bool r2]:Array Value).toList:=(.cons _ _ _ _ w0 (.cons _ _ _ _ w1 (.cons _ _ _ _ (.bool _) .nil)))
  refine (startW_true (P:=Try.prog) mixed (K:=KK) (fun c hc=>by
    have:c=cW:=List.mem_singleton.1 hc
    rw [this];exact cW_ok) walk hargs).mono fun e W' ⟨he,hgr,hs⟩=>?_
  subst he
  refine ⟨_,rfl,law_post laidOut (by
    rw [Try.params5]
    intro t ht
    rcases List.mem_cons.1 ht with rfl|ht
    · exact ⟨by kernel_rfl,of_decide_eq_true (by kernel_rfl)⟩
    rcases List.mem_cons.1 ht with rfl|ht
    · exact ⟨by kernel_rfl,of_decide_eq_true (by kernel_rfl)⟩
    rcases List.mem_cons.1 ht with rfl|ht
    · exact ⟨by kernel_rfl,of_decide_eq_true (by kernel_rfl)⟩
    cases ht) rfl (by kernel_rfl) Try.underlying4 (fun gs' ⟨q',hq⟩=>?_) hW' hgr hs⟩
  obtain ⟨rfl,_⟩:=trodVars_none hq
  exact ⟨rfl,rfl,rfl⟩

theorem lifted (os:Os) (started:os.Started) (H:Type) (enc:TypeId × Value→H) :
    ReturnsInHanded {} Try.checked os 5 .any (Rows.dragSpansSpec.pre6 enc Try.prog Try.f5 Rows.dragSpansRow.domain false) (Rows.dragSpansSpec.post enc Try.prog Try.f5 false true false false):=by
  refine returnsInHanded_of_change (C:=Try.checked) own started (by kernel_rfl) Try.func5
    (ChangeSpec.witness6 (enc:=enc) (C:=Try.checked) false ⟨#[],#[.agg #[.int .i64 0,.int .i64 0,.int .i64 0,.int .i64 0,.int .i64 0,.int .i64 0,.int .i64 0,.int .i64 0,.int .i64 0,.int .i64 0,.int .i64 0,.int .i64 0,.int .i64 0,.int .i64 0,.int .i64 0,.int .i64 0],.slice none 0 0,.bool false],[]⟩ 8 (by kernel_rfl) (by kernel_rfl) (by kernel_rfl) (by kernel_rfl)) ?_
  intro W base args ds gs before hval hW _ _
  exact contract H enc W base args ds gs before hval hW

theorem holds :Rows.DragSpansSaid:=
  OpenClaim.holds_of_wide 5 Try.f5 rfl rfl rfl rfl rfl rfl rfl ⟨rfl,rfl,rfl,rfl,rfl⟩ rfl rfl rfl rfl rfl (by kernel_rfl) Try.func5 (by kernel_rfl)
    (of_decide_eq_true (by kernel_rfl)) (by unfold Func.isWrapper;first|(rw [if_pos (by decide +kernel)];kernel_rfl)|(rw [if_neg (by decide +kernel)];exact ⟨rfl,rfl⟩))
    (fun os started H enc _=>lifted os started H enc)
end Go.Proofs.Ythaleckfgcgegaa.dragSpans
end
