/- The statement WaveProofs of layer 5: which proofs are right, and their bounds, are what the definitions say, or the error; a proof that is returned is right, and its bound is the complexity, for all lists of at most 40 or of 129 to 140 numbers and proofs with at most 140 taps; no condition. -/
import Derived.Test.YtmincoafjnnkpaawuM9
import Derived.Test.YtmincoafjnnkpaaRows
import Derived.WalkKit
import Derived.ProofKit
import Derived.OpenShut
set_option linter.all false
section
namespace Go.Proofs.Ytmincoafjnnkpaa
open Go.Ev
set_option maxRecDepth 100000
set_option linter.unusedSimpArgs false
set_option linter.unusedVariables false
set_option maxHeartbeats 2000000
theorem tEvZ33 :type_of% (And.intro (And.intro (And.intro (And.intro (And.intro (And.intro (And.intro (@yQw) (@yQx)) (And.intro (@yQy) (@yQz))) (And.intro (And.intro (@yPv) (@yPw)) (And.intro (@ia_2) (And.intro (@ia_3) (@ia_4))))) (And.intro (And.intro (And.intro (@ia_5) (@yPx)) (And.intro (@yPy) (@yPz))) (And.intro (And.intro (@yOv) (@yOw)) (And.intro (@yOx) (And.intro (@zSz) (@yOy)))))) (And.intro (And.intro (And.intro (And.intro (@yOz) (@yNv)) (And.intro (@yNw) (@yNx))) (And.intro (And.intro (@yNy) (@yNz)) (And.intro (@yMv) (And.intro (@yMw) (@sz_2))))) (And.intro (And.intro (And.intro (@sz_3) (@sz_4)) (And.intro (@sz_5) (And.intro (@zRz) (@zYv)))) (And.intro (And.intro (@zYw) (@zYx)) (And.intro (@zYy) (And.intro (@zYz) (@zRw))))))) (And.intro (And.intro (And.intro (And.intro (And.intro (@zXv) (@zXw)) (And.intro (@zXx) (@zQy))) (And.intro (And.intro (@zXy) (@zXz)) (And.intro (@zWv) (And.intro (@zWw) (@zWx))))) (And.intro (And.intro (And.intro (@ze_2) (@ze_3)) (And.intro (@ze_4) (And.intro (@ze_5) (@zWy)))) (And.intro (And.intro (@zWz) (@zVv)) (And.intro (@zVw) (And.intro (@zVx) (@zVy)))))) (And.intro (And.intro (And.intro (And.intro (@zVz) (@zUv)) (And.intro (@zUw) (@zUx))) (And.intro (And.intro (@zUy) (@zUz)) (And.intro (@zTv) (And.intro (@zTw) (@zTx))))) (And.intro (And.intro (And.intro (@zNv) (@zNw)) (And.intro (@zNx) (And.intro (@zNy) (@zNz)))) (And.intro (And.intro (@zMv) (@zMw)) (And.intro (@zMx) (And.intro (@zMy) (@yMx)))))))) (And.intro (And.intro (And.intro (And.intro (And.intro (And.intro (@yMy) (@yMz)) (And.intro (@yLv) (@yLw))) (And.intro (And.intro (@yLx) (@yLy)) (And.intro (@yLz) (And.intro (@yKv) (@yKw))))) (And.intro (And.intro (And.intro (@yKx) (@yKy)) (And.intro (@yKz) (@yJv))) (And.intro (And.intro (@yJw) (@yJx)) (And.intro (@yJy) (And.intro (@yJz) (@yIv)))))) (And.intro (And.intro (And.intro (And.intro (@yIw) (@yIx)) (And.intro (@yIy) (@yIz))) (And.intro (And.intro (@yHv) (@yHw)) (And.intro (@yHx) (And.intro (@yHy) (@yHz))))) (And.intro (And.intro (And.intro (@yGv) (@yGw)) (And.intro (@yGx) (And.intro (@yGy) (@yGz)))) (And.intro (And.intro (@yFv) (@yFw)) (And.intro (@yFx) (And.intro (@yFy) (@yFz))))))) (And.intro (And.intro (And.intro (And.intro (And.intro (@yEv) (@yEw)) (And.intro (@yEx) (@yEy))) (And.intro (And.intro (@yEz) (@yDv)) (And.intro (@yDw) (And.intro (@yDx) (@yDy))))) (And.intro (And.intro (And.intro (@yDz) (@yCv)) (And.intro (@yCw) (And.intro (@yCx) (@yCy)))) (And.intro (And.intro (@zSy) (@yCz)) (And.intro (@yBv) (And.intro (@yBw) (@yBx)))))) (And.intro (And.intro (And.intro (And.intro (@yBy) (@yBz)) (And.intro (@yAv) (@yAw))) (And.intro (And.intro (@yAx) (@yAy)) (And.intro (@yAz) (And.intro (@zZv) (@zZw))))) (And.intro (And.intro (And.intro (@zZx) (@zZy)) (And.intro (@zPv) (And.intro (@zTz) (@zSv)))) (And.intro (And.intro (@zQw) (@zSw)) (And.intro (@zRx) (And.intro (@zSx) (@zRv))))))))):=And.intro (And.intro (And.intro (And.intro (And.intro (And.intro (And.intro (@yQw) (@yQx)) (And.intro (@yQy) (@yQz))) (And.intro (And.intro (@yPv) (@yPw)) (And.intro (@ia_2) (And.intro (@ia_3) (@ia_4))))) (And.intro (And.intro (And.intro (@ia_5) (@yPx)) (And.intro (@yPy) (@yPz))) (And.intro (And.intro (@yOv) (@yOw)) (And.intro (@yOx) (And.intro (@zSz) (@yOy)))))) (And.intro (And.intro (And.intro (And.intro (@yOz) (@yNv)) (And.intro (@yNw) (@yNx))) (And.intro (And.intro (@yNy) (@yNz)) (And.intro (@yMv) (And.intro (@yMw) (@sz_2))))) (And.intro (And.intro (And.intro (@sz_3) (@sz_4)) (And.intro (@sz_5) (And.intro (@zRz) (@zYv)))) (And.intro (And.intro (@zYw) (@zYx)) (And.intro (@zYy) (And.intro (@zYz) (@zRw))))))) (And.intro (And.intro (And.intro (And.intro (And.intro (@zXv) (@zXw)) (And.intro (@zXx) (@zQy))) (And.intro (And.intro (@zXy) (@zXz)) (And.intro (@zWv) (And.intro (@zWw) (@zWx))))) (And.intro (And.intro (And.intro (@ze_2) (@ze_3)) (And.intro (@ze_4) (And.intro (@ze_5) (@zWy)))) (And.intro (And.intro (@zWz) (@zVv)) (And.intro (@zVw) (And.intro (@zVx) (@zVy)))))) (And.intro (And.intro (And.intro (And.intro (@zVz) (@zUv)) (And.intro (@zUw) (@zUx))) (And.intro (And.intro (@zUy) (@zUz)) (And.intro (@zTv) (And.intro (@zTw) (@zTx))))) (And.intro (And.intro (And.intro (@zNv) (@zNw)) (And.intro (@zNx) (And.intro (@zNy) (@zNz)))) (And.intro (And.intro (@zMv) (@zMw)) (And.intro (@zMx) (And.intro (@zMy) (@yMx)))))))) (And.intro (And.intro (And.intro (And.intro (And.intro (And.intro (@yMy) (@yMz)) (And.intro (@yLv) (@yLw))) (And.intro (And.intro (@yLx) (@yLy)) (And.intro (@yLz) (And.intro (@yKv) (@yKw))))) (And.intro (And.intro (And.intro (@yKx) (@yKy)) (And.intro (@yKz) (@yJv))) (And.intro (And.intro (@yJw) (@yJx)) (And.intro (@yJy) (And.intro (@yJz) (@yIv)))))) (And.intro (And.intro (And.intro (And.intro (@yIw) (@yIx)) (And.intro (@yIy) (@yIz))) (And.intro (And.intro (@yHv) (@yHw)) (And.intro (@yHx) (And.intro (@yHy) (@yHz))))) (And.intro (And.intro (And.intro (@yGv) (@yGw)) (And.intro (@yGx) (And.intro (@yGy) (@yGz)))) (And.intro (And.intro (@yFv) (@yFw)) (And.intro (@yFx) (And.intro (@yFy) (@yFz))))))) (And.intro (And.intro (And.intro (And.intro (And.intro (@yEv) (@yEw)) (And.intro (@yEx) (@yEy))) (And.intro (And.intro (@yEz) (@yDv)) (And.intro (@yDw) (And.intro (@yDx) (@yDy))))) (And.intro (And.intro (And.intro (@yDz) (@yCv)) (And.intro (@yCw) (And.intro (@yCx) (@yCy)))) (And.intro (And.intro (@zSy) (@yCz)) (And.intro (@yBv) (And.intro (@yBw) (@yBx)))))) (And.intro (And.intro (And.intro (And.intro (@yBy) (@yBz)) (And.intro (@yAv) (@yAw))) (And.intro (And.intro (@yAx) (@yAy)) (And.intro (@yAz) (And.intro (@zZv) (@zZw))))) (And.intro (And.intro (And.intro (@zZx) (@zZy)) (And.intro (@zPv) (And.intro (@zTz) (@zSv)))) (And.intro (And.intro (@zQw) (@zSw)) (And.intro (@zRx) (And.intro (@zSx) (@zRv))))))))
theorem lawProofs (xs gs:List Int) (q:Int) (a g:AV) (ha:CapU 1 a) (h:H) (wf:Wf h) (hs:Sl h a 1 xs.length (xs.map ii)) (hgs:Sl h g 1 gs.length (gs.map ii)) :
    (om Try.prog KK).call (.fn 5 [a,.agg [g,ii q]]) h = .ok (.bool true) h:=by
  have hl : ∀ h',lenE Try.prog 22 a h'=some (ii (xs.length:Int)):=fun h'=>hs.len yRy
  have hl3 : ∀ h',lenE Try.prog 22 g h'=some (ii (gs.length:Int)):=fun h'=>hgs.len yRy
  have hln : ∀ h',lenE Try.prog 22 .nils h'=some (.int .i64 0):=fun h'=>(Sl.nil h 1).len yRy
  obtain ⟨f1,f2⟩:=zPy hs
  obtain ⟨f5,f6⟩:=zPy hgs
  have cb : ∀ (l:List AO) (w:Nat),w≤h.clock+l.length→(om Try.prog KK).call (.fn 19 [a]) (X h l w) = .ok (ii (errB xs)) (X h l w):=fun l w hw=>rcheckBits xs a _ (wf.X hw) (hs.up wf l w)
  have cp1 : ∀ (J:List AO) w,w≤h.clock+J.length→(om Try.prog KK).call (.fn 26 [a,.agg [g,ii q]]) (X h J w) = .ok (.tup [ii (cpV xs gs q).1,ii (cpV xs gs q).2]) (X h J w):=fun J w hw=>checkProof xs gs q a g ha _ (wf.X hw) (hs.up wf _ _) (hgs.up wf _ _)
  have cp2 : ∀ (J:List AO) w,w≤h.clock+J.length→(om Try.prog KK).call (.fn 27 [a,.agg [g,ii q]]) (X h J w) = .ok (.tup [ii (cpV xs gs q).1,ii (cpV xs gs q).2]) (X h J w):=fun J w hw=>rcheckProof xs gs q a g ha _ (wf.X hw) (hs.up wf _ _) (hgs.up wf _ _)
  generalize cpV xs gs q=cv at *
  obtain ⟨bd,eg⟩:=cv
  refine zQv (zLy (fn:=Try.f5) Try.func5 rfl rfl rfl rfl rfl ?_)
  simp only [zLz]
  by_cases hbig:(40<xs.length∧xs.length≤128)∨140<xs.length∨140<gs.length
  · have key:(40<xs.length∧xs.length≤128)∨(¬ (40<xs.length∧xs.length≤128)∧140<xs.length)∨(xs.length≤40∧140<gs.length)∨(128<xs.length∧xs.length≤140∧140<gs.length):=by omega
    rcases key with ⟨h1,h2⟩|⟨h1,h2⟩|⟨h1,h2⟩|⟨h1,h2,h3⟩
    · (repeat' (first
  | (with_reducible first|refine zJx ?_|refine zGv ?_|refine zFz ?_|refine zEv ?_|refine zFy ?_|refine zJw ?_|refine zHz ?_|refine zCz ?_|refine zDw ?_|refine zCy ?_|refine zCv ?_|refine zEx ?_|refine zDz ?_|refine zCx ?_|refine zBx ?_|refine zEz ?_|refine zEy ?_|refine zAw ?_|refine zBy ?_)
  | refine zDy ?_|refine zEw rfl ?_|refine zIv ?_|refine zJy ?_
  | ((first|refine zGw rfl rfl rfl rfl rfl fun K_ hK_=>?_|refine zGx rfl rfl rfl rfl rfl fun K_ hK_=>?_);simp only [zAz,zDx,zGz,↓reduceIte,reduceCtorEq,Nat.reduceEqDiff,Bool.not_true,Bool.not_false];refine hK_ _ ?_;clear hK_ K_)
  | refine zDv (by decide) ?_
  | ((try first|refine zKy rfl rfl rfl ?_|refine zIw rfl rfl ?_|refine zKx rfl rfl rfl ?_|refine zJz rfl rfl ?_);(refine zIx fun Q_ hQ_=>?_;simp (disch:=first|omega|(simp only [List.length_cons,List.length_nil,List.length_append];omega)) only [bb,bp,zLz,↓reduceIte,reduceCtorEq,Nat.reduceEqDiff,Nat.reduceLT,Nat.reduceLeDiff,Nat.reduceAdd,Nat.reduceMul,Nat.reduceSub,Nat.reduceBEq,Int.reduceToNat,cond_true,cond_false,eq_self,beq_self_eq_true,hl,hl3,f1,f2,f5,f6,zFw wf,zGy wf,zBv wf,zFx wf,zAy wf,zAx,tEvZ33,zIy,zIz,zHv,zHw,zAv wf];first|(refine zCw (Q:=Q_) (fun hp_=>?_) (fun hp_=>?_) <;> first|(exfalso;omega)|(refine hQ_ _ _ ?_;clear hQ_ Q_))|(refine zBw (Q:=Q_) (fun hp_=>?_) (fun hp_=>?_) <;> first|(exfalso;omega)|(refine hQ_ _ _ ?_;clear hQ_ Q_))|(refine hQ_ _ _ ?_;clear hQ_ Q_)|(refine zOy (works _) ?_;refine hQ_ _ _ ?_;clear hQ_ Q_)))
  | (refine zHy fun K_ hK_=>?_;simp (disch:=omega) only [zFv,zAz,zHx,↓reduceIte,reduceCtorEq,Nat.reduceEqDiff,Nat.reduceLT];refine hK_ _ ?_;clear hK_ K_)))
      all_goals (refine zKz _ _ rfl (ret1 (by decide)) ?_;simp only [zAz,↓reduceIte,reduceCtorEq,Nat.reduceEqDiff];refine zKv rfl (by omega) ?_)
      all_goals exact ⟨rfl,rfl⟩
    · (repeat' (first
  | (with_reducible first|refine zJx ?_|refine zGv ?_|refine zFz ?_|refine zEv ?_|refine zFy ?_|refine zJw ?_|refine zHz ?_|refine zCz ?_|refine zDw ?_|refine zCy ?_|refine zCv ?_|refine zEx ?_|refine zDz ?_|refine zCx ?_|refine zBx ?_|refine zEz ?_|refine zEy ?_|refine zAw ?_|refine zBy ?_)
  | refine zDy ?_|refine zEw rfl ?_|refine zIv ?_|refine zJy ?_
  | ((first|refine zGw rfl rfl rfl rfl rfl fun K_ hK_=>?_|refine zGx rfl rfl rfl rfl rfl fun K_ hK_=>?_);simp only [zAz,zDx,zGz,↓reduceIte,reduceCtorEq,Nat.reduceEqDiff,Bool.not_true,Bool.not_false];refine hK_ _ ?_;clear hK_ K_)
  | refine zDv (by decide) ?_
  | ((try first|refine zKy rfl rfl rfl ?_|refine zIw rfl rfl ?_|refine zKx rfl rfl rfl ?_|refine zJz rfl rfl ?_);(refine zIx fun Q_ hQ_=>?_;simp (disch:=first|omega|(simp only [List.length_cons,List.length_nil,List.length_append];omega)) only [bb,bp,zLz,↓reduceIte,reduceCtorEq,Nat.reduceEqDiff,Nat.reduceLT,Nat.reduceLeDiff,Nat.reduceAdd,Nat.reduceMul,Nat.reduceSub,Nat.reduceBEq,Int.reduceToNat,cond_true,cond_false,eq_self,beq_self_eq_true,hl,hl3,f1,f2,f5,f6,zFw wf,zGy wf,zBv wf,zFx wf,zAy wf,zAx,tEvZ33,zIy,zIz,zHv,zHw,zAv wf];first|(refine zCw (Q:=Q_) (fun hp_=>?_) (fun hp_=>?_) <;> first|(exfalso;omega)|(refine hQ_ _ _ ?_;clear hQ_ Q_))|(refine zBw (Q:=Q_) (fun hp_=>?_) (fun hp_=>?_) <;> first|(exfalso;omega)|(refine hQ_ _ _ ?_;clear hQ_ Q_))|(refine hQ_ _ _ ?_;clear hQ_ Q_)|(refine zOy (works _) ?_;refine hQ_ _ _ ?_;clear hQ_ Q_)))
  | (refine zHy fun K_ hK_=>?_;simp (disch:=omega) only [zFv,zAz,zHx,↓reduceIte,reduceCtorEq,Nat.reduceEqDiff,Nat.reduceLT];refine hK_ _ ?_;clear hK_ K_)))
      all_goals (refine zKz _ _ rfl (ret1 (by decide)) ?_;simp only [zAz,↓reduceIte,reduceCtorEq,Nat.reduceEqDiff];refine zKv rfl (by omega) ?_)
      all_goals exact ⟨rfl,rfl⟩
    · (repeat' (first
  | (with_reducible first|refine zJx ?_|refine zGv ?_|refine zFz ?_|refine zEv ?_|refine zFy ?_|refine zJw ?_|refine zHz ?_|refine zCz ?_|refine zDw ?_|refine zCy ?_|refine zCv ?_|refine zEx ?_|refine zDz ?_|refine zCx ?_|refine zBx ?_|refine zEz ?_|refine zEy ?_|refine zAw ?_|refine zBy ?_)
  | refine zDy ?_|refine zEw rfl ?_|refine zIv ?_|refine zJy ?_
  | ((first|refine zGw rfl rfl rfl rfl rfl fun K_ hK_=>?_|refine zGx rfl rfl rfl rfl rfl fun K_ hK_=>?_);simp only [zAz,zDx,zGz,↓reduceIte,reduceCtorEq,Nat.reduceEqDiff,Bool.not_true,Bool.not_false];refine hK_ _ ?_;clear hK_ K_)
  | refine zDv (by decide) ?_
  | ((try first|refine zKy rfl rfl rfl ?_|refine zIw rfl rfl ?_|refine zKx rfl rfl rfl ?_|refine zJz rfl rfl ?_);(refine zIx fun Q_ hQ_=>?_;simp (disch:=first|omega|(simp only [List.length_cons,List.length_nil,List.length_append];omega)) only [bb,bp,zLz,↓reduceIte,reduceCtorEq,Nat.reduceEqDiff,Nat.reduceLT,Nat.reduceLeDiff,Nat.reduceAdd,Nat.reduceMul,Nat.reduceSub,Nat.reduceBEq,Int.reduceToNat,cond_true,cond_false,eq_self,beq_self_eq_true,hl,hl3,f1,f2,f5,f6,zFw wf,zGy wf,zBv wf,zFx wf,zAy wf,zAx,tEvZ33,zIy,zIz,zHv,zHw,zAv wf];first|(refine zCw (Q:=Q_) (fun hp_=>?_) (fun hp_=>?_) <;> first|(exfalso;omega)|(refine hQ_ _ _ ?_;clear hQ_ Q_))|(refine zBw (Q:=Q_) (fun hp_=>?_) (fun hp_=>?_) <;> first|(exfalso;omega)|(refine hQ_ _ _ ?_;clear hQ_ Q_))|(refine hQ_ _ _ ?_;clear hQ_ Q_)|(refine zOy (works _) ?_;refine hQ_ _ _ ?_;clear hQ_ Q_)))
  | (refine zHy fun K_ hK_=>?_;simp (disch:=omega) only [zFv,zAz,zHx,↓reduceIte,reduceCtorEq,Nat.reduceEqDiff,Nat.reduceLT];refine hK_ _ ?_;clear hK_ K_)))
      all_goals (refine zKz _ _ rfl (ret1 (by decide)) ?_;simp only [zAz,↓reduceIte,reduceCtorEq,Nat.reduceEqDiff];refine zKv rfl (by omega) ?_)
      all_goals exact ⟨rfl,rfl⟩
    · (repeat' (first
  | (with_reducible first|refine zJx ?_|refine zGv ?_|refine zFz ?_|refine zEv ?_|refine zFy ?_|refine zJw ?_|refine zHz ?_|refine zCz ?_|refine zDw ?_|refine zCy ?_|refine zCv ?_|refine zEx ?_|refine zDz ?_|refine zCx ?_|refine zBx ?_|refine zEz ?_|refine zEy ?_|refine zAw ?_|refine zBy ?_)
  | refine zDy ?_|refine zEw rfl ?_|refine zIv ?_|refine zJy ?_
  | ((first|refine zGw rfl rfl rfl rfl rfl fun K_ hK_=>?_|refine zGx rfl rfl rfl rfl rfl fun K_ hK_=>?_);simp only [zAz,zDx,zGz,↓reduceIte,reduceCtorEq,Nat.reduceEqDiff,Bool.not_true,Bool.not_false];refine hK_ _ ?_;clear hK_ K_)
  | refine zDv (by decide) ?_
  | ((try first|refine zKy rfl rfl rfl ?_|refine zIw rfl rfl ?_|refine zKx rfl rfl rfl ?_|refine zJz rfl rfl ?_);(refine zIx fun Q_ hQ_=>?_;simp (disch:=first|omega|(simp only [List.length_cons,List.length_nil,List.length_append];omega)) only [bb,bp,zLz,↓reduceIte,reduceCtorEq,Nat.reduceEqDiff,Nat.reduceLT,Nat.reduceLeDiff,Nat.reduceAdd,Nat.reduceMul,Nat.reduceSub,Nat.reduceBEq,Int.reduceToNat,cond_true,cond_false,eq_self,beq_self_eq_true,hl,hl3,f1,f2,f5,f6,zFw wf,zGy wf,zBv wf,zFx wf,zAy wf,zAx,tEvZ33,zIy,zIz,zHv,zHw,zAv wf];first|(refine zCw (Q:=Q_) (fun hp_=>?_) (fun hp_=>?_) <;> first|(exfalso;omega)|(refine hQ_ _ _ ?_;clear hQ_ Q_))|(refine zBw (Q:=Q_) (fun hp_=>?_) (fun hp_=>?_) <;> first|(exfalso;omega)|(refine hQ_ _ _ ?_;clear hQ_ Q_))|(refine hQ_ _ _ ?_;clear hQ_ Q_)|(refine zOy (works _) ?_;refine hQ_ _ _ ?_;clear hQ_ Q_)))
  | (refine zHy fun K_ hK_=>?_;simp (disch:=omega) only [zFv,zAz,zHx,↓reduceIte,reduceCtorEq,Nat.reduceEqDiff,Nat.reduceLT];refine hK_ _ ?_;clear hK_ K_)))
      all_goals (refine zKz _ _ rfl (ret1 (by decide)) ?_;simp only [zAz,↓reduceIte,reduceCtorEq,Nat.reduceEqDiff];refine zKv rfl (by omega) ?_)
      all_goals exact ⟨rfl,rfl⟩
  · by_cases hx:errB xs=0
    · obtain ⟨hx1,hx2⟩:=xDv hx
      have hsm:xs.length≤40:=by omega
      rw [hx] at cb
      by_cases h0:bN (bitL xs)=0
      ·
        have hC0:Cpx (sq (bitL xs)) xs.length 0:=⟨⟨0,by decide,fun i _ _=>by
          show (bitL xs).getD i false=false
          rw [← xIx,h0,Nat.zero_testBit]⟩,fun _ _ _=>Nat.zero_le _⟩
        have cc : ∀ (J:List AO) w,w≤h.clock+J.length→(om Try.prog KK).call (.fn 29 [a]) (X h J w) = .ok (.int .i64 0) (X h J w):=fun J w hw=>rComplexity xs hx 0 hC0 a _ (wf.X hw) (hs.up wf _ _)
        have e2 : ∀ (J:List AO) w,w≤h.clock+J.length→(om Try.prog KK).call (.fn 28 [a]) (X h J w) = .ok (.tup [.agg [.nils,ii 0],ii 5]) (X h J w):=fun J w hw=>proofNone xs hx h0 a _ (wf.X hw) (hs.up wf _ _)
        (repeat' (first
  | (with_reducible first|refine zJx ?_|refine zGv ?_|refine zFz ?_|refine zEv ?_|refine zFy ?_|refine zJw ?_|refine zHz ?_|refine zCz ?_|refine zDw ?_|refine zCy ?_|refine zCv ?_|refine zEx ?_|refine zDz ?_|refine zCx ?_|refine zBx ?_|refine zEz ?_|refine zEy ?_|refine zAw ?_|refine zBy ?_)
  | refine zDy ?_|refine zEw rfl ?_|refine zIv ?_|refine zJy ?_
  | ((first|refine zGw rfl rfl rfl rfl rfl fun K_ hK_=>?_|refine zGx rfl rfl rfl rfl rfl fun K_ hK_=>?_);simp only [zAz,zDx,zGz,↓reduceIte,reduceCtorEq,Nat.reduceEqDiff,Bool.not_true,Bool.not_false];refine hK_ _ ?_;clear hK_ K_)
  | refine zDv (by decide) ?_
  | ((try first|refine zKy rfl rfl rfl ?_|refine zIw rfl rfl ?_|refine zKx rfl rfl rfl ?_|refine zJz rfl rfl ?_);(refine zIx fun Q_ hQ_=>?_;simp (disch:=first|omega|(simp only [List.length_cons,List.length_nil,List.length_append];omega)) only [bb,bp,zLz,↓reduceIte,reduceCtorEq,Nat.reduceEqDiff,Nat.reduceLT,Nat.reduceLeDiff,Nat.reduceAdd,Nat.reduceMul,Nat.reduceSub,Nat.reduceBEq,Int.reduceToNat,cond_true,cond_false,eq_self,beq_self_eq_true,hl,hl3,hln,f1,f2,f5,f6,zFw wf,zGy wf,zBv wf,zFx wf,zAy wf,zAx,tEvZ33,zIy,zIz,zHv,zHw,zAv wf];first|(refine zCw (Q:=Q_) (fun hp_=>?_) (fun hp_=>?_) <;> first|(exfalso;omega)|(refine hQ_ _ _ ?_;clear hQ_ Q_))|(refine zBw (Q:=Q_) (fun hp_=>?_) (fun hp_=>?_) <;> first|(exfalso;omega)|(refine hQ_ _ _ ?_;clear hQ_ Q_))|(refine hQ_ _ _ ?_;clear hQ_ Q_)|(refine zOy (cp1 _ _ (by first|omega|(simp only [List.length_append,List.length_cons,List.length_nil];omega))) ?_;refine hQ_ _ _ ?_;clear hQ_ Q_)|(refine zOy (cp2 _ _ (by first|omega|(simp only [List.length_append,List.length_cons,List.length_nil];omega))) ?_;refine hQ_ _ _ ?_;clear hQ_ Q_)|(refine zOy (cb _ _ (by first|omega|(simp only [List.length_append,List.length_cons,List.length_nil];omega))) ?_;refine hQ_ _ _ ?_;clear hQ_ Q_)|(refine zOy (e2 _ _ (by first|omega|(simp only [List.length_append,List.length_cons,List.length_nil];omega))) ?_;refine hQ_ _ _ ?_;clear hQ_ Q_)|(refine zOy (cc _ _ (by first|omega|(simp only [List.length_append,List.length_cons,List.length_nil];omega))) ?_;refine hQ_ _ _ ?_;clear hQ_ Q_)|(refine zOy (works _) ?_;refine hQ_ _ _ ?_;clear hQ_ Q_)))
  | (refine zHy fun K_ hK_=>?_;simp (disch:=omega) only [zFv,zAz,zHx,↓reduceIte,reduceCtorEq,Nat.reduceEqDiff,Nat.reduceLT];refine hK_ _ ?_;clear hK_ K_)))
        all_goals (refine zKz _ _ rfl (ret1 (by decide)) ?_;simp only [zAz,↓reduceIte,reduceCtorEq,Nat.reduceEqDiff];refine zKv rfl (by omega) ?_)
        all_goals exact ⟨rfl,rfl⟩
      · obtain ⟨T2,L2,k2,C,v2,M2,w2,hk2,t2,l2,hC,hCL,hC0,⟨p3,p4⟩,s2,e2⟩:=proofOK xs hx h0 a ha (X h [.cells (zBz [g,ii q]) 34] h.clock) (wf.X (by simp)) (hs.up wf _ _)
        rw [X_X,X_w] at e2
        simp only [X_X] at s2
        have hte2:errB (tapI T2 L2)=0:=errB_tapI l2
        have hcp:=cpV_ok (xs:=xs) (ts:=tapI T2 L2) hx hte2 hk2 (by rw [tapI_bitL,bN_bitsL t2,wAy];exact w2)
        have hcC:(k2:Int)+1 - ((tapI T2 L2).length:Int)=(C:Int):=by rw [wAy];omega
        rw [hcC] at hcp
        have wfQ : ∀ J w,w≤h.clock+(1+(M2.length+J.length))→Wf (X h (.cells (zBz [g,ii q]) 34 :: (M2++J)) w):=fun J w hw=>wf.X (by simp only [List.length_cons,List.length_append];omega)
        have s2' : ∀ J w,Sl (X h (.cells (zBz [g,ii q]) 34 :: (M2++J)) w) v2 1 (tapI T2 L2).length ((tapI T2 L2).map ii):=s2
        have cpB : ∀ J w,w≤h.clock+(1+(M2.length+J.length))→(om Try.prog KK).call (.fn 27 [a,.agg [v2,ii (k2:Int)]]) (X h (.cells (zBz [g,ii q]) 34 :: (M2++J)) w) = .ok (.tup [ii (C:Int),ii 0]) (X h (.cells (zBz [g,ii q]) 34 :: (M2++J)) w):=fun J w hw=>by
          rw [rcheckProof xs (tapI T2 L2) (k2:Int) a v2 ha _ (wfQ J w hw) (hs.up wf _ _) (s2' J w),hcp]
        have cc : ∀ (J:List AO) w,w≤h.clock+J.length→(om Try.prog KK).call (.fn 29 [a]) (X h J w) = .ok (ii (C:Int)) (X h J w):=fun J w hw=>rComplexity xs hx C hC a _ (wf.X hw) (hs.up wf _ _)
        have hCp:(0:Int)<(C:Int):=by omega
        simp only [List.cons_append,List.nil_append] at e2
        (repeat' (first
  | (with_reducible first|refine zJx ?_|refine zGv ?_|refine zFz ?_|refine zEv ?_|refine zFy ?_|refine zJw ?_|refine zHz ?_|refine zCz ?_|refine zDw ?_|refine zCy ?_|refine zCv ?_|refine zEx ?_|refine zDz ?_|refine zCx ?_|refine zBx ?_|refine zEz ?_|refine zEy ?_|refine zAw ?_|refine zBy ?_)
  | refine zDy ?_|refine zEw rfl ?_|refine zIv ?_|refine zJy ?_
  | ((first|refine zGw rfl rfl rfl rfl rfl fun K_ hK_=>?_|refine zGx rfl rfl rfl rfl rfl fun K_ hK_=>?_);simp only [zAz,zDx,zGz,↓reduceIte,reduceCtorEq,Nat.reduceEqDiff,Bool.not_true,Bool.not_false];refine hK_ _ ?_;clear hK_ K_)
  | refine zDv (by decide) ?_
  | ((try first|refine zKy rfl rfl rfl ?_|refine zIw rfl rfl ?_|refine zKx rfl rfl rfl ?_|refine zJz rfl rfl ?_);(refine zIx fun Q_ hQ_=>?_;simp (disch:=first|omega|(simp only [List.length_cons,List.length_nil,List.length_append];omega)) only [bb,bp,zLz,↓reduceIte,reduceCtorEq,Nat.reduceEqDiff,Nat.reduceLT,Nat.reduceLeDiff,Nat.reduceAdd,Nat.reduceMul,Nat.reduceSub,Nat.reduceBEq,Int.reduceToNat,cond_true,cond_false,eq_self,beq_self_eq_true,hl,hl3,hln,f1,f2,f5,f6,p3,p4,zFw wf,zGy wf,zBv wf,zFx wf,zAy wf,zAx,tEvZ33,zIy,zIz,zHv,zHw,zAv wf];first|(refine zCw (Q:=Q_) (fun hp_=>?_) (fun hp_=>?_) <;> first|(exfalso;omega)|(refine hQ_ _ _ ?_;clear hQ_ Q_))|(refine zBw (Q:=Q_) (fun hp_=>?_) (fun hp_=>?_) <;> first|(exfalso;omega)|(refine hQ_ _ _ ?_;clear hQ_ Q_))|(refine hQ_ _ _ ?_;clear hQ_ Q_)|(refine zOy (cp1 _ _ (by first|omega|(simp only [List.length_append,List.length_cons,List.length_nil];omega))) ?_;refine hQ_ _ _ ?_;clear hQ_ Q_)|(refine zOy (cp2 _ _ (by first|omega|(simp only [List.length_append,List.length_cons,List.length_nil];omega))) ?_;refine hQ_ _ _ ?_;clear hQ_ Q_)|(refine zOy (cb _ _ (by first|omega|(simp only [List.length_append,List.length_cons,List.length_nil];omega))) ?_;refine hQ_ _ _ ?_;clear hQ_ Q_)|(refine zOy (e2) ?_;refine hQ_ _ _ ?_;clear hQ_ Q_)|(refine zOy (cc _ _ (by first|omega|(simp only [List.length_append,List.length_cons,List.length_nil];omega))) ?_;refine hQ_ _ _ ?_;clear hQ_ Q_)|(refine zOy (cpB _ _ (by first|omega|(simp only [List.length_append,List.length_cons,List.length_nil];omega))) ?_;refine hQ_ _ _ ?_;clear hQ_ Q_)|(refine zOy (works _) ?_;refine hQ_ _ _ ?_;clear hQ_ Q_)))
  | (refine zHy fun K_ hK_=>?_;simp (disch:=omega) only [zFv,zAz,zHx,↓reduceIte,reduceCtorEq,Nat.reduceEqDiff,Nat.reduceLT];refine hK_ _ ?_;clear hK_ K_)))
        all_goals (refine zKz _ _ rfl (ret1 (by decide)) ?_;simp only [zAz,↓reduceIte,reduceCtorEq,Nat.reduceEqDiff];refine zKv rfl (by omega) ?_)
        all_goals exact ⟨rfl,rfl⟩
    · have e2 : ∀ (J:List AO) w,w≤h.clock+J.length→(om Try.prog KK).call (.fn 28 [a]) (X h J w) = .ok (.tup [.agg [.nils,ii 0],ii (errB xs)]) (X h J w):=fun J w hw=>proofErr xs a _ (wf.X hw) (hs.up wf _ _) hx
      generalize errB xs=er at *
      (repeat' (first
  | (with_reducible first|refine zJx ?_|refine zGv ?_|refine zFz ?_|refine zEv ?_|refine zFy ?_|refine zJw ?_|refine zHz ?_|refine zCz ?_|refine zDw ?_|refine zCy ?_|refine zCv ?_|refine zEx ?_|refine zDz ?_|refine zCx ?_|refine zBx ?_|refine zEz ?_|refine zEy ?_|refine zAw ?_|refine zBy ?_)
  | refine zDy ?_|refine zEw rfl ?_|refine zIv ?_|refine zJy ?_
  | ((first|refine zGw rfl rfl rfl rfl rfl fun K_ hK_=>?_|refine zGx rfl rfl rfl rfl rfl fun K_ hK_=>?_);simp only [zAz,zDx,zGz,↓reduceIte,reduceCtorEq,Nat.reduceEqDiff,Bool.not_true,Bool.not_false];refine hK_ _ ?_;clear hK_ K_)
  | refine zDv (by decide) ?_
  | ((try first|refine zKy rfl rfl rfl ?_|refine zIw rfl rfl ?_|refine zKx rfl rfl rfl ?_|refine zJz rfl rfl ?_);(refine zIx fun Q_ hQ_=>?_;simp (disch:=first|omega|(simp only [List.length_cons,List.length_nil,List.length_append];omega)) only [bb,bp,zLz,↓reduceIte,reduceCtorEq,Nat.reduceEqDiff,Nat.reduceLT,Nat.reduceLeDiff,Nat.reduceAdd,Nat.reduceMul,Nat.reduceSub,Nat.reduceBEq,Int.reduceToNat,cond_true,cond_false,eq_self,beq_self_eq_true,hl,hl3,hln,f1,f2,f5,f6,zFw wf,zGy wf,zBv wf,zFx wf,zAy wf,zAx,tEvZ33,zIy,zIz,zHv,zHw,zAv wf];first|(refine zCw (Q:=Q_) (fun hp_=>?_) (fun hp_=>?_) <;> first|(exfalso;omega)|(refine hQ_ _ _ ?_;clear hQ_ Q_))|(refine zBw (Q:=Q_) (fun hp_=>?_) (fun hp_=>?_) <;> first|(exfalso;omega)|(refine hQ_ _ _ ?_;clear hQ_ Q_))|(refine hQ_ _ _ ?_;clear hQ_ Q_)|(refine zOy (cp1 _ _ (by first|omega|(simp only [List.length_append,List.length_cons,List.length_nil];omega))) ?_;refine hQ_ _ _ ?_;clear hQ_ Q_)|(refine zOy (cp2 _ _ (by first|omega|(simp only [List.length_append,List.length_cons,List.length_nil];omega))) ?_;refine hQ_ _ _ ?_;clear hQ_ Q_)|(refine zOy (cb _ _ (by first|omega|(simp only [List.length_append,List.length_cons,List.length_nil];omega))) ?_;refine hQ_ _ _ ?_;clear hQ_ Q_)|(refine zOy (e2 _ _ (by first|omega|(simp only [List.length_append,List.length_cons,List.length_nil];omega))) ?_;refine hQ_ _ _ ?_;clear hQ_ Q_)|(refine zOy (works _) ?_;refine hQ_ _ _ ?_;clear hQ_ Q_)))
  | (refine zHy fun K_ hK_=>?_;simp (disch:=omega) only [zFv,zAz,zHx,↓reduceIte,reduceCtorEq,Nat.reduceEqDiff,Nat.reduceLT];refine hK_ _ ?_;clear hK_ K_)))
      all_goals (refine zKz _ _ rfl (ret1 (by decide)) ?_;simp only [zAz,↓reduceIte,reduceCtorEq,Nat.reduceEqDiff];refine zKv rfl (by omega) ?_)
      all_goals exact ⟨rfl,rfl⟩
end Go.Proofs.Ytmincoafjnnkpaa
end

section
namespace Go.Proofs.Ytmincoafjnnkpaa.waveProofs
open Go.ChangeShapes Go.WideShapes Go.ChangeAt Go.RowKit Go.Ev
set_option maxRecDepth 100000
set_option maxHeartbeats 0

theorem contract (H:Type) (enc:TypeId × Value→H) (W:World) (base:Nat) (args:Array Value) (ds gs:List (DataW H)) (before:List MemPlace) (hval : ∀ (j:Nat) t v,Try.f5.params[j]? = some t→args[j]? = some v→Value.okWide Try.prog W .any base t v)
    (hW:DataW.Whole enc Try.prog Try.f5.params.toList Rows.waveProofsSpec.vars false W args.toList ds gs before) :
    Calls Try.prog 5 args W fun e W'=>∃ v,e = .returned v∧Rows.waveProofsSpec.post enc Try.prog Try.f5 false true false false W args v W':=by
  have hW':=hW
  obtain ⟨p,q,hA0,hV,rfl,hfz,hnd⟩:=hW
  have hA:DataW.TrodAll enc Try.prog W 0 (fun _=>true) true Try.f5.params.toList args.toList ds p:=hA0
  rw [Try.params5] at hA hval
  obtain ⟨v0,v1,d0,d1,p0,p1,rfl,rfl,rfl,⟨n0,h0⟩,⟨n1,h1⟩⟩:=trodAll_two hA
  have k0:=(okWide_cell (P:=Try.prog) Try.underlying22 (fun _ e=>by cases e) (fun _ _ e=>by cases e) (hval 0 22 v0 rfl rfl))
  rw [slice_cells Try.underlying22 k0] at h0
  obtain ⟨a0,ls0,w0,q0,x0⟩:=ints_in k0 h0
  obtain ⟨a1,ms1,m1,w1,q1,x1⟩:=proof_in (hval 1 34 v1 rfl rfl) h1
  have walk:=lawProofs ls0 ms1 m1 a0 a1 (q0.capu 1) (startW W) (startW_wf W) x0 x1
  have hargs:VL (startWR W) [a0,.agg [a1,ii m1]] (#[v0,v1]:Array Value).toList:=(.cons _ _ _ _ w0 (.cons _ _ _ _ w1 .nil))
  refine (startW_true (P:=Try.prog) mixed (K:=KK) (fun c hc=>by
    have:c=cW:=List.mem_singleton.1 hc
    rw [this];exact cW_ok) walk hargs).mono fun e W' ⟨he,hgr,hs⟩=>?_
  subst he
  refine ⟨_,rfl,law_post laidOut (by
    rw [Try.params5]
    intro t ht
    rcases List.mem_cons.1 ht with rfl|ht
    · exact ⟨by kernel_rfl,of_decide_eq_true (by kernel_rfl)⟩
    rcases List.mem_cons.1 ht with rfl|ht
    · exact ⟨by kernel_rfl,of_decide_eq_true (by kernel_rfl)⟩
    cases ht) rfl (by kernel_rfl) Try.underlying4 (fun gs' ⟨q',hq⟩=>?_) hW' hgr hs⟩
  obtain ⟨rfl,_⟩:=trodVars_none hq
  exact ⟨rfl,rfl,rfl⟩

theorem lifted (os:Os) (started:os.Started) (H:Type) (enc:TypeId × Value→H) :
    ReturnsInHanded {} Try.checked os 5 .any (Rows.waveProofsSpec.pre6 enc Try.prog Try.f5 Rows.waveProofsRow.domain false) (Rows.waveProofsSpec.post enc Try.prog Try.f5 false true false false):=by
  refine returnsInHanded_of_change (C:=Try.checked) own started (by kernel_rfl) Try.func5
    (ChangeSpec.witness6 (enc:=enc) (C:=Try.checked) false ⟨#[],#[.slice none 0 0,.agg #[.slice none 0 0,.int .i64 0]],[]⟩ 8 (by kernel_rfl) (by kernel_rfl) (by kernel_rfl) (by kernel_rfl)) ?_
  intro W base args ds gs before hval hW _ _
  exact contract H enc W base args ds gs before hval hW

theorem holds :Rows.WaveProofsSaid:=
  OpenClaim.holds_of_wide 5 Try.f5 rfl rfl rfl rfl rfl rfl rfl ⟨rfl,rfl,rfl,rfl,rfl⟩ rfl rfl rfl rfl rfl (by kernel_rfl) Try.func5 (by kernel_rfl)
    (of_decide_eq_true (by kernel_rfl)) (by unfold Func.isWrapper;first|(rw [if_pos (by decide +kernel)];kernel_rfl)|(rw [if_neg (by decide +kernel)];exact ⟨rfl,rfl⟩))
    (fun os started H enc _=>lifted os started H enc)
end Go.Proofs.Ytmincoafjnnkpaa.waveProofs
end
