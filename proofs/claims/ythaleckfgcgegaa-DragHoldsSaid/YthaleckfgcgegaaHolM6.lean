import Derived.Test.YthaleckfgcgegaaHolM5
set_option linter.all false
section
namespace Go.Proofs.Ythaleckfgcgegaa
open Go.Ev
set_option maxRecDepth 100000
set_option linter.unusedSimpArgs false
set_option linter.unusedVariables false
set_option maxHeartbeats 2000000
theorem tEvD17 :type_of% (And.intro (And.intro (And.intro (And.intro (And.intro (And.intro (And.intro (@yWz) (@yVv)) (And.intro (@yVw) (And.intro (@yVx) (@yVy)))) (And.intro (And.intro (@yVz) (And.intro (@yUv) (@yUw))) (And.intro (@zVy) (And.intro (@ia_2) (@sz_2))))) (And.intro (And.intro (And.intro (@ia_3) (@sz_3)) (And.intro (@ia_4) (And.intro (@sz_4) (@yUx)))) (And.intro (And.intro (@yDw) (And.intro (@yUy) (@yDx))) (And.intro (@yUz) (And.intro (@yDy) (@yTv)))))) (And.intro (And.intro (And.intro (And.intro (@zWw) (@yTw)) (And.intro (@yDz) (And.intro (@yTx) (@yCv)))) (And.intro (And.intro (@yTy) (And.intro (@yCw) (@yTz))) (And.intro (@yCx) (And.intro (@ySv) (@yCy))))) (And.intro (And.intro (And.intro (@ySw) (@yCz)) (And.intro (@ySx) (And.intro (@zXz) (@ySy)))) (And.intro (And.intro (@yBv) (And.intro (@ySz) (@yBw))) (And.intro (@yRv) (And.intro (@yBx) (@yRw))))))) (And.intro (And.intro (And.intro (And.intro (And.intro (@yBy) (@yRx)) (And.intro (@yBz) (And.intro (@yRy) (@yAv)))) (And.intro (And.intro (@yRz) (And.intro (@yAw) (@yQv))) (And.intro (@yAx) (And.intro (@yQw) (@yAy))))) (And.intro (And.intro (And.intro (@yQx) (@yAz)) (And.intro (@zVz) (And.intro (@zTw) (@zUv)))) (And.intro (And.intro (@zTx) (And.intro (@zUw) (@zTy))) (And.intro (@zUx) (And.intro (@zTz) (@zUy)))))) (And.intro (And.intro (And.intro (And.intro (@zSv) (@zUz)) (And.intro (@zSw) (And.intro (@zTv) (@zSx)))) (And.intro (And.intro (@ze_2) (And.intro (@ze_3) (@ze_4))) (And.intro (@zZv) (And.intro (@zZw) (@zZx))))) (And.intro (And.intro (And.intro (@zZy) (And.intro (@zZz) (@zYv))) (And.intro (@zYw) (And.intro (@zYx) (@zYy)))) (And.intro (And.intro (@zSy) (And.intro (@zRx) (@zRy))) (And.intro (@zRz) (And.intro (@zQv) (@zQw)))))))) (And.intro (And.intro (And.intro (And.intro (And.intro (And.intro (@zQx) (@zQy)) (And.intro (@zQz) (And.intro (@zPv) (@zPw)))) (And.intro (And.intro (@zPx) (And.intro (@zPy) (@zPz))) (And.intro (@zOv) (And.intro (@zOw) (@zOx))))) (And.intro (And.intro (And.intro (@zOy) (@zOz)) (And.intro (@zNv) (And.intro (@zNw) (@zNx)))) (And.intro (And.intro (@zNy) (And.intro (@zNz) (@zMv))) (And.intro (@zMw) (And.intro (@zMx) (@zMy)))))) (And.intro (And.intro (And.intro (And.intro (@zMz) (@yQy)) (And.intro (@yQz) (And.intro (@yPv) (@yPw)))) (And.intro (And.intro (@yPx) (And.intro (@yPy) (@yPz))) (And.intro (@yOv) (And.intro (@yOw) (@yOx))))) (And.intro (And.intro (And.intro (@yOy) (And.intro (@yOz) (@yNv))) (And.intro (@yNw) (And.intro (@yNx) (@yNy)))) (And.intro (And.intro (@yNz) (And.intro (@yMv) (@yMw))) (And.intro (@yMx) (And.intro (@yMy) (@yMz))))))) (And.intro (And.intro (And.intro (And.intro (And.intro (@yLv) (@yLw)) (And.intro (@yLx) (And.intro (@yLy) (@yLz)))) (And.intro (And.intro (@yKv) (And.intro (@yKw) (@yKx))) (And.intro (@yKy) (And.intro (@yKz) (@yJv))))) (And.intro (And.intro (And.intro (@yJw) (@yJx)) (And.intro (@yJy) (And.intro (@yJz) (@yIv)))) (And.intro (And.intro (@yIw) (And.intro (@yIx) (@yIy))) (And.intro (@yIz) (And.intro (@yHv) (@yHw)))))) (And.intro (And.intro (And.intro (And.intro (@yHx) (@yHy)) (And.intro (@yHz) (And.intro (@yGv) (@yGw)))) (And.intro (And.intro (@yGx) (And.intro (@zYz) (@zXv))) (And.intro (@yGy) (And.intro (@yGz) (@yFv))))) (And.intro (And.intro (And.intro (@yFw) (And.intro (@yFx) (@yFy))) (And.intro (@yFz) (And.intro (@yEv) (@yEw)))) (And.intro (And.intro (@yEx) (And.intro (@yEy) (@zXw))) (And.intro (@yEz) (And.intro (@yDv) (@zXx))))))))):=And.intro (And.intro (And.intro (And.intro (And.intro (And.intro (And.intro (@yWz) (@yVv)) (And.intro (@yVw) (And.intro (@yVx) (@yVy)))) (And.intro (And.intro (@yVz) (And.intro (@yUv) (@yUw))) (And.intro (@zVy) (And.intro (@ia_2) (@sz_2))))) (And.intro (And.intro (And.intro (@ia_3) (@sz_3)) (And.intro (@ia_4) (And.intro (@sz_4) (@yUx)))) (And.intro (And.intro (@yDw) (And.intro (@yUy) (@yDx))) (And.intro (@yUz) (And.intro (@yDy) (@yTv)))))) (And.intro (And.intro (And.intro (And.intro (@zWw) (@yTw)) (And.intro (@yDz) (And.intro (@yTx) (@yCv)))) (And.intro (And.intro (@yTy) (And.intro (@yCw) (@yTz))) (And.intro (@yCx) (And.intro (@ySv) (@yCy))))) (And.intro (And.intro (And.intro (@ySw) (@yCz)) (And.intro (@ySx) (And.intro (@zXz) (@ySy)))) (And.intro (And.intro (@yBv) (And.intro (@ySz) (@yBw))) (And.intro (@yRv) (And.intro (@yBx) (@yRw))))))) (And.intro (And.intro (And.intro (And.intro (And.intro (@yBy) (@yRx)) (And.intro (@yBz) (And.intro (@yRy) (@yAv)))) (And.intro (And.intro (@yRz) (And.intro (@yAw) (@yQv))) (And.intro (@yAx) (And.intro (@yQw) (@yAy))))) (And.intro (And.intro (And.intro (@yQx) (@yAz)) (And.intro (@zVz) (And.intro (@zTw) (@zUv)))) (And.intro (And.intro (@zTx) (And.intro (@zUw) (@zTy))) (And.intro (@zUx) (And.intro (@zTz) (@zUy)))))) (And.intro (And.intro (And.intro (And.intro (@zSv) (@zUz)) (And.intro (@zSw) (And.intro (@zTv) (@zSx)))) (And.intro (And.intro (@ze_2) (And.intro (@ze_3) (@ze_4))) (And.intro (@zZv) (And.intro (@zZw) (@zZx))))) (And.intro (And.intro (And.intro (@zZy) (And.intro (@zZz) (@zYv))) (And.intro (@zYw) (And.intro (@zYx) (@zYy)))) (And.intro (And.intro (@zSy) (And.intro (@zRx) (@zRy))) (And.intro (@zRz) (And.intro (@zQv) (@zQw)))))))) (And.intro (And.intro (And.intro (And.intro (And.intro (And.intro (@zQx) (@zQy)) (And.intro (@zQz) (And.intro (@zPv) (@zPw)))) (And.intro (And.intro (@zPx) (And.intro (@zPy) (@zPz))) (And.intro (@zOv) (And.intro (@zOw) (@zOx))))) (And.intro (And.intro (And.intro (@zOy) (@zOz)) (And.intro (@zNv) (And.intro (@zNw) (@zNx)))) (And.intro (And.intro (@zNy) (And.intro (@zNz) (@zMv))) (And.intro (@zMw) (And.intro (@zMx) (@zMy)))))) (And.intro (And.intro (And.intro (And.intro (@zMz) (@yQy)) (And.intro (@yQz) (And.intro (@yPv) (@yPw)))) (And.intro (And.intro (@yPx) (And.intro (@yPy) (@yPz))) (And.intro (@yOv) (And.intro (@yOw) (@yOx))))) (And.intro (And.intro (And.intro (@yOy) (And.intro (@yOz) (@yNv))) (And.intro (@yNw) (And.intro (@yNx) (@yNy)))) (And.intro (And.intro (@yNz) (And.intro (@yMv) (@yMw))) (And.intro (@yMx) (And.intro (@yMy) (@yMz))))))) (And.intro (And.intro (And.intro (And.intro (And.intro (@yLv) (@yLw)) (And.intro (@yLx) (And.intro (@yLy) (@yLz)))) (And.intro (And.intro (@yKv) (And.intro (@yKw) (@yKx))) (And.intro (@yKy) (And.intro (@yKz) (@yJv))))) (And.intro (And.intro (And.intro (@yJw) (@yJx)) (And.intro (@yJy) (And.intro (@yJz) (@yIv)))) (And.intro (And.intro (@yIw) (And.intro (@yIx) (@yIy))) (And.intro (@yIz) (And.intro (@yHv) (@yHw)))))) (And.intro (And.intro (And.intro (And.intro (@yHx) (@yHy)) (And.intro (@yHz) (And.intro (@yGv) (@yGw)))) (And.intro (And.intro (@yGx) (And.intro (@zYz) (@zXv))) (And.intro (@yGy) (And.intro (@yGz) (@yFv))))) (And.intro (And.intro (And.intro (@yFw) (And.intro (@yFx) (@yFy))) (And.intro (@yFz) (And.intro (@yEv) (@yEw)))) (And.intro (And.intro (@yEx) (And.intro (@yEy) (@zXw))) (And.intro (@yEz) (And.intro (@yDv) (@zXx))))))))
theorem isInside (T:Te) (k:okT T) (lv:AV) (ls:List Ln) (hk:okLs ls) (h:H) (x:LinesR h lv ls):(om Try.prog KK).call (.fn 71 [.agg [ii T.sp,ii T.lo,ii T.we,ii T.al,ii T.f0,ii T.f1,ii T.t0,ii T.t1,ii T.s0,ii T.s1,ii T.o0,ii T.o1,ii T.b0,ii T.b1,ii T.r0,ii T.r1,lv]]) h = .ok (.bool (decide (rk T ls))) h:=by
  have wf:=x.wf
  obtain ⟨f1,f2⟩:=x.flat
  have hl : ∀ h',lenE Try.prog 74 lv h'=some (ii (ls.length:Int)):=fun h'=>x.sl.len un_74
  have hn4:=hk.n
  have ix0 : ∀ u v,indexE Try.prog 117 (.agg [ii u,ii v]) (.int .i64 0)=some (ii u):=fun u v=>xQy (i:=0) un_117 sz_2 ia_2 (by decide) rfl
  have ix1 : ∀ u v,indexE Try.prog 117 (.agg [ii u,ii v]) (.int .i64 1)=some (ii v):=fun u v=>xQy (i:=1) un_117 sz_2 ia_2 (by decide) rfl
  have c1 : ∀ u v l w,w≤h.clock+l.length→(om Try.prog KK).call (.fn 77 [.agg [ii u,ii v]]) (X h l w) = .ok (.agg [ii u,ii v]) (X h l w):=fun u v l w hw=>ends u v _ (wf.X hw)
  refine zWy (zLx (fn:=Try.f71) Try.func71 rfl rfl rfl rfl rfl ?_)
  simp only [zLy]
  (repeat' (first
  | (with_reducible first|refine zJw ?_|refine zHz ?_|refine zEv ?_|refine zEw ?_|refine zFz ?_|refine zJv ?_|refine zHy ?_|refine zBv ?_|refine zDx ?_|refine zCz ?_|refine zCw ?_|refine zEy ?_|refine zCv ?_|refine zCy ?_|refine zBy ?_|refine zDv ?_|refine zEz ?_|refine zAw ?_|refine zBz ?_)
  | refine zDz ?_|refine zEx rfl ?_|refine zJy ?_|refine zJx ?_
  | ((first|refine zGv rfl rfl rfl rfl rfl fun K_ hK_=>?_|refine zGw rfl rfl rfl rfl rfl fun K_ hK_=>?_);simp only [zAz,zDy,zGx,↓reduceIte,reduceCtorEq,Nat.reduceEqDiff,Bool.not_true,Bool.not_false];refine hK_ _ ?_;clear hK_ K_)
  | refine zDw (by decide) ?_
  | ((try first|refine zKy rfl rfl rfl ?_|refine zJz rfl rfl ?_|refine zKx rfl rfl rfl ?_|refine zIv rfl rfl ?_);(refine zIw fun Q_ hQ_=>?_;simp (disch:=first|omega|(simp only [List.length_cons,List.length_nil,List.length_append];omega)) only [bb,bp,zLy,↓reduceIte,reduceCtorEq,Nat.reduceEqDiff,Nat.reduceLT,Nat.reduceLeDiff,Nat.reduceAdd,Nat.reduceMul,Nat.reduceSub,Nat.reduceBEq,Int.reduceToNat,cond_true,cond_false,eq_self,beq_self_eq_true,f1,f2,hl,zFx wf,zGy wf,zBw wf,zFy wf,zAy wf,zAx,tEvD17,zIx,zIy,zIz,zHv,zFv,zAv wf];first|(refine zCx (Q:=Q_) (fun hp_=>?_) (fun hp_=>?_) <;> first|(exfalso;omega)|(refine hQ_ _ _ ?_;clear hQ_ Q_))|(refine zBx (Q:=Q_) (fun hp_=>?_) (fun hp_=>?_) <;> first|(exfalso;omega)|(refine hQ_ _ _ ?_;clear hQ_ Q_))|(refine hQ_ _ _ ?_;clear hQ_ Q_)|(refine zRv (reynolds T k lv ⟨f1,f2⟩ _ (wf.X (Nat.le_add_right _ _))) ?_;refine hQ_ _ _ ?_;clear hQ_ Q_)))
  | (refine zHx fun K_ hK_=>?_;simp (disch:=omega) only [zGz,zAz,zHw,↓reduceIte,reduceCtorEq,Nat.reduceEqDiff,Nat.reduceLT];refine hK_ _ ?_;clear hK_ K_)))
  refine zVw (fun (i:Nat) f d h'=>i≤ls.length∧(∀ j (hj:j<ls.length),j<i→inAll T ls[j].re)∧f 3 = .ptr (nx h 1) 0∧f 4 = .ptr (nx h 2) 0∧f 15=lv∧f 16=ii (ls.length:Int)∧f 17=ii (i:Int)∧d=[] ∧
      ∃ G,h'=X h (.cells (zFw [ii T.sp,ii T.lo,ii T.we,ii T.al,ii T.f0,ii T.f1,ii T.t0,ii T.t1,ii T.s0,ii T.s1,ii T.o0,ii T.o1,ii T.b0,ii T.b1,ii T.r0,ii T.r1,lv]) 76 :: .cells (zFw [ii (mo T T.t1),ii (mo T T.t0)]) 33 :: .cells (zFw [ii (sh T T.s1),ii (sh T T.s0)]) 33 :: G) h.clock) (fun i=>ls.length - i) ?_ (ls.length+1) 0 (by omega) ?_
  · rintro i f d h' ⟨hi,hall,g3,g4,g15,g16,g17,rfl,G,rfl⟩
    by_cases hlt:i<ls.length
    · obtain ⟨id,off,hix,hld,hln⟩:=x.at ik_74 hlt
      obtain ⟨⟨fa,fa'⟩,⟨fb,fb'⟩⟩:=hln.flats
      have kl:=hk.ok _ (List.getElem_mem hlt)
      have c2 : ∀ r l w,w≤h.clock+l.length→(om Try.prog KK).call (.fn 38 [.agg [ls[i].a,ls[i].b],ii r]) (X h l w) = .ok (.bool (decide (has ls[i].re r))) (X h l w):=fun r l w hw=>hasC _ _ _ _ r _ (hln.up _ _ hw) kl.n
      have hid:inAll T ls[i].re ↔ ((has ls[i].re (mo T T.t1)∧has ls[i].re (sh T T.s1))∧(has ls[i].re (mo T T.t0)∧has ls[i].re (sh T T.s0))):=Iff.rfl
      have hno : ¬ inAll T ls[i].re→decide (rk T ls)=false:=fun q=>decide_eq_false fun q2=>q (q2 _ (List.getElem_mem hlt))
      (repeat' (first
  | (with_reducible first|refine zJw ?_|refine zHz ?_|refine zEv ?_|refine zEw ?_|refine zFz ?_|refine zJv ?_|refine zHy ?_|refine zBv ?_|refine zDx ?_|refine zCz ?_|refine zCw ?_|refine zEy ?_|refine zCv ?_|refine zCy ?_|refine zBy ?_|refine zDv ?_|refine zEz ?_|refine zAw ?_|refine zBz ?_)
  | refine zDz ?_|refine zEx rfl ?_|refine zJy ?_|refine zJx ?_
  | ((first|refine zGv rfl rfl rfl rfl rfl fun K_ hK_=>?_|refine zGw rfl rfl rfl rfl rfl fun K_ hK_=>?_);simp only [zAz,zDy,zGx,↓reduceIte,reduceCtorEq,Nat.reduceEqDiff,Bool.not_true,Bool.not_false];refine hK_ _ ?_;clear hK_ K_)
  | refine zDw (by decide) ?_
  | ((try first|refine zKy rfl rfl rfl ?_|refine zJz rfl rfl ?_|refine zKx rfl rfl rfl ?_|refine zIv rfl rfl ?_);(refine zIw fun Q_ hQ_=>?_;simp (disch:=first|omega|(simp only [List.length_cons,List.length_nil,List.length_append];omega)) only [bb,bp,zLy,↓reduceIte,reduceCtorEq,Nat.reduceEqDiff,Nat.reduceLT,Nat.reduceLeDiff,Nat.reduceAdd,Nat.reduceMul,Nat.reduceSub,Nat.reduceBEq,Int.reduceToNat,cond_true,cond_false,eq_self,beq_self_eq_true,g3,g4,g15,g16,g17,hix,hld,fa,fb,fa',fb',c1,zFx wf,zGy wf,zBw wf,zFy wf,zAy wf,zAx,tEvD17,zIx,zIy,zIz,zHv,zFv,zAv wf];first|(refine zCx (Q:=Q_) (fun hp_=>?_) (fun hp_=>?_) <;> first|(exfalso;omega)|(refine hQ_ _ _ ?_;clear hQ_ Q_))|(refine zBx (Q:=Q_) (fun hp_=>?_) (fun hp_=>?_) <;> first|(exfalso;omega)|(refine hQ_ _ _ ?_;clear hQ_ Q_))|(refine hQ_ _ _ ?_;clear hQ_ Q_)))
  | (refine zHx fun K_ hK_=>?_;simp (disch:=omega) only [zGz,zAz,zHw,↓reduceIte,reduceCtorEq,Nat.reduceEqDiff,Nat.reduceLT];refine hK_ _ ?_;clear hK_ K_)))
      refine zVw (fun (j:Nat) f d h'=>j≤2∧(0<j→has ls[i].re (mo T T.t1)∧has ls[i].re (sh T T.s1))∧(1<j→has ls[i].re (mo T T.t0)∧has ls[i].re (sh T T.s0))∧f 3 = .ptr (nx h 1) 0∧f 4 = .ptr (nx h 2) 0∧f 6 = .ptr (nx h (G.length+1+1+1)) 0∧f 15=lv∧f 16=ii (ls.length:Int)∧f 17=ii (i:Int)∧f 22 = .agg [ii (mo T T.t1),ii (mo T T.t0)]∧f 23=ii (j:Int)∧d=[] ∧
        h'=X h (.cells (zFw [ii T.sp,ii T.lo,ii T.we,ii T.al,ii T.f0,ii T.f1,ii T.t0,ii T.t1,ii T.s0,ii T.s1,ii T.o0,ii T.o1,ii T.b0,ii T.b1,ii T.r0,ii T.r1,lv]) 76 :: .cells (zFw [ii (mo T T.t1),ii (mo T T.t0)]) 33 :: .cells (zFw [ii (sh T T.s1),ii (sh T T.s0)]) 33 :: (G++[.cells (zFw [ls[i].a,ls[i].b]) 67])) h.clock) (fun j=>2 - j) ?_ 3 0 (by omega) ?_
      · clear g3 g4 g15 g16 g17
        rintro j f d h' ⟨hj,q0,q1,g3,g4,g6,g15,g16,g17,g22,g23,rfl,rfl⟩
        rcases (by omega:j=0∨j=1∨j=2) with rfl|rfl|rfl
        · have g23':f 23 = .int .i64 0:=g23
          (repeat' (first
  | (with_reducible first|refine zJw ?_|refine zHz ?_|refine zEv ?_|refine zEw ?_|refine zFz ?_|refine zJv ?_|refine zHy ?_|refine zBv ?_|refine zDx ?_|refine zCz ?_|refine zCw ?_|refine zEy ?_|refine zCv ?_|refine zCy ?_|refine zBy ?_|refine zDv ?_|refine zEz ?_|refine zAw ?_|refine zBz ?_)
  | refine zDz ?_|refine zEx rfl ?_|refine zJy ?_|refine zJx ?_
  | ((first|refine zGv rfl rfl rfl rfl rfl fun K_ hK_=>?_|refine zGw rfl rfl rfl rfl rfl fun K_ hK_=>?_);simp only [zAz,zDy,zGx,↓reduceIte,reduceCtorEq,Nat.reduceEqDiff,Bool.not_true,Bool.not_false];refine hK_ _ ?_;clear hK_ K_)
  | refine zDw (by decide) ?_
  | ((try first|refine zKy rfl rfl rfl ?_|refine zJz rfl rfl ?_|refine zKx rfl rfl rfl ?_|refine zIv rfl rfl ?_);(refine zIw fun Q_ hQ_=>?_;simp (disch:=first|omega|(simp only [List.length_cons,List.length_nil,List.length_append];omega)) only [bb,bp,zLy,↓reduceIte,reduceCtorEq,Nat.reduceEqDiff,Nat.reduceLT,Nat.reduceLeDiff,Nat.reduceAdd,Nat.reduceMul,Nat.reduceSub,Nat.reduceBEq,Int.reduceToNat,cond_true,cond_false,eq_self,beq_self_eq_true,g3,g4,g6,g15,g16,g17,g22,g23',ix0,zFx wf,zGy wf,zBw wf,zFy wf,zAy wf,zAx,tEvD17,zIx,zIy,zIz,zHv,zFv,zAv wf];first|(refine zCx (Q:=Q_) (fun hp_=>?_) (fun hp_=>?_) <;> first|(exfalso;omega)|(refine hQ_ _ _ ?_;clear hQ_ Q_))|(refine zBx (Q:=Q_) (fun hp_=>?_) (fun hp_=>?_) <;> first|(exfalso;omega)|(refine hQ_ _ _ ?_;clear hQ_ Q_))|(refine hQ_ _ _ ?_;clear hQ_ Q_)))
  | (refine zHx fun K_ hK_=>?_;simp (disch:=omega) only [zGz,zAz,zHw,↓reduceIte,reduceCtorEq,Nat.reduceEqDiff,Nat.reduceLT];refine hK_ _ ?_;clear hK_ K_)))
          refine zLv [.full,.no,.full,.full,.full,.no,.no,.no,.no,.no,.full,.full,.full] (by kernel_rfl) ?_
          (repeat' (first
  | (with_reducible first|refine zJw ?_|refine zHz ?_|refine zEv ?_|refine zEw ?_|refine zFz ?_|refine zJv ?_|refine zHy ?_|refine zBv ?_|refine zDx ?_|refine zCz ?_|refine zCw ?_|refine zEy ?_|refine zCv ?_|refine zCy ?_|refine zBy ?_|refine zDv ?_|refine zEz ?_|refine zAw ?_|refine zBz ?_)
  | refine zDz ?_|refine zEx rfl ?_|refine zJy ?_|refine zJx ?_
  | ((first|refine zGv rfl rfl rfl rfl rfl fun K_ hK_=>?_|refine zGw rfl rfl rfl rfl rfl fun K_ hK_=>?_);simp only [zAz,zDy,zGx,↓reduceIte,reduceCtorEq,Nat.reduceEqDiff,Bool.not_true,Bool.not_false];refine hK_ _ ?_;clear hK_ K_)
  | refine zDw (by decide) ?_
  | ((try first|refine zKy rfl rfl rfl ?_|refine zJz rfl rfl ?_|refine zKx rfl rfl rfl ?_|refine zIv rfl rfl ?_);(refine zIw fun Q_ hQ_=>?_;simp (disch:=first|omega|(simp only [List.length_cons,List.length_nil,List.length_append];omega)) only [bb,bp,zLy,↓reduceIte,reduceCtorEq,Nat.reduceEqDiff,Nat.reduceLT,Nat.reduceLeDiff,Nat.reduceAdd,Nat.reduceMul,Nat.reduceSub,Nat.reduceBEq,Int.reduceToNat,cond_true,cond_false,eq_self,beq_self_eq_true,g3,g4,g6,g15,g16,g17,g22,g23',ix0,c1,c2,zFx wf,zGy wf,zBw wf,zFy wf,zAy wf,zAx,tEvD17,zIx,zIy,zIz,zHv,zFv,zAv wf];first|(refine zCx (Q:=Q_) (fun hp_=>?_) (fun hp_=>?_) <;> first|(exfalso;omega)|(refine hQ_ _ _ ?_;clear hQ_ Q_))|(refine zBx (Q:=Q_) (fun hp_=>?_) (fun hp_=>?_) <;> first|(exfalso;omega)|(refine hQ_ _ _ ?_;clear hQ_ Q_))|(refine hQ_ _ _ ?_;clear hQ_ Q_)))
  | (refine zHx fun K_ hK_=>?_;simp (disch:=omega) only [zGz,zAz,zHw,↓reduceIte,reduceCtorEq,Nat.reduceEqDiff,Nat.reduceLT];refine hK_ _ ?_;clear hK_ K_)))
          all_goals first
            | (refine zLz 1 (by omega) ⟨by omega,fun _=>⟨by assumption,by assumption⟩,fun h=>absurd h (by omega),by simp only [zAz,↓reduceIte,reduceCtorEq,Nat.reduceEqDiff];exact g3,by simp only [zAz,↓reduceIte,reduceCtorEq,Nat.reduceEqDiff];exact g4,by simp only [zAz,↓reduceIte,reduceCtorEq,Nat.reduceEqDiff];exact g6,by simp only [zAz,↓reduceIte,reduceCtorEq,Nat.reduceEqDiff];exact g15,by simp only [zAz,↓reduceIte,reduceCtorEq,Nat.reduceEqDiff];exact g16,by simp only [zAz,↓reduceIte,reduceCtorEq,Nat.reduceEqDiff];exact g17,by simp only [zAz,↓reduceIte,reduceCtorEq,Nat.reduceEqDiff];exact g22,by simp only [zAz,↓reduceIte,reduceCtorEq,Nat.reduceEqDiff];rfl,rfl,rfl⟩)
            | ((refine zKz _ _ rfl (ret1 (by decide)) ?_;simp only [zAz,↓reduceIte,reduceCtorEq,Nat.reduceEqDiff];refine zKw rfl (by omega) ?_)
               exact ⟨by rw [hno fun q=>by have:=hid.1 q;simp_all],rfl⟩)
        · have g23':f 23 = .int .i64 1:=g23
          (repeat' (first
  | (with_reducible first|refine zJw ?_|refine zHz ?_|refine zEv ?_|refine zEw ?_|refine zFz ?_|refine zJv ?_|refine zHy ?_|refine zBv ?_|refine zDx ?_|refine zCz ?_|refine zCw ?_|refine zEy ?_|refine zCv ?_|refine zCy ?_|refine zBy ?_|refine zDv ?_|refine zEz ?_|refine zAw ?_|refine zBz ?_)
  | refine zDz ?_|refine zEx rfl ?_|refine zJy ?_|refine zJx ?_
  | ((first|refine zGv rfl rfl rfl rfl rfl fun K_ hK_=>?_|refine zGw rfl rfl rfl rfl rfl fun K_ hK_=>?_);simp only [zAz,zDy,zGx,↓reduceIte,reduceCtorEq,Nat.reduceEqDiff,Bool.not_true,Bool.not_false];refine hK_ _ ?_;clear hK_ K_)
  | refine zDw (by decide) ?_
  | ((try first|refine zKy rfl rfl rfl ?_|refine zJz rfl rfl ?_|refine zKx rfl rfl rfl ?_|refine zIv rfl rfl ?_);(refine zIw fun Q_ hQ_=>?_;simp (disch:=first|omega|(simp only [List.length_cons,List.length_nil,List.length_append];omega)) only [bb,bp,zLy,↓reduceIte,reduceCtorEq,Nat.reduceEqDiff,Nat.reduceLT,Nat.reduceLeDiff,Nat.reduceAdd,Nat.reduceMul,Nat.reduceSub,Nat.reduceBEq,Int.reduceToNat,cond_true,cond_false,eq_self,beq_self_eq_true,g3,g4,g6,g15,g16,g17,g22,g23',ix1,zFx wf,zGy wf,zBw wf,zFy wf,zAy wf,zAx,tEvD17,zIx,zIy,zIz,zHv,zFv,zAv wf];first|(refine zCx (Q:=Q_) (fun hp_=>?_) (fun hp_=>?_) <;> first|(exfalso;omega)|(refine hQ_ _ _ ?_;clear hQ_ Q_))|(refine zBx (Q:=Q_) (fun hp_=>?_) (fun hp_=>?_) <;> first|(exfalso;omega)|(refine hQ_ _ _ ?_;clear hQ_ Q_))|(refine hQ_ _ _ ?_;clear hQ_ Q_)))
  | (refine zHx fun K_ hK_=>?_;simp (disch:=omega) only [zGz,zAz,zHw,↓reduceIte,reduceCtorEq,Nat.reduceEqDiff,Nat.reduceLT];refine hK_ _ ?_;clear hK_ K_)))
          refine zLv [.full,.no,.full,.full,.full,.no,.no,.no,.no,.no,.full,.full,.full] (by kernel_rfl) ?_
          (repeat' (first
  | (with_reducible first|refine zJw ?_|refine zHz ?_|refine zEv ?_|refine zEw ?_|refine zFz ?_|refine zJv ?_|refine zHy ?_|refine zBv ?_|refine zDx ?_|refine zCz ?_|refine zCw ?_|refine zEy ?_|refine zCv ?_|refine zCy ?_|refine zBy ?_|refine zDv ?_|refine zEz ?_|refine zAw ?_|refine zBz ?_)
  | refine zDz ?_|refine zEx rfl ?_|refine zJy ?_|refine zJx ?_
  | ((first|refine zGv rfl rfl rfl rfl rfl fun K_ hK_=>?_|refine zGw rfl rfl rfl rfl rfl fun K_ hK_=>?_);simp only [zAz,zDy,zGx,↓reduceIte,reduceCtorEq,Nat.reduceEqDiff,Bool.not_true,Bool.not_false];refine hK_ _ ?_;clear hK_ K_)
  | refine zDw (by decide) ?_
  | ((try first|refine zKy rfl rfl rfl ?_|refine zJz rfl rfl ?_|refine zKx rfl rfl rfl ?_|refine zIv rfl rfl ?_);(refine zIw fun Q_ hQ_=>?_;simp (disch:=first|omega|(simp only [List.length_cons,List.length_nil,List.length_append];omega)) only [bb,bp,zLy,↓reduceIte,reduceCtorEq,Nat.reduceEqDiff,Nat.reduceLT,Nat.reduceLeDiff,Nat.reduceAdd,Nat.reduceMul,Nat.reduceSub,Nat.reduceBEq,Int.reduceToNat,cond_true,cond_false,eq_self,beq_self_eq_true,g3,g4,g6,g15,g16,g17,g22,g23',ix1,c1,c2,zFx wf,zGy wf,zBw wf,zFy wf,zAy wf,zAx,tEvD17,zIx,zIy,zIz,zHv,zFv,zAv wf];first|(refine zCx (Q:=Q_) (fun hp_=>?_) (fun hp_=>?_) <;> first|(exfalso;omega)|(refine hQ_ _ _ ?_;clear hQ_ Q_))|(refine zBx (Q:=Q_) (fun hp_=>?_) (fun hp_=>?_) <;> first|(exfalso;omega)|(refine hQ_ _ _ ?_;clear hQ_ Q_))|(refine hQ_ _ _ ?_;clear hQ_ Q_)))
  | (refine zHx fun K_ hK_=>?_;simp (disch:=omega) only [zGz,zAz,zHw,↓reduceIte,reduceCtorEq,Nat.reduceEqDiff,Nat.reduceLT];refine hK_ _ ?_;clear hK_ K_)))
          all_goals first
            | (refine zLz 2 (by omega) ⟨by omega,fun _=>q0 (by omega),fun _=>⟨by assumption,by assumption⟩,by simp only [zAz,↓reduceIte,reduceCtorEq,Nat.reduceEqDiff];exact g3,by simp only [zAz,↓reduceIte,reduceCtorEq,Nat.reduceEqDiff];exact g4,by simp only [zAz,↓reduceIte,reduceCtorEq,Nat.reduceEqDiff];exact g6,by simp only [zAz,↓reduceIte,reduceCtorEq,Nat.reduceEqDiff];exact g15,by simp only [zAz,↓reduceIte,reduceCtorEq,Nat.reduceEqDiff];exact g16,by simp only [zAz,↓reduceIte,reduceCtorEq,Nat.reduceEqDiff];exact g17,by simp only [zAz,↓reduceIte,reduceCtorEq,Nat.reduceEqDiff];exact g22,by simp only [zAz,↓reduceIte,reduceCtorEq,Nat.reduceEqDiff];rfl,rfl,rfl⟩)
            | ((refine zKz _ _ rfl (ret1 (by decide)) ?_;simp only [zAz,↓reduceIte,reduceCtorEq,Nat.reduceEqDiff];refine zKw rfl (by omega) ?_)
               exact ⟨by rw [hno fun q=>by have:=hid.1 q;simp_all],rfl⟩)
        · have g23':f 23 = .int .i64 2:=g23
          (repeat' (first
  | (with_reducible first|refine zJw ?_|refine zHz ?_|refine zEv ?_|refine zEw ?_|refine zFz ?_|refine zJv ?_|refine zHy ?_|refine zBv ?_|refine zDx ?_|refine zCz ?_|refine zCw ?_|refine zEy ?_|refine zCv ?_|refine zCy ?_|refine zBy ?_|refine zDv ?_|refine zEz ?_|refine zAw ?_|refine zBz ?_)
  | refine zDz ?_|refine zEx rfl ?_|refine zJy ?_|refine zJx ?_
  | ((first|refine zGv rfl rfl rfl rfl rfl fun K_ hK_=>?_|refine zGw rfl rfl rfl rfl rfl fun K_ hK_=>?_);simp only [zAz,zDy,zGx,↓reduceIte,reduceCtorEq,Nat.reduceEqDiff,Bool.not_true,Bool.not_false];refine hK_ _ ?_;clear hK_ K_)
  | refine zDw (by decide) ?_
  | ((try first|refine zKy rfl rfl rfl ?_|refine zJz rfl rfl ?_|refine zKx rfl rfl rfl ?_|refine zIv rfl rfl ?_);(refine zIw fun Q_ hQ_=>?_;simp (disch:=first|omega|(simp only [List.length_cons,List.length_nil,List.length_append];omega)) only [bb,bp,zLy,↓reduceIte,reduceCtorEq,Nat.reduceEqDiff,Nat.reduceLT,Nat.reduceLeDiff,Nat.reduceAdd,Nat.reduceMul,Nat.reduceSub,Nat.reduceBEq,Int.reduceToNat,cond_true,cond_false,eq_self,beq_self_eq_true,g3,g4,g6,g15,g16,g17,g22,g23',zFx wf,zGy wf,zBw wf,zFy wf,zAy wf,zAx,tEvD17,zIx,zIy,zIz,zHv,zFv,zAv wf];first|(refine zCx (Q:=Q_) (fun hp_=>?_) (fun hp_=>?_) <;> first|(exfalso;omega)|(refine hQ_ _ _ ?_;clear hQ_ Q_))|(refine zBx (Q:=Q_) (fun hp_=>?_) (fun hp_=>?_) <;> first|(exfalso;omega)|(refine hQ_ _ _ ?_;clear hQ_ Q_))|(refine hQ_ _ _ ?_;clear hQ_ Q_)))
  | (refine zHx fun K_ hK_=>?_;simp (disch:=omega) only [zGz,zAz,zHw,↓reduceIte,reduceCtorEq,Nat.reduceEqDiff,Nat.reduceLT];refine hK_ _ ?_;clear hK_ K_)))
          refine zLz (i+1) (by omega) ⟨hlt,fun j hj hji=>?_,by simp only [zAz,↓reduceIte,reduceCtorEq,Nat.reduceEqDiff];exact g3,by simp only [zAz,↓reduceIte,reduceCtorEq,Nat.reduceEqDiff];exact g4,by simp only [zAz,↓reduceIte,reduceCtorEq,Nat.reduceEqDiff];exact g15,by simp only [zAz,↓reduceIte,reduceCtorEq,Nat.reduceEqDiff];exact g16,by simp only [zAz,↓reduceIte,reduceCtorEq,Nat.reduceEqDiff];rfl,rfl,_,rfl⟩
          by_cases hje:j=i
          · subst hje;exact hid.2 ⟨q0 (by omega),q1 (by omega)⟩
          · exact hall j hj (by omega)
      · exact ⟨by omega,fun h=>absurd h (by omega),fun h=>absurd h (by omega),by simp only [zAz,↓reduceIte,reduceCtorEq,Nat.reduceEqDiff];exact g3,by simp only [zAz,↓reduceIte,reduceCtorEq,Nat.reduceEqDiff];exact g4,by simp only [zAz,↓reduceIte,reduceCtorEq,Nat.reduceEqDiff],by simp only [zAz,↓reduceIte,reduceCtorEq,Nat.reduceEqDiff];exact g15,by simp only [zAz,↓reduceIte,reduceCtorEq,Nat.reduceEqDiff];exact g16,by simp only [zAz,↓reduceIte,reduceCtorEq,Nat.reduceEqDiff];exact g17,by simp only [zAz,↓reduceIte,reduceCtorEq,Nat.reduceEqDiff],by simp only [zAz,↓reduceIte,reduceCtorEq,Nat.reduceEqDiff];rfl,rfl,rfl⟩
    · have hie:i=ls.length:=by omega
      have hr:rk T ls:=fun l hl2=>by
        obtain ⟨j,hj,rfl⟩:=List.getElem_of_mem hl2
        exact hall j hj (by omega)
      (repeat' (first
  | (with_reducible first|refine zJw ?_|refine zHz ?_|refine zEv ?_|refine zEw ?_|refine zFz ?_|refine zJv ?_|refine zHy ?_|refine zBv ?_|refine zDx ?_|refine zCz ?_|refine zCw ?_|refine zEy ?_|refine zCv ?_|refine zCy ?_|refine zBy ?_|refine zDv ?_|refine zEz ?_|refine zAw ?_|refine zBz ?_)
  | refine zDz ?_|refine zEx rfl ?_|refine zJy ?_|refine zJx ?_
  | ((first|refine zGv rfl rfl rfl rfl rfl fun K_ hK_=>?_|refine zGw rfl rfl rfl rfl rfl fun K_ hK_=>?_);simp only [zAz,zDy,zGx,↓reduceIte,reduceCtorEq,Nat.reduceEqDiff,Bool.not_true,Bool.not_false];refine hK_ _ ?_;clear hK_ K_)
  | refine zDw (by decide) ?_
  | ((try first|refine zKy rfl rfl rfl ?_|refine zJz rfl rfl ?_|refine zKx rfl rfl rfl ?_|refine zIv rfl rfl ?_);(refine zIw fun Q_ hQ_=>?_;simp (disch:=first|omega|(simp only [List.length_cons,List.length_nil,List.length_append];omega)) only [bb,bp,zLy,↓reduceIte,reduceCtorEq,Nat.reduceEqDiff,Nat.reduceLT,Nat.reduceLeDiff,Nat.reduceAdd,Nat.reduceMul,Nat.reduceSub,Nat.reduceBEq,Int.reduceToNat,cond_true,cond_false,eq_self,beq_self_eq_true,g3,g4,g15,g16,g17,zFx wf,zGy wf,zBw wf,zFy wf,zAy wf,zAx,tEvD17,zIx,zIy,zIz,zHv,zFv,zAv wf];first|(refine zCx (Q:=Q_) (fun hp_=>?_) (fun hp_=>?_) <;> first|(exfalso;omega)|(refine hQ_ _ _ ?_;clear hQ_ Q_))|(refine zBx (Q:=Q_) (fun hp_=>?_) (fun hp_=>?_) <;> first|(exfalso;omega)|(refine hQ_ _ _ ?_;clear hQ_ Q_))|(refine hQ_ _ _ ?_;clear hQ_ Q_)))
  | (refine zHx fun K_ hK_=>?_;simp (disch:=omega) only [zGz,zAz,zHw,↓reduceIte,reduceCtorEq,Nat.reduceEqDiff,Nat.reduceLT];refine hK_ _ ?_;clear hK_ K_)))
      (refine zKz _ _ rfl (ret1 (by decide)) ?_;simp only [zAz,↓reduceIte,reduceCtorEq,Nat.reduceEqDiff];refine zKw rfl (by omega) ?_)
      exact ⟨by rw [decide_eq_true hr],rfl⟩
  · exact ⟨Nat.zero_le _,fun j _ hj=>absurd hj (Nat.not_lt_zero j),by simp only [zAz,↓reduceIte,reduceCtorEq,Nat.reduceEqDiff],by simp only [zAz,↓reduceIte,reduceCtorEq,Nat.reduceEqDiff],by simp only [zAz,↓reduceIte,reduceCtorEq,Nat.reduceEqDiff],by simp only [zAz,↓reduceIte,reduceCtorEq,Nat.reduceEqDiff],by simp only [zAz,↓reduceIte,reduceCtorEq,Nat.reduceEqDiff];rfl,rfl,[],rfl⟩

theorem LinesR.new {h:H} {s:AV} {ls:List Ln} (x:LinesR h s ls) {L:List AO} {w k e:Nat} (hw:w≤h.clock+L.length) (hk:L[k]? = some (.cells (zFw (ls.flatMap lnC)) e)):LinesR (X h L w) (.sl (nx h k) 0 ls.length (some ls.length) 2) ls:=
  ⟨x.wf.X hw,Sl.new x.wf (by rw [flat_length xJv]) hk,fun l hl=>(x.ln l hl).up L w hw⟩
def reckErr (T:Te) (ls:List Ln):Int:=if ¬ okT T then 2 else if linesErr ls≠0 then linesErr ls else if rk T ls then 0 else 19
theorem reck1 {T:Te} {ls:List Ln} (k : ¬ okT T):reckErr T ls=2:=if_pos k
theorem reck2 {T:Te} {ls:List Ln} (k:okT T) (h : ¬ linesErr ls=0):reckErr T ls=linesErr ls:=by simp [reckErr,k,h]
theorem reck3 {T:Te} {ls:List Ln} (k:okT T) (h:linesErr ls=0) (q : ¬ rk T ls):reckErr T ls=19:=by simp [reckErr,k,h,q]
theorem reck4 {T:Te} {ls:List Ln} (k:okT T) (h:linesErr ls=0) (q:rk T ls):reckErr T ls=0:=by simp [reckErr,k,h,q]
def z17 :AV:=.agg [ii 0,ii 0,ii 0,ii 0,ii 0,ii 0,ii 0,ii 0,ii 0,ii 0,ii 0,ii 0,ii 0,ii 0,ii 0,ii 0,.nils]
theorem reckonedE (T:Te) (s:AV) (ls:List Ln) (hne : ¬ reckErr T ls=0) (h:H) (x:LinesR h s ls):(om Try.prog KK).call (.fn 54 [.agg [ii T.sp,ii T.lo,ii T.we,ii T.al,ii T.f0,ii T.f1,ii T.t0,ii T.t1,ii T.s0,ii T.s1,ii T.o0,ii T.o1,ii T.b0,ii T.b1,ii T.r0,ii T.r1],s]) h = .ok (.tup [z17,ii (reckErr T ls)]) h:=by
  have wf:=x.wf
  obtain ⟨f1,f2⟩:=x.flat
  refine zWy (zLx (fn:=Try.f54) Try.func54 rfl rfl rfl rfl rfl ?_)
  simp only [zLy]
  by_cases k:okT T
  · have e0:=zWx k
    by_cases hz:linesErr ls=0
    · have hk:=yWv.1 hz
      by_cases q:rk T ls
      · exact absurd (reck4 k hz q) hne
      · rw [reck3 k hz q]
        have c1 : ∀ l w,w≤h.clock+l.length→(om Try.prog KK).call (.fn 70 [s]) (X h l w) = .ok (.sl (nx h l.length) 0 ls.length (some ls.length) 2) (X h (l++(.cells (zFw (ls.flatMap lnC)) 67 :: ls.map lnO)) w):=fun l w hw=>curvesOf s ls hk.n h x l w hw
        (repeat' (first
  | (with_reducible first|refine zJw ?_|refine zHz ?_|refine zEv ?_|refine zEw ?_|refine zFz ?_|refine zJv ?_|refine zHy ?_|refine zBv ?_|refine zDx ?_|refine zCz ?_|refine zCw ?_|refine zEy ?_|refine zCv ?_|refine zCy ?_|refine zBy ?_|refine zDv ?_|refine zEz ?_|refine zAw ?_|refine zBz ?_)
  | refine zDz ?_|refine zEx rfl ?_|refine zJy ?_|refine zJx ?_
  | ((first|refine zGv rfl rfl rfl rfl rfl fun K_ hK_=>?_|refine zGw rfl rfl rfl rfl rfl fun K_ hK_=>?_);simp only [zAz,zDy,zGx,↓reduceIte,reduceCtorEq,Nat.reduceEqDiff,Bool.not_true,Bool.not_false];refine hK_ _ ?_;clear hK_ K_)
  | refine zDw (by decide) ?_
  | ((try first|refine zKy rfl rfl rfl ?_|refine zJz rfl rfl ?_|refine zKx rfl rfl rfl ?_|refine zIv rfl rfl ?_);(refine zIw fun Q_ hQ_=>?_;simp (disch:=first|omega|(simp only [List.length_cons,List.length_nil,List.length_append];omega)) only [bb,bp,zLy,↓reduceIte,reduceCtorEq,Nat.reduceEqDiff,Nat.reduceLT,Nat.reduceLeDiff,Nat.reduceAdd,Nat.reduceMul,Nat.reduceSub,Nat.reduceBEq,Int.reduceToNat,cond_true,cond_false,eq_self,beq_self_eq_true,f1,f2,zFx wf,zGy wf,zBw wf,zFy wf,zAy wf,zAx,tEvD17,zIx,zIy,zIz,zHv,zFv,zAv wf];first|(refine zCx (Q:=Q_) (fun hp_=>?_) (fun hp_=>?_) <;> first|(exfalso;omega)|(refine hQ_ _ _ ?_;clear hQ_ Q_))|(refine zBx (Q:=Q_) (fun hp_=>?_) (fun hp_=>?_) <;> first|(exfalso;omega)|(refine hQ_ _ _ ?_;clear hQ_ Q_))|(refine hQ_ _ _ ?_;clear hQ_ Q_)|(refine zRv ((CheckTest T _ (wf.X (Nat.le_add_right _ _))).trans (by rw [e0])) ?_;refine hQ_ _ _ ?_;clear hQ_ Q_)|(refine zRv ((checkLines s ls _ (x.up _ _ (by simp only [List.length_append,List.length_cons,List.length_nil];omega))).trans (by rw [hz])) ?_;refine hQ_ _ _ ?_;clear hQ_ Q_)))
  | (refine zHx fun K_ hK_=>?_;simp (disch:=omega) only [zGz,zAz,zHw,↓reduceIte,reduceCtorEq,Nat.reduceEqDiff,Nat.reduceLT];refine hK_ _ ?_;clear hK_ K_)))
        refine zLv [.no,.no,.no,.no,.no,.full] (by kernel_rfl) ?_
        (repeat' (first
  | (with_reducible first|refine zJw ?_|refine zHz ?_|refine zEv ?_|refine zEw ?_|refine zFz ?_|refine zJv ?_|refine zHy ?_|refine zBv ?_|refine zDx ?_|refine zCz ?_|refine zCw ?_|refine zEy ?_|refine zCv ?_|refine zCy ?_|refine zBy ?_|refine zDv ?_|refine zEz ?_|refine zAw ?_|refine zBz ?_)
  | refine zDz ?_|refine zEx rfl ?_|refine zJy ?_|refine zJx ?_
  | ((first|refine zGv rfl rfl rfl rfl rfl fun K_ hK_=>?_|refine zGw rfl rfl rfl rfl rfl fun K_ hK_=>?_);simp only [zAz,zDy,zGx,↓reduceIte,reduceCtorEq,Nat.reduceEqDiff,Bool.not_true,Bool.not_false];refine hK_ _ ?_;clear hK_ K_)
  | refine zDw (by decide) ?_
  | ((try first|refine zKy rfl rfl rfl ?_|refine zJz rfl rfl ?_|refine zKx rfl rfl rfl ?_|refine zIv rfl rfl ?_);(refine zIw fun Q_ hQ_=>?_;simp (disch:=first|omega|(simp only [List.length_cons,List.length_nil,List.length_append];omega)) only [bb,bp,zLy,↓reduceIte,reduceCtorEq,Nat.reduceEqDiff,Nat.reduceLT,Nat.reduceLeDiff,Nat.reduceAdd,Nat.reduceMul,Nat.reduceSub,Nat.reduceBEq,Int.reduceToNat,cond_true,cond_false,eq_self,beq_self_eq_true,f1,f2,c1,zFx wf,zGy wf,zBw wf,zFy wf,zAy wf,zAx,tEvD17,zIx,zIy,zIz,zHv,zFv,zAv wf];first|(refine zCx (Q:=Q_) (fun hp_=>?_) (fun hp_=>?_) <;> first|(exfalso;omega)|(refine hQ_ _ _ ?_;clear hQ_ Q_))|(refine zBx (Q:=Q_) (fun hp_=>?_) (fun hp_=>?_) <;> first|(exfalso;omega)|(refine hQ_ _ _ ?_;clear hQ_ Q_))|(refine hQ_ _ _ ?_;clear hQ_ Q_)))
  | (refine zHx fun K_ hK_=>?_;simp (disch:=omega) only [zGz,zAz,zHw,↓reduceIte,reduceCtorEq,Nat.reduceEqDiff,Nat.reduceLT];refine hK_ _ ?_;clear hK_ K_)))
        (repeat' (first
  | (with_reducible first|refine zJw ?_|refine zHz ?_|refine zEv ?_|refine zEw ?_|refine zFz ?_|refine zJv ?_|refine zHy ?_|refine zBv ?_|refine zDx ?_|refine zCz ?_|refine zCw ?_|refine zEy ?_|refine zCv ?_|refine zCy ?_|refine zBy ?_|refine zDv ?_|refine zEz ?_|refine zAw ?_|refine zBz ?_)
  | refine zDz ?_|refine zEx rfl ?_|refine zJy ?_|refine zJx ?_
  | ((first|refine zGv rfl rfl rfl rfl rfl fun K_ hK_=>?_|refine zGw rfl rfl rfl rfl rfl fun K_ hK_=>?_);simp only [zAz,zDy,zGx,↓reduceIte,reduceCtorEq,Nat.reduceEqDiff,Bool.not_true,Bool.not_false];refine hK_ _ ?_;clear hK_ K_)
  | refine zDw (by decide) ?_
  | ((try first|refine zKy rfl rfl rfl ?_|refine zJz rfl rfl ?_|refine zKx rfl rfl rfl ?_|refine zIv rfl rfl ?_);(refine zIw fun Q_ hQ_=>?_;simp (disch:=first|omega|(simp only [List.length_cons,List.length_nil,List.length_append];omega)) only [bb,bp,zLy,↓reduceIte,reduceCtorEq,Nat.reduceEqDiff,Nat.reduceLT,Nat.reduceLeDiff,Nat.reduceAdd,Nat.reduceMul,Nat.reduceSub,Nat.reduceBEq,Int.reduceToNat,cond_true,cond_false,eq_self,beq_self_eq_true,f1,f2,zFx wf,zGy wf,zBw wf,zFy wf,zAy wf,zAx,tEvD17,zIx,zIy,zIz,zHv,zFv,zAv wf];first|(refine zCx (Q:=Q_) (fun hp_=>?_) (fun hp_=>?_) <;> first|(exfalso;omega)|(refine hQ_ _ _ ?_;clear hQ_ Q_))|(refine zBx (Q:=Q_) (fun hp_=>?_) (fun hp_=>?_) <;> first|(exfalso;omega)|(refine hQ_ _ _ ?_;clear hQ_ Q_))|(refine hQ_ _ _ ?_;clear hQ_ Q_)|(refine zRv ((isInside T k _ ls hk _ (x.new (k:=2) (by simp only [List.length_append,List.length_cons,List.length_nil];omega) rfl)).trans (by rw [decide_eq_false q])) ?_;refine hQ_ _ _ ?_;clear hQ_ Q_)))
  | (refine zHx fun K_ hK_=>?_;simp (disch:=omega) only [zGz,zAz,zHw,↓reduceIte,reduceCtorEq,Nat.reduceEqDiff,Nat.reduceLT];refine hK_ _ ?_;clear hK_ K_)))
        refine zKz _ _ rfl (retc1 (by decide) (by decide) (by simp (disch:=first|omega|(simp only [List.length_cons,List.length_nil,List.length_append];omega)) only [bb,bp,zLy,↓reduceIte,reduceCtorEq,Nat.reduceEqDiff,Nat.reduceLT,Nat.reduceLeDiff,Nat.reduceAdd,Nat.reduceMul,Nat.reduceSub,Nat.reduceBEq,Int.reduceToNat,cond_true,cond_false,eq_self,beq_self_eq_true,zBw wf,tEvD17,zIx,zIy,zIz,zHv,zFv,zAv wf];rfl)) ?_
        refine zKw rfl (by omega) ?_
        exact ⟨rfl,rfl⟩
    · rw [reck2 k hz]
      (repeat' (first
  | (with_reducible first|refine zJw ?_|refine zHz ?_|refine zEv ?_|refine zEw ?_|refine zFz ?_|refine zJv ?_|refine zHy ?_|refine zBv ?_|refine zDx ?_|refine zCz ?_|refine zCw ?_|refine zEy ?_|refine zCv ?_|refine zCy ?_|refine zBy ?_|refine zDv ?_|refine zEz ?_|refine zAw ?_|refine zBz ?_)
  | refine zDz ?_|refine zEx rfl ?_|refine zJy ?_|refine zJx ?_
  | ((first|refine zGv rfl rfl rfl rfl rfl fun K_ hK_=>?_|refine zGw rfl rfl rfl rfl rfl fun K_ hK_=>?_);simp only [zAz,zDy,zGx,↓reduceIte,reduceCtorEq,Nat.reduceEqDiff,Bool.not_true,Bool.not_false];refine hK_ _ ?_;clear hK_ K_)
  | refine zDw (by decide) ?_
  | ((try first|refine zKy rfl rfl rfl ?_|refine zJz rfl rfl ?_|refine zKx rfl rfl rfl ?_|refine zIv rfl rfl ?_);(refine zIw fun Q_ hQ_=>?_;simp (disch:=first|omega|(simp only [List.length_cons,List.length_nil,List.length_append];omega)) only [bb,bp,zLy,↓reduceIte,reduceCtorEq,Nat.reduceEqDiff,Nat.reduceLT,Nat.reduceLeDiff,Nat.reduceAdd,Nat.reduceMul,Nat.reduceSub,Nat.reduceBEq,Int.reduceToNat,cond_true,cond_false,eq_self,beq_self_eq_true,f1,f2,zFx wf,zGy wf,zBw wf,zFy wf,zAy wf,zAx,tEvD17,zIx,zIy,zIz,zHv,zFv,zAv wf];first|(refine zCx (Q:=Q_) (fun hp_=>?_) (fun hp_=>?_) <;> first|(exfalso;omega)|(refine hQ_ _ _ ?_;clear hQ_ Q_))|(refine zBx (Q:=Q_) (fun hp_=>?_) (fun hp_=>?_) <;> first|(exfalso;omega)|(refine hQ_ _ _ ?_;clear hQ_ Q_))|(refine hQ_ _ _ ?_;clear hQ_ Q_)|(refine zRv ((CheckTest T _ (wf.X (Nat.le_add_right _ _))).trans (by rw [e0])) ?_;refine hQ_ _ _ ?_;clear hQ_ Q_)|(refine zRv (checkLines s ls _ (x.up _ _ (by simp only [List.length_append,List.length_cons,List.length_nil];omega))) ?_;refine hQ_ _ _ ?_;clear hQ_ Q_)))
  | (refine zHx fun K_ hK_=>?_;simp (disch:=omega) only [zGz,zAz,zHw,↓reduceIte,reduceCtorEq,Nat.reduceEqDiff,Nat.reduceLT];refine hK_ _ ?_;clear hK_ K_)))
      refine zKz _ _ rfl (retc1 (by decide) (by decide) (by simp (disch:=first|omega|(simp only [List.length_cons,List.length_nil,List.length_append];omega)) only [bb,bp,zLy,↓reduceIte,reduceCtorEq,Nat.reduceEqDiff,Nat.reduceLT,Nat.reduceLeDiff,Nat.reduceAdd,Nat.reduceMul,Nat.reduceSub,Nat.reduceBEq,Int.reduceToNat,cond_true,cond_false,eq_self,beq_self_eq_true,zBw wf,tEvD17,zIx,zIy,zIz,zHv,zFv,zAv wf];rfl)) ?_
      refine zKw rfl (by omega) ?_
      exact ⟨rfl,rfl⟩
  · have e0:=yYx k
    rw [reck1 k]
    (repeat' (first
  | (with_reducible first|refine zJw ?_|refine zHz ?_|refine zEv ?_|refine zEw ?_|refine zFz ?_|refine zJv ?_|refine zHy ?_|refine zBv ?_|refine zDx ?_|refine zCz ?_|refine zCw ?_|refine zEy ?_|refine zCv ?_|refine zCy ?_|refine zBy ?_|refine zDv ?_|refine zEz ?_|refine zAw ?_|refine zBz ?_)
  | refine zDz ?_|refine zEx rfl ?_|refine zJy ?_|refine zJx ?_
  | ((first|refine zGv rfl rfl rfl rfl rfl fun K_ hK_=>?_|refine zGw rfl rfl rfl rfl rfl fun K_ hK_=>?_);simp only [zAz,zDy,zGx,↓reduceIte,reduceCtorEq,Nat.reduceEqDiff,Bool.not_true,Bool.not_false];refine hK_ _ ?_;clear hK_ K_)
  | refine zDw (by decide) ?_
  | ((try first|refine zKy rfl rfl rfl ?_|refine zJz rfl rfl ?_|refine zKx rfl rfl rfl ?_|refine zIv rfl rfl ?_);(refine zIw fun Q_ hQ_=>?_;simp (disch:=first|omega|(simp only [List.length_cons,List.length_nil,List.length_append];omega)) only [bb,bp,zLy,↓reduceIte,reduceCtorEq,Nat.reduceEqDiff,Nat.reduceLT,Nat.reduceLeDiff,Nat.reduceAdd,Nat.reduceMul,Nat.reduceSub,Nat.reduceBEq,Int.reduceToNat,cond_true,cond_false,eq_self,beq_self_eq_true,f1,f2,zFx wf,zGy wf,zBw wf,zFy wf,zAy wf,zAx,tEvD17,zIx,zIy,zIz,zHv,zFv,zAv wf];first|(refine zCx (Q:=Q_) (fun hp_=>?_) (fun hp_=>?_) <;> first|(exfalso;omega)|(refine hQ_ _ _ ?_;clear hQ_ Q_))|(refine zBx (Q:=Q_) (fun hp_=>?_) (fun hp_=>?_) <;> first|(exfalso;omega)|(refine hQ_ _ _ ?_;clear hQ_ Q_))|(refine hQ_ _ _ ?_;clear hQ_ Q_)|(refine zRv ((CheckTest T _ (wf.X (Nat.le_add_right _ _))).trans (by rw [e0])) ?_;refine hQ_ _ _ ?_;clear hQ_ Q_)))
  | (refine zHx fun K_ hK_=>?_;simp (disch:=omega) only [zGz,zAz,zHw,↓reduceIte,reduceCtorEq,Nat.reduceEqDiff,Nat.reduceLT];refine hK_ _ ?_;clear hK_ K_)))
    refine zKz _ _ rfl (retc1 (by decide) (by decide) (by simp (disch:=first|omega|(simp only [List.length_cons,List.length_nil,List.length_append];omega)) only [bb,bp,zLy,↓reduceIte,reduceCtorEq,Nat.reduceEqDiff,Nat.reduceLT,Nat.reduceLeDiff,Nat.reduceAdd,Nat.reduceMul,Nat.reduceSub,Nat.reduceBEq,Int.reduceToNat,cond_true,cond_false,eq_self,beq_self_eq_true,zBw wf,tEvD17,zIx,zIy,zIz,zHv,zFv,zAv wf];rfl)) ?_
    refine zKw rfl (by omega) ?_
    exact ⟨rfl,rfl⟩

theorem reckoned (T:Te) (s:AV) (ls:List Ln) (k:okT T) (hk:okLs ls) (q:rk T ls) (h:H) (x:LinesR h s ls) (L:List AO) (w:Nat) (hw:w≤h.clock+L.length) :
    ∃ M lv,(om Try.prog KK).call (.fn 54 [.agg [ii T.sp,ii T.lo,ii T.we,ii T.al,ii T.f0,ii T.f1,ii T.t0,ii T.t1,ii T.s0,ii T.s1,ii T.o0,ii T.o1,ii T.b0,ii T.b1,ii T.r0,ii T.r1],s]) (X h L w) = .ok (.tup [.agg [ii T.sp,ii T.lo,ii T.we,ii T.al,ii T.f0,ii T.f1,ii T.t0,ii T.t1,ii T.s0,ii T.s1,ii T.o0,ii T.o1,ii T.b0,ii T.b1,ii T.r0,ii T.r1,lv],ii 0]) (X h (L++M) w)∧CapU 2 lv ∧ ∀ R w',w'≤h.clock+(L.length+(M.length+R.length))→LinesR (X h (L++(M++R)) w') lv ls:=by
  have key : ∀ hb,LinesR hb s ls → ∃ M,(om Try.prog KK).call (.fn 54 [.agg [ii T.sp,ii T.lo,ii T.we,ii T.al,ii T.f0,ii T.f1,ii T.t0,ii T.t1,ii T.s0,ii T.s1,ii T.o0,ii T.o1,ii T.b0,ii T.b1,ii T.r0,ii T.r1],s]) hb = .ok (.tup [.agg [ii T.sp,ii T.lo,ii T.we,ii T.al,ii T.f0,ii T.f1,ii T.t0,ii T.t1,ii T.s0,ii T.s1,ii T.o0,ii T.o1,ii T.b0,ii T.b1,ii T.r0,ii T.r1,.sl (nx hb 2) 0 ls.length (some ls.length) 2],ii 0]) (X hb M hb.w)∧M[2]? = some (.cells (zFw (ls.flatMap lnC)) 67):=by
    clear hw x
    intro h x
    have wf:=x.wf
    obtain ⟨f1,f2⟩:=x.flat
    have e0:=zWx k
    have hz:=yWv.2 hk
    refine ⟨[.cells (zFw [ii T.sp,ii T.lo,ii T.we,ii T.al,ii T.f0,ii T.f1,ii T.t0,ii T.t1,ii T.s0,ii T.s1,ii T.o0,ii T.o1,ii T.b0,ii T.b1,ii T.r0,ii T.r1]) 35,.cells (zFw [ii T.sp,ii T.lo,ii T.we,ii T.al,ii T.f0,ii T.f1,ii T.t0,ii T.t1,ii T.s0,ii T.s1,ii T.o0,ii T.o1,ii T.b0,ii T.b1,ii T.r0,ii T.r1,.sl (nx h 2) 0 ls.length (some ls.length) 2]) 76,.cells (zFw (ls.flatMap lnC)) 67]++(ls.map lnO++[.cells (zFw [ii T.sp,ii T.lo,ii T.we,ii T.al,ii T.f0,ii T.f1,ii T.t0,ii T.t1,ii T.s0,ii T.s1,ii T.o0,ii T.o1,ii T.b0,ii T.b1,ii T.r0,ii T.r1,.sl (nx h 2) 0 ls.length (some ls.length) 2]) 76]),?_,rfl⟩
    refine zWy (zLx (fn:=Try.f54) Try.func54 rfl rfl rfl rfl rfl ?_)
    simp only [zLy]
    have c1 : ∀ l w,w≤h.clock+l.length→(om Try.prog KK).call (.fn 70 [s]) (X h l w) = .ok (.sl (nx h l.length) 0 ls.length (some ls.length) 2) (X h (l++(.cells (zFw (ls.flatMap lnC)) 67 :: ls.map lnO)) w):=fun l w hw=>curvesOf s ls hk.n h x l w hw
    (repeat' (first
  | (with_reducible first|refine zJw ?_|refine zHz ?_|refine zEv ?_|refine zEw ?_|refine zFz ?_|refine zJv ?_|refine zHy ?_|refine zBv ?_|refine zDx ?_|refine zCz ?_|refine zCw ?_|refine zEy ?_|refine zCv ?_|refine zCy ?_|refine zBy ?_|refine zDv ?_|refine zEz ?_|refine zAw ?_|refine zBz ?_)
  | refine zDz ?_|refine zEx rfl ?_|refine zJy ?_|refine zJx ?_
  | ((first|refine zGv rfl rfl rfl rfl rfl fun K_ hK_=>?_|refine zGw rfl rfl rfl rfl rfl fun K_ hK_=>?_);simp only [zAz,zDy,zGx,↓reduceIte,reduceCtorEq,Nat.reduceEqDiff,Bool.not_true,Bool.not_false];refine hK_ _ ?_;clear hK_ K_)
  | refine zDw (by decide) ?_
  | ((try first|refine zKy rfl rfl rfl ?_|refine zJz rfl rfl ?_|refine zKx rfl rfl rfl ?_|refine zIv rfl rfl ?_);(refine zIw fun Q_ hQ_=>?_;simp (disch:=first|omega|(simp only [List.length_cons,List.length_nil,List.length_append];omega)) only [bb,bp,zLy,↓reduceIte,reduceCtorEq,Nat.reduceEqDiff,Nat.reduceLT,Nat.reduceLeDiff,Nat.reduceAdd,Nat.reduceMul,Nat.reduceSub,Nat.reduceBEq,Int.reduceToNat,cond_true,cond_false,eq_self,beq_self_eq_true,f1,f2,zFx wf,zGy wf,zBw wf,zFy wf,zAy wf,zAx,tEvD17,zIx,zIy,zIz,zHv,zFv,zAv wf];first|(refine zCx (Q:=Q_) (fun hp_=>?_) (fun hp_=>?_) <;> first|(exfalso;omega)|(refine hQ_ _ _ ?_;clear hQ_ Q_))|(refine zBx (Q:=Q_) (fun hp_=>?_) (fun hp_=>?_) <;> first|(exfalso;omega)|(refine hQ_ _ _ ?_;clear hQ_ Q_))|(refine hQ_ _ _ ?_;clear hQ_ Q_)|(refine zRv ((CheckTest T _ (wf.X (Nat.le_add_right _ _))).trans (by rw [e0])) ?_;refine hQ_ _ _ ?_;clear hQ_ Q_)|(refine zRv ((checkLines s ls _ (x.up _ _ (by simp only [List.length_append,List.length_cons,List.length_nil];omega))).trans (by rw [hz])) ?_;refine hQ_ _ _ ?_;clear hQ_ Q_)))
  | (refine zHx fun K_ hK_=>?_;simp (disch:=omega) only [zGz,zAz,zHw,↓reduceIte,reduceCtorEq,Nat.reduceEqDiff,Nat.reduceLT];refine hK_ _ ?_;clear hK_ K_)))
    refine zLv [.no,.no,.no,.no,.no,.full] (by kernel_rfl) ?_
    (repeat' (first
  | (with_reducible first|refine zJw ?_|refine zHz ?_|refine zEv ?_|refine zEw ?_|refine zFz ?_|refine zJv ?_|refine zHy ?_|refine zBv ?_|refine zDx ?_|refine zCz ?_|refine zCw ?_|refine zEy ?_|refine zCv ?_|refine zCy ?_|refine zBy ?_|refine zDv ?_|refine zEz ?_|refine zAw ?_|refine zBz ?_)
  | refine zDz ?_|refine zEx rfl ?_|refine zJy ?_|refine zJx ?_
  | ((first|refine zGv rfl rfl rfl rfl rfl fun K_ hK_=>?_|refine zGw rfl rfl rfl rfl rfl fun K_ hK_=>?_);simp only [zAz,zDy,zGx,↓reduceIte,reduceCtorEq,Nat.reduceEqDiff,Bool.not_true,Bool.not_false];refine hK_ _ ?_;clear hK_ K_)
  | refine zDw (by decide) ?_
  | ((try first|refine zKy rfl rfl rfl ?_|refine zJz rfl rfl ?_|refine zKx rfl rfl rfl ?_|refine zIv rfl rfl ?_);(refine zIw fun Q_ hQ_=>?_;simp (disch:=first|omega|(simp only [List.length_cons,List.length_nil,List.length_append];omega)) only [bb,bp,zLy,↓reduceIte,reduceCtorEq,Nat.reduceEqDiff,Nat.reduceLT,Nat.reduceLeDiff,Nat.reduceAdd,Nat.reduceMul,Nat.reduceSub,Nat.reduceBEq,Int.reduceToNat,cond_true,cond_false,eq_self,beq_self_eq_true,f1,f2,c1,zFx wf,zGy wf,zBw wf,zFy wf,zAy wf,zAx,tEvD17,zIx,zIy,zIz,zHv,zFv,zAv wf];first|(refine zCx (Q:=Q_) (fun hp_=>?_) (fun hp_=>?_) <;> first|(exfalso;omega)|(refine hQ_ _ _ ?_;clear hQ_ Q_))|(refine zBx (Q:=Q_) (fun hp_=>?_) (fun hp_=>?_) <;> first|(exfalso;omega)|(refine hQ_ _ _ ?_;clear hQ_ Q_))|(refine hQ_ _ _ ?_;clear hQ_ Q_)))
  | (refine zHx fun K_ hK_=>?_;simp (disch:=omega) only [zGz,zAz,zHw,↓reduceIte,reduceCtorEq,Nat.reduceEqDiff,Nat.reduceLT];refine hK_ _ ?_;clear hK_ K_)))
    (repeat' (first
  | (with_reducible first|refine zJw ?_|refine zHz ?_|refine zEv ?_|refine zEw ?_|refine zFz ?_|refine zJv ?_|refine zHy ?_|refine zBv ?_|refine zDx ?_|refine zCz ?_|refine zCw ?_|refine zEy ?_|refine zCv ?_|refine zCy ?_|refine zBy ?_|refine zDv ?_|refine zEz ?_|refine zAw ?_|refine zBz ?_)
  | refine zDz ?_|refine zEx rfl ?_|refine zJy ?_|refine zJx ?_
  | ((first|refine zGv rfl rfl rfl rfl rfl fun K_ hK_=>?_|refine zGw rfl rfl rfl rfl rfl fun K_ hK_=>?_);simp only [zAz,zDy,zGx,↓reduceIte,reduceCtorEq,Nat.reduceEqDiff,Bool.not_true,Bool.not_false];refine hK_ _ ?_;clear hK_ K_)
  | refine zDw (by decide) ?_
  | ((try first|refine zKy rfl rfl rfl ?_|refine zJz rfl rfl ?_|refine zKx rfl rfl rfl ?_|refine zIv rfl rfl ?_);(refine zIw fun Q_ hQ_=>?_;simp (disch:=first|omega|(simp only [List.length_cons,List.length_nil,List.length_append];omega)) only [bb,bp,zLy,↓reduceIte,reduceCtorEq,Nat.reduceEqDiff,Nat.reduceLT,Nat.reduceLeDiff,Nat.reduceAdd,Nat.reduceMul,Nat.reduceSub,Nat.reduceBEq,Int.reduceToNat,cond_true,cond_false,eq_self,beq_self_eq_true,f1,f2,zFx wf,zGy wf,zBw wf,zFy wf,zAy wf,zAx,tEvD17,zIx,zIy,zIz,zHv,zFv,zAv wf];first|(refine zCx (Q:=Q_) (fun hp_=>?_) (fun hp_=>?_) <;> first|(exfalso;omega)|(refine hQ_ _ _ ?_;clear hQ_ Q_))|(refine zBx (Q:=Q_) (fun hp_=>?_) (fun hp_=>?_) <;> first|(exfalso;omega)|(refine hQ_ _ _ ?_;clear hQ_ Q_))|(refine hQ_ _ _ ?_;clear hQ_ Q_)|(refine zRv ((isInside T k _ ls hk _ (x.new (k:=2) (by simp only [List.length_append,List.length_cons,List.length_nil];omega) rfl)).trans (by rw [decide_eq_true q])) ?_;refine hQ_ _ _ ?_;clear hQ_ Q_)))
  | (refine zHx fun K_ hK_=>?_;simp (disch:=omega) only [zGz,zAz,zHw,↓reduceIte,reduceCtorEq,Nat.reduceEqDiff,Nat.reduceLT];refine hK_ _ ?_;clear hK_ K_)))
    refine zKz _ _ rfl (retc1 (by decide) (by decide) (by simp (disch:=first|omega|(simp only [List.length_cons,List.length_nil,List.length_append];omega)) only [bb,bp,zLy,↓reduceIte,reduceCtorEq,Nat.reduceEqDiff,Nat.reduceLT,Nat.reduceLeDiff,Nat.reduceAdd,Nat.reduceMul,Nat.reduceSub,Nat.reduceBEq,Int.reduceToNat,cond_true,cond_false,eq_self,beq_self_eq_true,zBw wf,tEvD17,zIx,zIy,zIz,zHv,zFv,zAv wf];rfl)) ?_
    simp only [zAz,↓reduceIte,reduceCtorEq,Nat.reduceEqDiff]
    refine WV_ext (by exact Bool.and_false _) ?_
    refine ⟨rfl,?_⟩
    rw [Nat.min_eq_left wf.wle]
    rfl
  obtain ⟨M,h1,h2⟩:=key _ (x.up L w hw)
  refine ⟨M,.sl (nx h (L.length+2)) 0 ls.length (some ls.length) 2,?_,capu_some (Nat.le_refl _),fun R w' hw'=>?_⟩
  · rw [h1,X_X,nx_X,X_w]
  · refine x.new (e:=67) (by simp only [List.length_append];omega) ?_
    rw [List.getElem?_append_right (by omega),show L.length+2 - L.length=2 by omega,List.getElem?_append_left (zXy h2)]
    exact h2
end Go.Proofs.Ythaleckfgcgegaa
end

section
namespace Go.Proofs.Ythaleckfgcgegaa
open Go.Ev
set_option maxRecDepth 100000
set_option linter.unusedSimpArgs false
set_option linter.unusedVariables false
set_option maxHeartbeats 2000000
theorem tEvD18 :type_of% (And.intro (And.intro (And.intro (And.intro (And.intro (And.intro (And.intro (@yWz) (@yVv)) (And.intro (@yVw) (And.intro (@yVx) (@yVy)))) (And.intro (And.intro (@yVz) (And.intro (@yUv) (@yUw))) (And.intro (@zVy) (And.intro (@ia_2) (@sz_2))))) (And.intro (And.intro (And.intro (@ia_3) (@sz_3)) (And.intro (@ia_4) (And.intro (@sz_4) (@yUx)))) (And.intro (And.intro (@yDw) (And.intro (@yUy) (@yDx))) (And.intro (@yUz) (And.intro (@yDy) (@yTv)))))) (And.intro (And.intro (And.intro (And.intro (@zWw) (@yTw)) (And.intro (@yDz) (And.intro (@yTx) (@yCv)))) (And.intro (And.intro (@yTy) (And.intro (@yCw) (@yTz))) (And.intro (@yCx) (And.intro (@ySv) (@yCy))))) (And.intro (And.intro (And.intro (@ySw) (@yCz)) (And.intro (@ySx) (And.intro (@zXz) (@ySy)))) (And.intro (And.intro (@yBv) (And.intro (@ySz) (@yBw))) (And.intro (@yRv) (And.intro (@yBx) (@yRw))))))) (And.intro (And.intro (And.intro (And.intro (And.intro (@yBy) (@yRx)) (And.intro (@yBz) (And.intro (@yRy) (@yAv)))) (And.intro (And.intro (@yRz) (And.intro (@yAw) (@yQv))) (And.intro (@yAx) (And.intro (@yQw) (@yAy))))) (And.intro (And.intro (And.intro (@yQx) (@yAz)) (And.intro (@zVz) (And.intro (@zTw) (@zUv)))) (And.intro (And.intro (@zTx) (And.intro (@zUw) (@zTy))) (And.intro (@zUx) (And.intro (@zTz) (@zUy)))))) (And.intro (And.intro (And.intro (And.intro (@zSv) (@zUz)) (And.intro (@zSw) (And.intro (@zTv) (@zSx)))) (And.intro (And.intro (@ze_2) (And.intro (@ze_3) (@ze_4))) (And.intro (@zZv) (And.intro (@zZw) (@zZx))))) (And.intro (And.intro (And.intro (@zZy) (And.intro (@zZz) (@zYv))) (And.intro (@zYw) (And.intro (@zYx) (@zYy)))) (And.intro (And.intro (@zSy) (And.intro (@zRx) (@zRy))) (And.intro (@zRz) (And.intro (@zQv) (@zQw)))))))) (And.intro (And.intro (And.intro (And.intro (And.intro (And.intro (@zQx) (@zQy)) (And.intro (@zQz) (And.intro (@zPv) (@zPw)))) (And.intro (And.intro (@zPx) (And.intro (@zPy) (@zPz))) (And.intro (@zOv) (And.intro (@zOw) (@zOx))))) (And.intro (And.intro (And.intro (@zOy) (@zOz)) (And.intro (@zNv) (And.intro (@zNw) (@zNx)))) (And.intro (And.intro (@zNy) (And.intro (@zNz) (@zMv))) (And.intro (@zMw) (And.intro (@zMx) (@zMy)))))) (And.intro (And.intro (And.intro (And.intro (@zMz) (@yQy)) (And.intro (@yQz) (And.intro (@yPv) (@yPw)))) (And.intro (And.intro (@yPx) (And.intro (@yPy) (@yPz))) (And.intro (@yOv) (And.intro (@yOw) (@yOx))))) (And.intro (And.intro (And.intro (@yOy) (And.intro (@yOz) (@yNv))) (And.intro (@yNw) (And.intro (@yNx) (@yNy)))) (And.intro (And.intro (@yNz) (And.intro (@yMv) (@yMw))) (And.intro (@yMx) (And.intro (@yMy) (@yMz))))))) (And.intro (And.intro (And.intro (And.intro (And.intro (@yLv) (@yLw)) (And.intro (@yLx) (And.intro (@yLy) (@yLz)))) (And.intro (And.intro (@yKv) (And.intro (@yKw) (@yKx))) (And.intro (@yKy) (And.intro (@yKz) (@yJv))))) (And.intro (And.intro (And.intro (@yJw) (@yJx)) (And.intro (@yJy) (And.intro (@yJz) (@yIv)))) (And.intro (And.intro (@yIw) (And.intro (@yIx) (@yIy))) (And.intro (@yIz) (And.intro (@yHv) (@yHw)))))) (And.intro (And.intro (And.intro (And.intro (@yHx) (@yHy)) (And.intro (@yHz) (And.intro (@yGv) (@yGw)))) (And.intro (And.intro (@yGx) (And.intro (@zYz) (@zXv))) (And.intro (@yGy) (And.intro (@yGz) (@yFv))))) (And.intro (And.intro (And.intro (@yFw) (And.intro (@yFx) (@yFy))) (And.intro (@yFz) (And.intro (@yEv) (@yEw)))) (And.intro (And.intro (@yEx) (And.intro (@yEy) (@zXw))) (And.intro (@yEz) (And.intro (@yDv) (@zXx))))))))):=And.intro (And.intro (And.intro (And.intro (And.intro (And.intro (And.intro (@yWz) (@yVv)) (And.intro (@yVw) (And.intro (@yVx) (@yVy)))) (And.intro (And.intro (@yVz) (And.intro (@yUv) (@yUw))) (And.intro (@zVy) (And.intro (@ia_2) (@sz_2))))) (And.intro (And.intro (And.intro (@ia_3) (@sz_3)) (And.intro (@ia_4) (And.intro (@sz_4) (@yUx)))) (And.intro (And.intro (@yDw) (And.intro (@yUy) (@yDx))) (And.intro (@yUz) (And.intro (@yDy) (@yTv)))))) (And.intro (And.intro (And.intro (And.intro (@zWw) (@yTw)) (And.intro (@yDz) (And.intro (@yTx) (@yCv)))) (And.intro (And.intro (@yTy) (And.intro (@yCw) (@yTz))) (And.intro (@yCx) (And.intro (@ySv) (@yCy))))) (And.intro (And.intro (And.intro (@ySw) (@yCz)) (And.intro (@ySx) (And.intro (@zXz) (@ySy)))) (And.intro (And.intro (@yBv) (And.intro (@ySz) (@yBw))) (And.intro (@yRv) (And.intro (@yBx) (@yRw))))))) (And.intro (And.intro (And.intro (And.intro (And.intro (@yBy) (@yRx)) (And.intro (@yBz) (And.intro (@yRy) (@yAv)))) (And.intro (And.intro (@yRz) (And.intro (@yAw) (@yQv))) (And.intro (@yAx) (And.intro (@yQw) (@yAy))))) (And.intro (And.intro (And.intro (@yQx) (@yAz)) (And.intro (@zVz) (And.intro (@zTw) (@zUv)))) (And.intro (And.intro (@zTx) (And.intro (@zUw) (@zTy))) (And.intro (@zUx) (And.intro (@zTz) (@zUy)))))) (And.intro (And.intro (And.intro (And.intro (@zSv) (@zUz)) (And.intro (@zSw) (And.intro (@zTv) (@zSx)))) (And.intro (And.intro (@ze_2) (And.intro (@ze_3) (@ze_4))) (And.intro (@zZv) (And.intro (@zZw) (@zZx))))) (And.intro (And.intro (And.intro (@zZy) (And.intro (@zZz) (@zYv))) (And.intro (@zYw) (And.intro (@zYx) (@zYy)))) (And.intro (And.intro (@zSy) (And.intro (@zRx) (@zRy))) (And.intro (@zRz) (And.intro (@zQv) (@zQw)))))))) (And.intro (And.intro (And.intro (And.intro (And.intro (And.intro (@zQx) (@zQy)) (And.intro (@zQz) (And.intro (@zPv) (@zPw)))) (And.intro (And.intro (@zPx) (And.intro (@zPy) (@zPz))) (And.intro (@zOv) (And.intro (@zOw) (@zOx))))) (And.intro (And.intro (And.intro (@zOy) (@zOz)) (And.intro (@zNv) (And.intro (@zNw) (@zNx)))) (And.intro (And.intro (@zNy) (And.intro (@zNz) (@zMv))) (And.intro (@zMw) (And.intro (@zMx) (@zMy)))))) (And.intro (And.intro (And.intro (And.intro (@zMz) (@yQy)) (And.intro (@yQz) (And.intro (@yPv) (@yPw)))) (And.intro (And.intro (@yPx) (And.intro (@yPy) (@yPz))) (And.intro (@yOv) (And.intro (@yOw) (@yOx))))) (And.intro (And.intro (And.intro (@yOy) (And.intro (@yOz) (@yNv))) (And.intro (@yNw) (And.intro (@yNx) (@yNy)))) (And.intro (And.intro (@yNz) (And.intro (@yMv) (@yMw))) (And.intro (@yMx) (And.intro (@yMy) (@yMz))))))) (And.intro (And.intro (And.intro (And.intro (And.intro (@yLv) (@yLw)) (And.intro (@yLx) (And.intro (@yLy) (@yLz)))) (And.intro (And.intro (@yKv) (And.intro (@yKw) (@yKx))) (And.intro (@yKy) (And.intro (@yKz) (@yJv))))) (And.intro (And.intro (And.intro (@yJw) (@yJx)) (And.intro (@yJy) (And.intro (@yJz) (@yIv)))) (And.intro (And.intro (@yIw) (And.intro (@yIx) (@yIy))) (And.intro (@yIz) (And.intro (@yHv) (@yHw)))))) (And.intro (And.intro (And.intro (And.intro (@yHx) (@yHy)) (And.intro (@yHz) (And.intro (@yGv) (@yGw)))) (And.intro (And.intro (@yGx) (And.intro (@zYz) (@zXv))) (And.intro (@yGy) (And.intro (@yGz) (@yFv))))) (And.intro (And.intro (And.intro (@yFw) (And.intro (@yFx) (@yFy))) (And.intro (@yFz) (And.intro (@yEv) (@yEw)))) (And.intro (And.intro (@yEx) (And.intro (@yEy) (@zXw))) (And.intro (@yEz) (And.intro (@yDv) (@zXx))))))))
def cand (T:Te) (high:Bool) (o:Int):Tr:=if high=true then ⟨T.f1,T.t0,T.s1,o,T.b0,T.r1⟩ else ⟨T.f0,T.t1,T.s0,o,T.b1,T.r0⟩
def trC (x:Tr):List AV:=[ii x.f,ii x.t,ii x.s,ii x.o,ii x.b,ii x.r]
theorem xRx {T:Te} (k:okT T) (high:Bool) {o:Int} (ho:T.o0≤o∧o≤T.o1):isT T (cand T high o):=by
  have kf:=k.f
  have kt:=k.t
  have ks:=k.s
  have kb:=k.b
  have kr:=k.r
  cases high
  · exact ⟨⟨by show T.f0≤T.f0;omega,by show T.f0≤T.f1;omega⟩,⟨by show T.t0≤T.t1;omega,by show T.t1≤T.t1;omega⟩,⟨by show T.s0≤T.s0;omega,by show T.s0≤T.s1;omega⟩,ho,⟨by show T.b0≤T.b1;omega,by show T.b1≤T.b1;omega⟩,⟨by show T.r0≤T.r0;omega,by show T.r0≤T.r1;omega⟩⟩
  · exact ⟨⟨by show T.f0≤T.f1;omega,by show T.f1≤T.f1;omega⟩,⟨by show T.t0≤T.t0;omega,by show T.t0≤T.t1;omega⟩,⟨by show T.s0≤T.s1;omega,by show T.s1≤T.s1;omega⟩,ho,⟨by show T.b0≤T.b0;omega,by show T.b0≤T.b1;omega⟩,⟨by show T.r0≤T.r1;omega,by show T.r1≤T.r1;omega⟩⟩
theorem picked (u v:Int) (r high:Bool) (p:Pos) (h:H) (wf:Wf h) (hp : ∀ l w,load1 p 0 (X h l w)=some (.bool high)):(om Try.prog KK).call (.fn 78 [.agg [ii u,ii v],.bool r,.ptr p 0]) h = .ok (ii (if r=high then v else u)) h:=by
  have ix0 : ∀ u v,indexE Try.prog 117 (.agg [ii u,ii v]) (.int .i64 0)=some (ii u):=fun u v=>xQy (i:=0) un_117 sz_2 ia_2 (by decide) rfl
  have ix1 : ∀ u v,indexE Try.prog 117 (.agg [ii u,ii v]) (.int .i64 1)=some (ii v):=fun u v=>xQy (i:=1) un_117 sz_2 ia_2 (by decide) rfl
  have he : ∀ x y a b,binE Try.prog .eql 4 x y (.bool a) (.bool b)=some (.bool (a == b)):=fun x y a b=>b_eqlB un_4
  refine zWy (zLx (fn:=Try.f78) Try.func78 rfl rfl rfl rfl rfl ?_)
  simp only [zLy]
  cases r <;> cases high
  · (repeat' (first
  | (with_reducible first|refine zJw ?_|refine zHz ?_|refine zEv ?_|refine zEw ?_|refine zFz ?_|refine zJv ?_|refine zHy ?_|refine zBv ?_|refine zDx ?_|refine zCz ?_|refine zCw ?_|refine zEy ?_|refine zCv ?_|refine zCy ?_|refine zBy ?_|refine zDv ?_|refine zEz ?_|refine zAw ?_|refine zBz ?_)
  | refine zDz ?_|refine zEx rfl ?_|refine zJy ?_|refine zJx ?_
  | ((first|refine zGv rfl rfl rfl rfl rfl fun K_ hK_=>?_|refine zGw rfl rfl rfl rfl rfl fun K_ hK_=>?_);simp only [zAz,zDy,zGx,↓reduceIte,reduceCtorEq,Nat.reduceEqDiff,Bool.not_true,Bool.not_false];refine hK_ _ ?_;clear hK_ K_)
  | refine zDw (by decide) ?_
  | ((try first|refine zKy rfl rfl rfl ?_|refine zJz rfl rfl ?_|refine zKx rfl rfl rfl ?_|refine zIv rfl rfl ?_);(refine zIw fun Q_ hQ_=>?_;simp (disch:=first|omega|(simp only [List.length_cons,List.length_nil,List.length_append];omega)) only [bb,bp,zLy,↓reduceIte,reduceCtorEq,Nat.reduceEqDiff,Nat.reduceLT,Nat.reduceLeDiff,Nat.reduceAdd,Nat.reduceMul,Nat.reduceSub,Nat.reduceBEq,Int.reduceToNat,cond_true,cond_false,eq_self,beq_self_eq_true,hp,he,ix0,ix1,beq_self_eq_true,zFx wf,zGy wf,zBw wf,zFy wf,zAy wf,zAx,tEvD18,zIx,zIy,zIz,zHv,zFv,zAv wf];first|(refine zCx (Q:=Q_) (fun hp_=>?_) (fun hp_=>?_) <;> first|(exfalso;omega)|(refine hQ_ _ _ ?_;clear hQ_ Q_))|(refine zBx (Q:=Q_) (fun hp_=>?_) (fun hp_=>?_) <;> first|(exfalso;omega)|(refine hQ_ _ _ ?_;clear hQ_ Q_))|(refine hQ_ _ _ ?_;clear hQ_ Q_)|(refine zRv (ends u v _ (wf.X (Nat.le_add_right _ _))) ?_;refine hQ_ _ _ ?_;clear hQ_ Q_)))
  | (refine zHx fun K_ hK_=>?_;simp (disch:=omega) only [zGz,zAz,zHw,↓reduceIte,reduceCtorEq,Nat.reduceEqDiff,Nat.reduceLT];refine hK_ _ ?_;clear hK_ K_)))
    (refine zKz _ _ rfl (ret1 (by decide)) ?_;simp only [zAz,↓reduceIte,reduceCtorEq,Nat.reduceEqDiff];refine zKw rfl (by omega) ?_)
    exact ⟨rfl,rfl⟩
  · (repeat' (first
  | (with_reducible first|refine zJw ?_|refine zHz ?_|refine zEv ?_|refine zEw ?_|refine zFz ?_|refine zJv ?_|refine zHy ?_|refine zBv ?_|refine zDx ?_|refine zCz ?_|refine zCw ?_|refine zEy ?_|refine zCv ?_|refine zCy ?_|refine zBy ?_|refine zDv ?_|refine zEz ?_|refine zAw ?_|refine zBz ?_)
  | refine zDz ?_|refine zEx rfl ?_|refine zJy ?_|refine zJx ?_
  | ((first|refine zGv rfl rfl rfl rfl rfl fun K_ hK_=>?_|refine zGw rfl rfl rfl rfl rfl fun K_ hK_=>?_);simp only [zAz,zDy,zGx,↓reduceIte,reduceCtorEq,Nat.reduceEqDiff,Bool.not_true,Bool.not_false];refine hK_ _ ?_;clear hK_ K_)
  | refine zDw (by decide) ?_
  | ((try first|refine zKy rfl rfl rfl ?_|refine zJz rfl rfl ?_|refine zKx rfl rfl rfl ?_|refine zIv rfl rfl ?_);(refine zIw fun Q_ hQ_=>?_;simp (disch:=first|omega|(simp only [List.length_cons,List.length_nil,List.length_append];omega)) only [bb,bp,zLy,↓reduceIte,reduceCtorEq,Nat.reduceEqDiff,Nat.reduceLT,Nat.reduceLeDiff,Nat.reduceAdd,Nat.reduceMul,Nat.reduceSub,Nat.reduceBEq,Int.reduceToNat,cond_true,cond_false,eq_self,beq_self_eq_true,hp,he,ix0,ix1,show (false == true)=false from rfl,zFx wf,zGy wf,zBw wf,zFy wf,zAy wf,zAx,tEvD18,zIx,zIy,zIz,zHv,zFv,zAv wf];first|(refine zCx (Q:=Q_) (fun hp_=>?_) (fun hp_=>?_) <;> first|(exfalso;omega)|(refine hQ_ _ _ ?_;clear hQ_ Q_))|(refine zBx (Q:=Q_) (fun hp_=>?_) (fun hp_=>?_) <;> first|(exfalso;omega)|(refine hQ_ _ _ ?_;clear hQ_ Q_))|(refine hQ_ _ _ ?_;clear hQ_ Q_)|(refine zRv (ends u v _ (wf.X (Nat.le_add_right _ _))) ?_;refine hQ_ _ _ ?_;clear hQ_ Q_)))
  | (refine zHx fun K_ hK_=>?_;simp (disch:=omega) only [zGz,zAz,zHw,↓reduceIte,reduceCtorEq,Nat.reduceEqDiff,Nat.reduceLT];refine hK_ _ ?_;clear hK_ K_)))
    (refine zKz _ _ rfl (ret1 (by decide)) ?_;simp only [zAz,↓reduceIte,reduceCtorEq,Nat.reduceEqDiff];refine zKw rfl (by omega) ?_)
    exact ⟨rfl,rfl⟩
  · (repeat' (first
  | (with_reducible first|refine zJw ?_|refine zHz ?_|refine zEv ?_|refine zEw ?_|refine zFz ?_|refine zJv ?_|refine zHy ?_|refine zBv ?_|refine zDx ?_|refine zCz ?_|refine zCw ?_|refine zEy ?_|refine zCv ?_|refine zCy ?_|refine zBy ?_|refine zDv ?_|refine zEz ?_|refine zAw ?_|refine zBz ?_)
  | refine zDz ?_|refine zEx rfl ?_|refine zJy ?_|refine zJx ?_
  | ((first|refine zGv rfl rfl rfl rfl rfl fun K_ hK_=>?_|refine zGw rfl rfl rfl rfl rfl fun K_ hK_=>?_);simp only [zAz,zDy,zGx,↓reduceIte,reduceCtorEq,Nat.reduceEqDiff,Bool.not_true,Bool.not_false];refine hK_ _ ?_;clear hK_ K_)
  | refine zDw (by decide) ?_
  | ((try first|refine zKy rfl rfl rfl ?_|refine zJz rfl rfl ?_|refine zKx rfl rfl rfl ?_|refine zIv rfl rfl ?_);(refine zIw fun Q_ hQ_=>?_;simp (disch:=first|omega|(simp only [List.length_cons,List.length_nil,List.length_append];omega)) only [bb,bp,zLy,↓reduceIte,reduceCtorEq,Nat.reduceEqDiff,Nat.reduceLT,Nat.reduceLeDiff,Nat.reduceAdd,Nat.reduceMul,Nat.reduceSub,Nat.reduceBEq,Int.reduceToNat,cond_true,cond_false,eq_self,beq_self_eq_true,hp,he,ix0,ix1,show (true == false)=false from rfl,zFx wf,zGy wf,zBw wf,zFy wf,zAy wf,zAx,tEvD18,zIx,zIy,zIz,zHv,zFv,zAv wf];first|(refine zCx (Q:=Q_) (fun hp_=>?_) (fun hp_=>?_) <;> first|(exfalso;omega)|(refine hQ_ _ _ ?_;clear hQ_ Q_))|(refine zBx (Q:=Q_) (fun hp_=>?_) (fun hp_=>?_) <;> first|(exfalso;omega)|(refine hQ_ _ _ ?_;clear hQ_ Q_))|(refine hQ_ _ _ ?_;clear hQ_ Q_)|(refine zRv (ends u v _ (wf.X (Nat.le_add_right _ _))) ?_;refine hQ_ _ _ ?_;clear hQ_ Q_)))
  | (refine zHx fun K_ hK_=>?_;simp (disch:=omega) only [zGz,zAz,zHw,↓reduceIte,reduceCtorEq,Nat.reduceEqDiff,Nat.reduceLT];refine hK_ _ ?_;clear hK_ K_)))
    (refine zKz _ _ rfl (ret1 (by decide)) ?_;simp only [zAz,↓reduceIte,reduceCtorEq,Nat.reduceEqDiff];refine zKw rfl (by omega) ?_)
    exact ⟨rfl,rfl⟩
  · (repeat' (first
  | (with_reducible first|refine zJw ?_|refine zHz ?_|refine zEv ?_|refine zEw ?_|refine zFz ?_|refine zJv ?_|refine zHy ?_|refine zBv ?_|refine zDx ?_|refine zCz ?_|refine zCw ?_|refine zEy ?_|refine zCv ?_|refine zCy ?_|refine zBy ?_|refine zDv ?_|refine zEz ?_|refine zAw ?_|refine zBz ?_)
  | refine zDz ?_|refine zEx rfl ?_|refine zJy ?_|refine zJx ?_
  | ((first|refine zGv rfl rfl rfl rfl rfl fun K_ hK_=>?_|refine zGw rfl rfl rfl rfl rfl fun K_ hK_=>?_);simp only [zAz,zDy,zGx,↓reduceIte,reduceCtorEq,Nat.reduceEqDiff,Bool.not_true,Bool.not_false];refine hK_ _ ?_;clear hK_ K_)
  | refine zDw (by decide) ?_
  | ((try first|refine zKy rfl rfl rfl ?_|refine zJz rfl rfl ?_|refine zKx rfl rfl rfl ?_|refine zIv rfl rfl ?_);(refine zIw fun Q_ hQ_=>?_;simp (disch:=first|omega|(simp only [List.length_cons,List.length_nil,List.length_append];omega)) only [bb,bp,zLy,↓reduceIte,reduceCtorEq,Nat.reduceEqDiff,Nat.reduceLT,Nat.reduceLeDiff,Nat.reduceAdd,Nat.reduceMul,Nat.reduceSub,Nat.reduceBEq,Int.reduceToNat,cond_true,cond_false,eq_self,beq_self_eq_true,hp,he,ix0,ix1,beq_self_eq_true,zFx wf,zGy wf,zBw wf,zFy wf,zAy wf,zAx,tEvD18,zIx,zIy,zIz,zHv,zFv,zAv wf];first|(refine zCx (Q:=Q_) (fun hp_=>?_) (fun hp_=>?_) <;> first|(exfalso;omega)|(refine hQ_ _ _ ?_;clear hQ_ Q_))|(refine zBx (Q:=Q_) (fun hp_=>?_) (fun hp_=>?_) <;> first|(exfalso;omega)|(refine hQ_ _ _ ?_;clear hQ_ Q_))|(refine hQ_ _ _ ?_;clear hQ_ Q_)|(refine zRv (ends u v _ (wf.X (Nat.le_add_right _ _))) ?_;refine hQ_ _ _ ?_;clear hQ_ Q_)))
  | (refine zHx fun K_ hK_=>?_;simp (disch:=omega) only [zGz,zAz,zHw,↓reduceIte,reduceCtorEq,Nat.reduceEqDiff,Nat.reduceLT];refine hK_ _ ?_;clear hK_ K_)))
    (refine zKz _ _ rfl (ret1 (by decide)) ?_;simp only [zAz,↓reduceIte,reduceCtorEq,Nat.reduceEqDiff];refine zKw rfl (by omega) ?_)
    exact ⟨rfl,rfl⟩

theorem candidates (T:Te) (lv:AV) (hf:AV.cells lv=[lv]∧oneB lv=true) (high:Bool) (h:H) (wf:Wf h) (L:List AO) (w:Nat) (hw:w≤h.clock+L.length) :
    (om Try.prog KK).call (.fn 75 [.agg [ii T.sp,ii T.lo,ii T.we,ii T.al,ii T.f0,ii T.f1,ii T.t0,ii T.t1,ii T.s0,ii T.s1,ii T.o0,ii T.o1,ii T.b0,ii T.b1,ii T.r0,ii T.r1,lv],.bool high]) (X h L w) = .ok (.fn 79 [] [.ptr (nx h L.length) 0,.ptr (nx h (L.length+2)) 0]) (X h (L++[.cells (zFw [ii T.sp,ii T.lo,ii T.we,ii T.al,ii T.f0,ii T.f1,ii T.t0,ii T.t1,ii T.s0,ii T.s1,ii T.o0,ii T.o1,ii T.b0,ii T.b1,ii T.r0,ii T.r1,lv]) 76,.cells (zFw [.bool high]) 4,.cells (zFw (trC (cand T high 0))) 37]) w):=by
  obtain ⟨f1,f2⟩:=hf
  have key : ∀ hb,Wf hb→(om Try.prog KK).call (.fn 75 [.agg [ii T.sp,ii T.lo,ii T.we,ii T.al,ii T.f0,ii T.f1,ii T.t0,ii T.t1,ii T.s0,ii T.s1,ii T.o0,ii T.o1,ii T.b0,ii T.b1,ii T.r0,ii T.r1,lv],.bool high]) hb = .ok (.fn 79 [] [.ptr (nx hb 0) 0,.ptr (nx hb 2) 0]) (X hb [.cells (zFw [ii T.sp,ii T.lo,ii T.we,ii T.al,ii T.f0,ii T.f1,ii T.t0,ii T.t1,ii T.s0,ii T.s1,ii T.o0,ii T.o1,ii T.b0,ii T.b1,ii T.r0,ii T.r1,lv]) 76,.cells (zFw [.bool high]) 4,.cells (zFw (trC (cand T high 0))) 37] hb.w):=by
    clear hw wf
    intro h wf
    have c1 : ∀ u v r w,w≤h.clock+2→(om Try.prog KK).call (.fn 78 [.agg [ii u,ii v],.bool r,.ptr (nx h 1) 0]) (X h [.cells (zFw [ii T.sp,ii T.lo,ii T.we,ii T.al,ii T.f0,ii T.f1,ii T.t0,ii T.t1,ii T.s0,ii T.s1,ii T.o0,ii T.o1,ii T.b0,ii T.b1,ii T.r0,ii T.r1,lv]) 76,.cells (zFw [.bool high]) 4] w) = .ok (ii (if r=high then v else u)) (X h [.cells (zFw [ii T.sp,ii T.lo,ii T.we,ii T.al,ii T.f0,ii T.f1,ii T.t0,ii T.t1,ii T.s0,ii T.s1,ii T.o0,ii T.o1,ii T.b0,ii T.b1,ii T.r0,ii T.r1,lv]) 76,.cells (zFw [.bool high]) 4] w):=fun u v r w hw=>picked u v r high (nx h 1) _ (wf.X hw) fun l w=>by rw [X_X,zGy wf];rfl
    refine zWy (zLx (fn:=Try.f75) Try.func75 rfl rfl rfl rfl rfl ?_)
    simp only [zLy]
    have fin : ∀ (A:List AV),A=trC (cand T high 0)→WV (pureCall h (.ok (.fn 79 [] [.ptr (nx h 0) 0,.ptr (nx h 2) 0]) (X h [.cells (zFw [ii T.sp,ii T.lo,ii T.we,ii T.al,ii T.f0,ii T.f1,ii T.t0,ii T.t1,ii T.s0,ii T.s1,ii T.o0,ii T.o1,ii T.b0,ii T.b1,ii T.r0,ii T.r1,lv]) 76,.cells (zFw [.bool high]) 4,.cells (zFw A) 37] h.clock))) fun v h_1=>v = .fn 79 [] [.ptr (nx h 0) 0,.ptr (nx h 2) 0]∧h_1=X h [.cells (zFw [ii T.sp,ii T.lo,ii T.we,ii T.al,ii T.f0,ii T.f1,ii T.t0,ii T.t1,ii T.s0,ii T.s1,ii T.o0,ii T.o1,ii T.b0,ii T.b1,ii T.r0,ii T.r1,lv]) 76,.cells (zFw [.bool high]) 4,.cells (zFw (trC (cand T high 0))) 37] h.w:=fun A e=>by
      rw [e]
      refine WV_ext (by exact Bool.and_false _) ?_
      refine ⟨rfl,?_⟩
      rw [Nat.min_eq_left wf.wle]
    cases high
    · (repeat' (first
  | (with_reducible first|refine zJw ?_|refine zHz ?_|refine zEv ?_|refine zEw ?_|refine zFz ?_|refine zJv ?_|refine zHy ?_|refine zBv ?_|refine zDx ?_|refine zCz ?_|refine zCw ?_|refine zEy ?_|refine zCv ?_|refine zCy ?_|refine zBy ?_|refine zDv ?_|refine zEz ?_|refine zAw ?_|refine zBz ?_)
  | refine zDz ?_|refine zEx rfl ?_|refine zJy ?_|refine zJx ?_
  | ((first|refine zGv rfl rfl rfl rfl rfl fun K_ hK_=>?_|refine zGw rfl rfl rfl rfl rfl fun K_ hK_=>?_);simp only [zAz,zDy,zGx,↓reduceIte,reduceCtorEq,Nat.reduceEqDiff,Bool.not_true,Bool.not_false];refine hK_ _ ?_;clear hK_ K_)
  | refine zDw (by decide) ?_
  | ((try first|refine zKy rfl rfl rfl ?_|refine zJz rfl rfl ?_|refine zKx rfl rfl rfl ?_|refine zIv rfl rfl ?_);(refine zIw fun Q_ hQ_=>?_;simp (disch:=first|omega|(simp only [List.length_cons,List.length_nil,List.length_append];omega)) only [bb,bp,zLy,↓reduceIte,reduceCtorEq,Nat.reduceEqDiff,Nat.reduceLT,Nat.reduceLeDiff,Nat.reduceAdd,Nat.reduceMul,Nat.reduceSub,Nat.reduceBEq,Int.reduceToNat,cond_true,cond_false,eq_self,beq_self_eq_true,f1,f2,zFx wf,zGy wf,zBw wf,zFy wf,zAy wf,zAx,tEvD18,zIx,zIy,zIz,zHv,zFv,zAv wf];first|(refine zCx (Q:=Q_) (fun hp_=>?_) (fun hp_=>?_) <;> first|(exfalso;omega)|(refine hQ_ _ _ ?_;clear hQ_ Q_))|(refine zBx (Q:=Q_) (fun hp_=>?_) (fun hp_=>?_) <;> first|(exfalso;omega)|(refine hQ_ _ _ ?_;clear hQ_ Q_))|(refine hQ_ _ _ ?_;clear hQ_ Q_)))
  | (refine zHx fun K_ hK_=>?_;simp (disch:=omega) only [zGz,zAz,zHw,↓reduceIte,reduceCtorEq,Nat.reduceEqDiff,Nat.reduceLT];refine hK_ _ ?_;clear hK_ K_)))
      refine zLv (List.replicate 27 .no++[.full]) (by kernel_rfl) ?_
      (repeat' (first
  | (with_reducible first|refine zJw ?_|refine zHz ?_|refine zEv ?_|refine zEw ?_|refine zFz ?_|refine zJv ?_|refine zHy ?_|refine zBv ?_|refine zDx ?_|refine zCz ?_|refine zCw ?_|refine zEy ?_|refine zCv ?_|refine zCy ?_|refine zBy ?_|refine zDv ?_|refine zEz ?_|refine zAw ?_|refine zBz ?_)
  | refine zDz ?_|refine zEx rfl ?_|refine zJy ?_|refine zJx ?_
  | ((first|refine zGv rfl rfl rfl rfl rfl fun K_ hK_=>?_|refine zGw rfl rfl rfl rfl rfl fun K_ hK_=>?_);simp only [zAz,zDy,zGx,↓reduceIte,reduceCtorEq,Nat.reduceEqDiff,Bool.not_true,Bool.not_false];refine hK_ _ ?_;clear hK_ K_)
  | refine zDw (by decide) ?_
  | ((try first|refine zKy rfl rfl rfl ?_|refine zJz rfl rfl ?_|refine zKx rfl rfl rfl ?_|refine zIv rfl rfl ?_);(refine zIw fun Q_ hQ_=>?_;simp (disch:=first|omega|(simp only [List.length_cons,List.length_nil,List.length_append];omega)) only [bb,bp,zLy,↓reduceIte,reduceCtorEq,Nat.reduceEqDiff,Nat.reduceLT,Nat.reduceLeDiff,Nat.reduceAdd,Nat.reduceMul,Nat.reduceSub,Nat.reduceBEq,Int.reduceToNat,cond_true,cond_false,eq_self,beq_self_eq_true,f1,f2,c1,xGx,zFx wf,zGy wf,zBw wf,zFy wf,zAy wf,zAx,tEvD18,zIx,zIy,zIz,zHv,zFv,zAv wf];first|(refine zCx (Q:=Q_) (fun hp_=>?_) (fun hp_=>?_) <;> first|(exfalso;omega)|(refine hQ_ _ _ ?_;clear hQ_ Q_))|(refine zBx (Q:=Q_) (fun hp_=>?_) (fun hp_=>?_) <;> first|(exfalso;omega)|(refine hQ_ _ _ ?_;clear hQ_ Q_))|(refine hQ_ _ _ ?_;clear hQ_ Q_)))
  | (refine zHx fun K_ hK_=>?_;simp (disch:=omega) only [zGz,zAz,zHw,↓reduceIte,reduceCtorEq,Nat.reduceEqDiff,Nat.reduceLT];refine hK_ _ ?_;clear hK_ K_)))
      refine zKz _ _ rfl (ret1 (by decide)) ?_
      simp only [zAz,↓reduceIte,reduceCtorEq,Nat.reduceEqDiff]
      exact fin _ rfl
    · (repeat' (first
  | (with_reducible first|refine zJw ?_|refine zHz ?_|refine zEv ?_|refine zEw ?_|refine zFz ?_|refine zJv ?_|refine zHy ?_|refine zBv ?_|refine zDx ?_|refine zCz ?_|refine zCw ?_|refine zEy ?_|refine zCv ?_|refine zCy ?_|refine zBy ?_|refine zDv ?_|refine zEz ?_|refine zAw ?_|refine zBz ?_)
  | refine zDz ?_|refine zEx rfl ?_|refine zJy ?_|refine zJx ?_
  | ((first|refine zGv rfl rfl rfl rfl rfl fun K_ hK_=>?_|refine zGw rfl rfl rfl rfl rfl fun K_ hK_=>?_);simp only [zAz,zDy,zGx,↓reduceIte,reduceCtorEq,Nat.reduceEqDiff,Bool.not_true,Bool.not_false];refine hK_ _ ?_;clear hK_ K_)
  | refine zDw (by decide) ?_
  | ((try first|refine zKy rfl rfl rfl ?_|refine zJz rfl rfl ?_|refine zKx rfl rfl rfl ?_|refine zIv rfl rfl ?_);(refine zIw fun Q_ hQ_=>?_;simp (disch:=first|omega|(simp only [List.length_cons,List.length_nil,List.length_append];omega)) only [bb,bp,zLy,↓reduceIte,reduceCtorEq,Nat.reduceEqDiff,Nat.reduceLT,Nat.reduceLeDiff,Nat.reduceAdd,Nat.reduceMul,Nat.reduceSub,Nat.reduceBEq,Int.reduceToNat,cond_true,cond_false,eq_self,beq_self_eq_true,f1,f2,zFx wf,zGy wf,zBw wf,zFy wf,zAy wf,zAx,tEvD18,zIx,zIy,zIz,zHv,zFv,zAv wf];first|(refine zCx (Q:=Q_) (fun hp_=>?_) (fun hp_=>?_) <;> first|(exfalso;omega)|(refine hQ_ _ _ ?_;clear hQ_ Q_))|(refine zBx (Q:=Q_) (fun hp_=>?_) (fun hp_=>?_) <;> first|(exfalso;omega)|(refine hQ_ _ _ ?_;clear hQ_ Q_))|(refine hQ_ _ _ ?_;clear hQ_ Q_)))
  | (refine zHx fun K_ hK_=>?_;simp (disch:=omega) only [zGz,zAz,zHw,↓reduceIte,reduceCtorEq,Nat.reduceEqDiff,Nat.reduceLT];refine hK_ _ ?_;clear hK_ K_)))
      refine zLv (List.replicate 27 .no++[.full]) (by kernel_rfl) ?_
      (repeat' (first
  | (with_reducible first|refine zJw ?_|refine zHz ?_|refine zEv ?_|refine zEw ?_|refine zFz ?_|refine zJv ?_|refine zHy ?_|refine zBv ?_|refine zDx ?_|refine zCz ?_|refine zCw ?_|refine zEy ?_|refine zCv ?_|refine zCy ?_|refine zBy ?_|refine zDv ?_|refine zEz ?_|refine zAw ?_|refine zBz ?_)
  | refine zDz ?_|refine zEx rfl ?_|refine zJy ?_|refine zJx ?_
  | ((first|refine zGv rfl rfl rfl rfl rfl fun K_ hK_=>?_|refine zGw rfl rfl rfl rfl rfl fun K_ hK_=>?_);simp only [zAz,zDy,zGx,↓reduceIte,reduceCtorEq,Nat.reduceEqDiff,Bool.not_true,Bool.not_false];refine hK_ _ ?_;clear hK_ K_)
  | refine zDw (by decide) ?_
  | ((try first|refine zKy rfl rfl rfl ?_|refine zJz rfl rfl ?_|refine zKx rfl rfl rfl ?_|refine zIv rfl rfl ?_);(refine zIw fun Q_ hQ_=>?_;simp (disch:=first|omega|(simp only [List.length_cons,List.length_nil,List.length_append];omega)) only [bb,bp,zLy,↓reduceIte,reduceCtorEq,Nat.reduceEqDiff,Nat.reduceLT,Nat.reduceLeDiff,Nat.reduceAdd,Nat.reduceMul,Nat.reduceSub,Nat.reduceBEq,Int.reduceToNat,cond_true,cond_false,eq_self,beq_self_eq_true,f1,f2,c1,xGx,zFx wf,zGy wf,zBw wf,zFy wf,zAy wf,zAx,tEvD18,zIx,zIy,zIz,zHv,zFv,zAv wf];first|(refine zCx (Q:=Q_) (fun hp_=>?_) (fun hp_=>?_) <;> first|(exfalso;omega)|(refine hQ_ _ _ ?_;clear hQ_ Q_))|(refine zBx (Q:=Q_) (fun hp_=>?_) (fun hp_=>?_) <;> first|(exfalso;omega)|(refine hQ_ _ _ ?_;clear hQ_ Q_))|(refine hQ_ _ _ ?_;clear hQ_ Q_)))
  | (refine zHx fun K_ hK_=>?_;simp (disch:=omega) only [zGz,zAz,zHw,↓reduceIte,reduceCtorEq,Nat.reduceEqDiff,Nat.reduceLT];refine hK_ _ ?_;clear hK_ K_)))
      refine zKz _ _ rfl (ret1 (by decide)) ?_
      simp only [zAz,↓reduceIte,reduceCtorEq,Nat.reduceEqDiff]
      exact fin _ rfl
  rw [key _ (wf.X hw),X_X,nx_X,nx_X,X_w]
  rfl

def cnt (T:Te):Nat:=(T.o1 - T.o0).toNat+1
theorem trC_set (T:Te) (high:Bool) (o o':Int):(trC (cand T high o)).set 3 (ii o')=trC (cand T high o'):=by cases high <;> rfl
theorem cands (T:Te) (k:okT T) (lv:AV) (high:Bool) {h:H} (wf:Wf h) (A p:Nat) (l:Pos) (L0:List AO) (w0:Nat) (hw0:w0≤h.clock+L0.length) (hlo:h.clock≤w0) (I:Nat→List AO→Prop) (D:List AO→Prop)
    (hI : ∀ q L,I q L→L.length=L0.length∧L[A]? = some (.cells (zFw [ii T.sp,ii T.lo,ii T.we,ii T.al,ii T.f0,ii T.f1,ii T.t0,ii T.t1,ii T.s0,ii T.s1,ii T.o0,ii T.o1,ii T.b0,ii T.b1,ii T.r0,ii T.r1,lv]) 76) ∧ ∃ o,L[p]? = some (.cells (zFw (trC (cand T high o))) 37))
    (hset : ∀ q L o,I q L→I q (L.set p (.cells (zFw (trC (cand T high o))) 37)))
    (hy : ∀ q,q<cnt T → ∀ L J w,I q L→h.clock≤w→w≤h.clock+(L.length+J.length)→WV ((om Try.prog KK).call (.yld l [.agg (trC (cand T high (T.o0+(q:Int))))]) (X h (L++J) w)) fun v h'=>∃ L' J' w',h'=X h (L'++(J++J')) w'∧h.clock≤w'∧w'<h.clock+L0.length∧(v = .bool true∧I (q+1) L'∨v = .bool false∧L'.length=L0.length∧D L'))
    (h0:I 0 L0) :
    WV (callV Try.prog (om Try.prog KK) (.fn 79 [] [.ptr (nx h A) 0,.ptr (nx h p) 0]) [.yld l] (X h L0 w0)) fun _ h'=>∃ L J w,h'=X h (L++J) w∧h.clock≤w∧w≤h.clock+L.length∧(I (cnt T) L∨L.length=L0.length∧D L):=by
  have ko:=k.o
  have hcnt:(cnt T:Int)=T.o1 - T.o0+1:=by unfold cnt;omega
  obtain ⟨-,a0,-⟩:=hI 0 L0 h0
  rw [xGx,zXx]
  show WV ((om Try.prog KK).call (.fn 79 [.yld l,.ptr (nx h A) 0,.ptr (nx h p) 0]) (X h L0 w0)) _
  have wfb:=wf.X hw0
  have ldA : ∀ {L:List AO},L[A]? = some (.cells (zFw [ii T.sp,ii T.lo,ii T.we,ii T.al,ii T.f0,ii T.f1,ii T.t0,ii T.t1,ii T.s0,ii T.s1,ii T.o0,ii T.o1,ii T.b0,ii T.b1,ii T.r0,ii T.r1,lv]) 76) → ∀ J w,load1 (nx h A) 10 (X h (L++J) w)=some (ii T.o0)∧load1 (nx h A) 11 (X h (L++J) w)=some (ii T.o1):=fun {L} hL J w=>by
    rw [zGy wf,zGy wf,List.getElem?_append_left (zXy hL),hL]
    exact ⟨rfl,rfl⟩
  have ld0 : ∀ J w,load1 (nx h A) 10 (X (X h L0 w0) J w)=some (ii T.o0):=fun J w=>by rw [X_X];exact (ldA a0 J w).1
  refine zLx (fn:=Try.f79) Try.func79 rfl rfl rfl rfl rfl ?_
  simp only [zLy]
  (repeat' (first
  | (with_reducible first|refine zJw ?_|refine zHz ?_|refine zEv ?_|refine zEw ?_|refine zFz ?_|refine zJv ?_|refine zHy ?_|refine zBv ?_|refine zDx ?_|refine zCz ?_|refine zCw ?_|refine zEy ?_|refine zCv ?_|refine zCy ?_|refine zBy ?_|refine zDv ?_|refine zEz ?_|refine zAw ?_|refine zBz ?_)
  | refine zDz ?_|refine zEx rfl ?_|refine zJy ?_|refine zJx ?_
  | ((first|refine zGv rfl rfl rfl rfl rfl fun K_ hK_=>?_|refine zGw rfl rfl rfl rfl rfl fun K_ hK_=>?_);simp only [zAz,zDy,zGx,↓reduceIte,reduceCtorEq,Nat.reduceEqDiff,Bool.not_true,Bool.not_false];refine hK_ _ ?_;clear hK_ K_)
  | refine zDw (by decide) ?_
  | ((try first|refine zKy rfl rfl rfl ?_|refine zJz rfl rfl ?_|refine zKx rfl rfl rfl ?_|refine zIv rfl rfl ?_);(refine zIw fun Q_ hQ_=>?_;simp (disch:=first|omega|(simp only [List.length_cons,List.length_nil,List.length_append];omega)) only [bb,bp,zLy,↓reduceIte,reduceCtorEq,Nat.reduceEqDiff,Nat.reduceLT,Nat.reduceLeDiff,Nat.reduceAdd,Nat.reduceMul,Nat.reduceSub,Nat.reduceBEq,Int.reduceToNat,cond_true,cond_false,eq_self,beq_self_eq_true,ld0,tEvD18,zIx,zIy,zIz,zHv,zFv,zAv wf];first|(refine zCx (Q:=Q_) (fun hp_=>?_) (fun hp_=>?_) <;> first|(exfalso;omega)|(refine hQ_ _ _ ?_;clear hQ_ Q_))|(refine zBx (Q:=Q_) (fun hp_=>?_) (fun hp_=>?_) <;> first|(exfalso;omega)|(refine hQ_ _ _ ?_;clear hQ_ Q_))|(refine hQ_ _ _ ?_;clear hQ_ Q_)))
  | (refine zHx fun K_ hK_=>?_;simp (disch:=omega) only [zGz,zAz,zHw,↓reduceIte,reduceCtorEq,Nat.reduceEqDiff,Nat.reduceLT];refine hK_ _ ?_;clear hK_ K_)))
  refine zVw (fun (q:Nat) f d h'=>q≤cnt T∧f 0 = .yld l∧f 1 = .ptr (nx h A) 0∧f 2 = .ptr (nx h p) 0∧f 4=ii (T.o0+(q:Int))∧d=[] ∧
    ∃ L J w,h'=X h (L++J) w∧I q L∧h.clock≤w∧w≤h.clock+L0.length∧(0<q→w<h.clock+L0.length)) (fun q=>cnt T - q) ?_ (cnt T+1) 0 (by omega) ?_
  · rintro q f d h' ⟨hq,g0,g1,g2,g4,rfl,L,J,w,rfl,hIq,hw1,hw2,hw3⟩
    obtain ⟨hL,hLA,o,hLp⟩:=hI q L hIq
    have l1:=fun J w=>(ldA hLA J w).2
    by_cases hlt:q<cnt T
    · have hp:=zXy hLp
      have hst : ∀ J w,store1 (nx h p) 3 (ii (T.o0+(q:Int))) (X h (L++J) w)=some (X h (L.set p (.cells (zFw (trC (cand T high (T.o0+(q:Int))))) 37)++J) (min (h.clock+p) w)):=fun J w=>by
        have e:storeAt (some (.cells (zFw (trC (cand T high o))) 37)) 3 (ii (T.o0+(q:Int)))=some (.cells (zFw (trC (cand T high (T.o0+(q:Int))))) 37):=by
          rw [yYv,show oneB (ii (T.o0+(q:Int)))=true from rfl,cond_true,if_pos (by show 3<6;decide),trC_set]
        rw [zFy wf,List.getElem?_append_left hp,hLp,e]
        show some (X h ((L++J).set p _) _)=_
        rw [List.set_append_left _ _ hp]
      have hI2:=hset q L (T.o0+(q:Int)) hIq
      generalize hL2:L.set p (.cells (zFw (trC (cand T high (T.o0+(q:Int))))) 37)=L2 at *
      have hLp2:L2[p]? = some (.cells (zFw (trC (cand T high (T.o0+(q:Int))))) 37):=by rw [← hL2,List.getElem?_set_self hp]
      have hl2 : ∀ J w,loadAgg (nx h p) 0 (some 6) (X h (L2++J) w)=some (.agg (trC (cand T high (T.o0+(q:Int))))):=fun J w=>by
        rw [zBw wf,List.getElem?_append_left (zXy hLp2),hLp2,xCy (by decide)]
        rfl
      have hlen2:=(hI q L2 hI2).1
      (repeat' (first
  | (with_reducible first|refine zJw ?_|refine zHz ?_|refine zEv ?_|refine zEw ?_|refine zFz ?_|refine zJv ?_|refine zHy ?_|refine zBv ?_|refine zDx ?_|refine zCz ?_|refine zCw ?_|refine zEy ?_|refine zCv ?_|refine zCy ?_|refine zBy ?_|refine zDv ?_|refine zEz ?_|refine zAw ?_|refine zBz ?_)
  | refine zDz ?_|refine zEx rfl ?_|refine zJy ?_|refine zJx ?_
  | ((first|refine zGv rfl rfl rfl rfl rfl fun K_ hK_=>?_|refine zGw rfl rfl rfl rfl rfl fun K_ hK_=>?_);simp only [zAz,zDy,zGx,↓reduceIte,reduceCtorEq,Nat.reduceEqDiff,Bool.not_true,Bool.not_false];refine hK_ _ ?_;clear hK_ K_)
  | refine zDw (by decide) ?_
  | ((try first|refine zKy rfl rfl rfl ?_|refine zJz rfl rfl ?_|refine zKx rfl rfl rfl ?_|refine zIv rfl rfl ?_);(refine zIw fun Q_ hQ_=>?_;simp (disch:=first|omega|(simp only [List.length_cons,List.length_nil,List.length_append];omega)) only [bb,bp,zLy,↓reduceIte,reduceCtorEq,Nat.reduceEqDiff,Nat.reduceLT,Nat.reduceLeDiff,Nat.reduceAdd,Nat.reduceMul,Nat.reduceSub,Nat.reduceBEq,Int.reduceToNat,cond_true,cond_false,eq_self,beq_self_eq_true,g0,g1,g2,g4,l1,hst,hl2,tEvD18,zIx,zIy,zIz,zHv,zFv,zAv wf];first|(refine zCx (Q:=Q_) (fun hp_=>?_) (fun hp_=>?_) <;> first|(exfalso;omega)|(refine hQ_ _ _ ?_;clear hQ_ Q_))|(refine zBx (Q:=Q_) (fun hp_=>?_) (fun hp_=>?_) <;> first|(exfalso;omega)|(refine hQ_ _ _ ?_;clear hQ_ Q_))|(refine hQ_ _ _ ?_;clear hQ_ Q_)))
  | (refine zHx fun K_ hK_=>?_;simp (disch:=omega) only [zGz,zAz,zHw,↓reduceIte,reduceCtorEq,Nat.reduceEqDiff,Nat.reduceLT];refine hK_ _ ?_;clear hK_ K_)))
      refine zKy rfl rfl rfl ?_
      refine zIw fun Q_ hQ_=>?_
      simp (disch:=first|omega|(simp only [List.length_cons,List.length_nil,List.length_append];omega)) only [bb,bp,zLy,↓reduceIte,reduceCtorEq,Nat.reduceEqDiff,Nat.reduceLT,Nat.reduceLeDiff,Nat.reduceAdd,Nat.reduceMul,Nat.reduceSub,Nat.reduceBEq,Int.reduceToNat,cond_true,cond_false,eq_self,beq_self_eq_true,g0,callV_yld,tEvD18,zIx,zIy,zIz,zHv,zFv,zAv wf]
      refine (hy q hlt L2 J _ hI2 (by omega) (by omega)).mono ?_
      rintro v h' ⟨L',J',w',rfl,hw4,hw5,hv⟩
      rcases hv with ⟨rfl,hI3⟩|⟨rfl,hl3,hD⟩
      · refine hQ_ _ _ ?_
        clear hQ_ Q_
        have hl4:=(hI (q+1) L' hI3).1
        (repeat' (first
  | (with_reducible first|refine zJw ?_|refine zHz ?_|refine zEv ?_|refine zEw ?_|refine zFz ?_|refine zJv ?_|refine zHy ?_|refine zBv ?_|refine zDx ?_|refine zCz ?_|refine zCw ?_|refine zEy ?_|refine zCv ?_|refine zCy ?_|refine zBy ?_|refine zDv ?_|refine zEz ?_|refine zAw ?_|refine zBz ?_)
  | refine zDz ?_|refine zEx rfl ?_|refine zJy ?_|refine zJx ?_
  | ((first|refine zGv rfl rfl rfl rfl rfl fun K_ hK_=>?_|refine zGw rfl rfl rfl rfl rfl fun K_ hK_=>?_);simp only [zAz,zDy,zGx,↓reduceIte,reduceCtorEq,Nat.reduceEqDiff,Bool.not_true,Bool.not_false];refine hK_ _ ?_;clear hK_ K_)
  | refine zDw (by decide) ?_
  | ((try first|refine zKy rfl rfl rfl ?_|refine zJz rfl rfl ?_|refine zKx rfl rfl rfl ?_|refine zIv rfl rfl ?_);(refine zIw fun Q_ hQ_=>?_;simp (disch:=first|omega|(simp only [List.length_cons,List.length_nil,List.length_append];omega)) only [bb,bp,zLy,↓reduceIte,reduceCtorEq,Nat.reduceEqDiff,Nat.reduceLT,Nat.reduceLeDiff,Nat.reduceAdd,Nat.reduceMul,Nat.reduceSub,Nat.reduceBEq,Int.reduceToNat,cond_true,cond_false,eq_self,beq_self_eq_true,g4,tEvD18,zIx,zIy,zIz,zHv,zFv,zAv wf];first|(refine zCx (Q:=Q_) (fun hp_=>?_) (fun hp_=>?_) <;> first|(exfalso;omega)|(refine hQ_ _ _ ?_;clear hQ_ Q_))|(refine zBx (Q:=Q_) (fun hp_=>?_) (fun hp_=>?_) <;> first|(exfalso;omega)|(refine hQ_ _ _ ?_;clear hQ_ Q_))|(refine hQ_ _ _ ?_;clear hQ_ Q_)))
  | (refine zHx fun K_ hK_=>?_;simp (disch:=omega) only [zGz,zAz,zHw,↓reduceIte,reduceCtorEq,Nat.reduceEqDiff,Nat.reduceLT];refine hK_ _ ?_;clear hK_ K_)))
        refine zLz (q+1) (by omega) ⟨hlt,by simp only [zAz,↓reduceIte,reduceCtorEq,Nat.reduceEqDiff];exact g0,by simp only [zAz,↓reduceIte,reduceCtorEq,Nat.reduceEqDiff];exact g1,by simp only [zAz,↓reduceIte,reduceCtorEq,Nat.reduceEqDiff];exact g2,by simp only [zAz,↓reduceIte,reduceCtorEq,Nat.reduceEqDiff];rw [Int.natCast_add,← Int.add_assoc];rfl,rfl,L',J++J',w',rfl,hI3,hw4,by omega,fun _=>hw5⟩
      · refine hQ_ _ _ ?_
        clear hQ_ Q_
        (repeat' (first
  | (with_reducible first|refine zJw ?_|refine zHz ?_|refine zEv ?_|refine zEw ?_|refine zFz ?_|refine zJv ?_|refine zHy ?_|refine zBv ?_|refine zDx ?_|refine zCz ?_|refine zCw ?_|refine zEy ?_|refine zCv ?_|refine zCy ?_|refine zBy ?_|refine zDv ?_|refine zEz ?_|refine zAw ?_|refine zBz ?_)
  | refine zDz ?_|refine zEx rfl ?_|refine zJy ?_|refine zJx ?_
  | ((first|refine zGv rfl rfl rfl rfl rfl fun K_ hK_=>?_|refine zGw rfl rfl rfl rfl rfl fun K_ hK_=>?_);simp only [zAz,zDy,zGx,↓reduceIte,reduceCtorEq,Nat.reduceEqDiff,Bool.not_true,Bool.not_false];refine hK_ _ ?_;clear hK_ K_)
  | refine zDw (by decide) ?_
  | ((try first|refine zKy rfl rfl rfl ?_|refine zJz rfl rfl ?_|refine zKx rfl rfl rfl ?_|refine zIv rfl rfl ?_);(refine zIw fun Q_ hQ_=>?_;simp (disch:=first|omega|(simp only [List.length_cons,List.length_nil,List.length_append];omega)) only [bb,bp,zLy,↓reduceIte,reduceCtorEq,Nat.reduceEqDiff,Nat.reduceLT,Nat.reduceLeDiff,Nat.reduceAdd,Nat.reduceMul,Nat.reduceSub,Nat.reduceBEq,Int.reduceToNat,cond_true,cond_false,eq_self,beq_self_eq_true,g4,tEvD18,zIx,zIy,zIz,zHv,zFv,zAv wf];first|(refine zCx (Q:=Q_) (fun hp_=>?_) (fun hp_=>?_) <;> first|(exfalso;omega)|(refine hQ_ _ _ ?_;clear hQ_ Q_))|(refine zBx (Q:=Q_) (fun hp_=>?_) (fun hp_=>?_) <;> first|(exfalso;omega)|(refine hQ_ _ _ ?_;clear hQ_ Q_))|(refine hQ_ _ _ ?_;clear hQ_ Q_)))
  | (refine zHx fun K_ hK_=>?_;simp (disch:=omega) only [zGz,zAz,zHw,↓reduceIte,reduceCtorEq,Nat.reduceEqDiff,Nat.reduceLT];refine hK_ _ ?_;clear hK_ K_)))
        refine zKz _ (.tup []) rfl rfl ?_
        rw [← X_X h L' (J++J') w' w']
        refine WV_out (by rw [xVw];exact hw5) ?_
        rw [X_X,X_w]
        exact ⟨L',J++J',_,rfl,by omega,by omega,.inr ⟨hl3,hD⟩⟩
    · have hqe:q=cnt T:=by omega
      subst hqe
      (repeat' (first
  | (with_reducible first|refine zJw ?_|refine zHz ?_|refine zEv ?_|refine zEw ?_|refine zFz ?_|refine zJv ?_|refine zHy ?_|refine zBv ?_|refine zDx ?_|refine zCz ?_|refine zCw ?_|refine zEy ?_|refine zCv ?_|refine zCy ?_|refine zBy ?_|refine zDv ?_|refine zEz ?_|refine zAw ?_|refine zBz ?_)
  | refine zDz ?_|refine zEx rfl ?_|refine zJy ?_|refine zJx ?_
  | ((first|refine zGv rfl rfl rfl rfl rfl fun K_ hK_=>?_|refine zGw rfl rfl rfl rfl rfl fun K_ hK_=>?_);simp only [zAz,zDy,zGx,↓reduceIte,reduceCtorEq,Nat.reduceEqDiff,Bool.not_true,Bool.not_false];refine hK_ _ ?_;clear hK_ K_)
  | refine zDw (by decide) ?_
  | ((try first|refine zKy rfl rfl rfl ?_|refine zJz rfl rfl ?_|refine zKx rfl rfl rfl ?_|refine zIv rfl rfl ?_);(refine zIw fun Q_ hQ_=>?_;simp (disch:=first|omega|(simp only [List.length_cons,List.length_nil,List.length_append];omega)) only [bb,bp,zLy,↓reduceIte,reduceCtorEq,Nat.reduceEqDiff,Nat.reduceLT,Nat.reduceLeDiff,Nat.reduceAdd,Nat.reduceMul,Nat.reduceSub,Nat.reduceBEq,Int.reduceToNat,cond_true,cond_false,eq_self,beq_self_eq_true,g0,g1,g2,g4,l1,tEvD18,zIx,zIy,zIz,zHv,zFv,zAv wf];first|(refine zCx (Q:=Q_) (fun hp_=>?_) (fun hp_=>?_) <;> first|(exfalso;omega)|(refine hQ_ _ _ ?_;clear hQ_ Q_))|(refine zBx (Q:=Q_) (fun hp_=>?_) (fun hp_=>?_) <;> first|(exfalso;omega)|(refine hQ_ _ _ ?_;clear hQ_ Q_))|(refine hQ_ _ _ ?_;clear hQ_ Q_)))
  | (refine zHx fun K_ hK_=>?_;simp (disch:=omega) only [zGz,zAz,zHw,↓reduceIte,reduceCtorEq,Nat.reduceEqDiff,Nat.reduceLT];refine hK_ _ ?_;clear hK_ K_)))
      refine endQ_norm _ (.tup []) rfl rfl ?_
      rw [← X_X h L J w w]
      refine WV_out (by rw [xVw];exact hw3 (by unfold cnt;omega)) ?_
      rw [X_X,X_w]
      exact ⟨L,J,_,rfl,by omega,by omega,.inl hIq⟩
  · exact ⟨Nat.zero_le _,by simp only [zAz,↓reduceIte,reduceCtorEq,Nat.reduceEqDiff],by simp only [zAz,↓reduceIte,reduceCtorEq,Nat.reduceEqDiff],by simp only [zAz,↓reduceIte,reduceCtorEq,Nat.reduceEqDiff],by simp only [zAz,↓reduceIte,reduceCtorEq,Nat.reduceEqDiff];simp,rfl,L0,[],_,by rw [X_X],h0,by rw [xVw];omega,by rw [xVw];omega,fun h=>absurd h (Nat.lt_irrefl _)⟩
end Go.Proofs.Ythaleckfgcgegaa
end

section
namespace Go.Proofs.Ythaleckfgcgegaa
open Go.Ev
set_option maxRecDepth 100000
set_option linter.unusedSimpArgs false
set_option linter.unusedVariables false
set_option maxHeartbeats 2000000
theorem tEvD19 :type_of% (And.intro (And.intro (And.intro (And.intro (And.intro (And.intro (And.intro (@yWz) (@yVv)) (And.intro (@yVw) (And.intro (@yVx) (@yVy)))) (And.intro (And.intro (@yVz) (And.intro (@yUv) (@yUw))) (And.intro (@zVy) (And.intro (@ia_2) (@sz_2))))) (And.intro (And.intro (And.intro (@ia_3) (@sz_3)) (And.intro (@ia_4) (And.intro (@sz_4) (@yUx)))) (And.intro (And.intro (@yDw) (And.intro (@yUy) (@yDx))) (And.intro (@yUz) (And.intro (@yDy) (@yTv)))))) (And.intro (And.intro (And.intro (And.intro (@zWw) (@yTw)) (And.intro (@yDz) (And.intro (@yTx) (@yCv)))) (And.intro (And.intro (@yTy) (And.intro (@yCw) (@yTz))) (And.intro (@yCx) (And.intro (@ySv) (@yCy))))) (And.intro (And.intro (And.intro (@ySw) (And.intro (@yCz) (@ySx))) (And.intro (@zXz) (And.intro (@ySy) (@yBv)))) (And.intro (And.intro (@ySz) (And.intro (@yBw) (@yRv))) (And.intro (@yBx) (And.intro (@yRw) (@yBy))))))) (And.intro (And.intro (And.intro (And.intro (And.intro (@yRx) (@yBz)) (And.intro (@yRy) (And.intro (@yAv) (@yRz)))) (And.intro (And.intro (@yAw) (And.intro (@yQv) (@yAx))) (And.intro (@yQw) (And.intro (@yAy) (@yQx))))) (And.intro (And.intro (And.intro (@yAz) (@zVz)) (And.intro (@zTw) (And.intro (@zUv) (@zTx)))) (And.intro (And.intro (@zUw) (And.intro (@zTy) (@zUx))) (And.intro (@zTz) (And.intro (@zUy) (@zSv)))))) (And.intro (And.intro (And.intro (And.intro (@zUz) (@zSw)) (And.intro (@zTv) (And.intro (@zSx) (@ze_2)))) (And.intro (And.intro (@ze_3) (And.intro (@ze_4) (@zZv))) (And.intro (@zZw) (And.intro (@zZx) (@zZy))))) (And.intro (And.intro (And.intro (@zZz) (And.intro (@zYv) (@xDx))) (And.intro (@zYw) (And.intro (@zYx) (@zYy)))) (And.intro (And.intro (@zSy) (And.intro (@zRx) (@zRy))) (And.intro (@zRz) (And.intro (@zQv) (@zQw)))))))) (And.intro (And.intro (And.intro (And.intro (And.intro (And.intro (@zQx) (@zQy)) (And.intro (@zQz) (And.intro (@zPv) (@zPw)))) (And.intro (And.intro (@zPx) (And.intro (@zPy) (@zPz))) (And.intro (@zOv) (And.intro (@zOw) (@zOx))))) (And.intro (And.intro (And.intro (@zOy) (@zOz)) (And.intro (@zNv) (And.intro (@zNw) (@zNx)))) (And.intro (And.intro (@zNy) (And.intro (@zNz) (@zMv))) (And.intro (@zMw) (And.intro (@zMx) (@zMy)))))) (And.intro (And.intro (And.intro (And.intro (@zMz) (@yQy)) (And.intro (@yQz) (And.intro (@yPv) (@yPw)))) (And.intro (And.intro (@yPx) (And.intro (@yPy) (@yPz))) (And.intro (@yOv) (And.intro (@yOw) (@yOx))))) (And.intro (And.intro (And.intro (@yOy) (And.intro (@yOz) (@yNv))) (And.intro (@yNw) (And.intro (@yNx) (@yNy)))) (And.intro (And.intro (@yNz) (And.intro (@yMv) (@yMw))) (And.intro (@yMx) (And.intro (@yMy) (@yMz))))))) (And.intro (And.intro (And.intro (And.intro (And.intro (@yLv) (@yLw)) (And.intro (@yLx) (And.intro (@yLy) (@yLz)))) (And.intro (And.intro (@yKv) (And.intro (@yKw) (@yKx))) (And.intro (@yKy) (And.intro (@yKz) (@yJv))))) (And.intro (And.intro (And.intro (@yJw) (@yJx)) (And.intro (@yJy) (And.intro (@yJz) (@yIv)))) (And.intro (And.intro (@yIw) (And.intro (@yIx) (@yIy))) (And.intro (@yIz) (And.intro (@yHv) (@yHw)))))) (And.intro (And.intro (And.intro (And.intro (@yHx) (@yHy)) (And.intro (@yHz) (And.intro (@yGv) (@yGw)))) (And.intro (And.intro (@yGx) (And.intro (@zYz) (@zXv))) (And.intro (@yGy) (And.intro (@yGz) (@yFv))))) (And.intro (And.intro (And.intro (@yFw) (And.intro (@yFx) (@yFy))) (And.intro (@yFz) (And.intro (@yEv) (@yEw)))) (And.intro (And.intro (@yEx) (And.intro (@yEy) (@zXw))) (And.intro (@yEz) (And.intro (@yDv) (@zXx))))))))):=And.intro (And.intro (And.intro (And.intro (And.intro (And.intro (And.intro (@yWz) (@yVv)) (And.intro (@yVw) (And.intro (@yVx) (@yVy)))) (And.intro (And.intro (@yVz) (And.intro (@yUv) (@yUw))) (And.intro (@zVy) (And.intro (@ia_2) (@sz_2))))) (And.intro (And.intro (And.intro (@ia_3) (@sz_3)) (And.intro (@ia_4) (And.intro (@sz_4) (@yUx)))) (And.intro (And.intro (@yDw) (And.intro (@yUy) (@yDx))) (And.intro (@yUz) (And.intro (@yDy) (@yTv)))))) (And.intro (And.intro (And.intro (And.intro (@zWw) (@yTw)) (And.intro (@yDz) (And.intro (@yTx) (@yCv)))) (And.intro (And.intro (@yTy) (And.intro (@yCw) (@yTz))) (And.intro (@yCx) (And.intro (@ySv) (@yCy))))) (And.intro (And.intro (And.intro (@ySw) (And.intro (@yCz) (@ySx))) (And.intro (@zXz) (And.intro (@ySy) (@yBv)))) (And.intro (And.intro (@ySz) (And.intro (@yBw) (@yRv))) (And.intro (@yBx) (And.intro (@yRw) (@yBy))))))) (And.intro (And.intro (And.intro (And.intro (And.intro (@yRx) (@yBz)) (And.intro (@yRy) (And.intro (@yAv) (@yRz)))) (And.intro (And.intro (@yAw) (And.intro (@yQv) (@yAx))) (And.intro (@yQw) (And.intro (@yAy) (@yQx))))) (And.intro (And.intro (And.intro (@yAz) (@zVz)) (And.intro (@zTw) (And.intro (@zUv) (@zTx)))) (And.intro (And.intro (@zUw) (And.intro (@zTy) (@zUx))) (And.intro (@zTz) (And.intro (@zUy) (@zSv)))))) (And.intro (And.intro (And.intro (And.intro (@zUz) (@zSw)) (And.intro (@zTv) (And.intro (@zSx) (@ze_2)))) (And.intro (And.intro (@ze_3) (And.intro (@ze_4) (@zZv))) (And.intro (@zZw) (And.intro (@zZx) (@zZy))))) (And.intro (And.intro (And.intro (@zZz) (And.intro (@zYv) (@xDx))) (And.intro (@zYw) (And.intro (@zYx) (@zYy)))) (And.intro (And.intro (@zSy) (And.intro (@zRx) (@zRy))) (And.intro (@zRz) (And.intro (@zQv) (@zQw)))))))) (And.intro (And.intro (And.intro (And.intro (And.intro (And.intro (@zQx) (@zQy)) (And.intro (@zQz) (And.intro (@zPv) (@zPw)))) (And.intro (And.intro (@zPx) (And.intro (@zPy) (@zPz))) (And.intro (@zOv) (And.intro (@zOw) (@zOx))))) (And.intro (And.intro (And.intro (@zOy) (@zOz)) (And.intro (@zNv) (And.intro (@zNw) (@zNx)))) (And.intro (And.intro (@zNy) (And.intro (@zNz) (@zMv))) (And.intro (@zMw) (And.intro (@zMx) (@zMy)))))) (And.intro (And.intro (And.intro (And.intro (@zMz) (@yQy)) (And.intro (@yQz) (And.intro (@yPv) (@yPw)))) (And.intro (And.intro (@yPx) (And.intro (@yPy) (@yPz))) (And.intro (@yOv) (And.intro (@yOw) (@yOx))))) (And.intro (And.intro (And.intro (@yOy) (And.intro (@yOz) (@yNv))) (And.intro (@yNw) (And.intro (@yNx) (@yNy)))) (And.intro (And.intro (@yNz) (And.intro (@yMv) (@yMw))) (And.intro (@yMx) (And.intro (@yMy) (@yMz))))))) (And.intro (And.intro (And.intro (And.intro (And.intro (@yLv) (@yLw)) (And.intro (@yLx) (And.intro (@yLy) (@yLz)))) (And.intro (And.intro (@yKv) (And.intro (@yKw) (@yKx))) (And.intro (@yKy) (And.intro (@yKz) (@yJv))))) (And.intro (And.intro (And.intro (@yJw) (@yJx)) (And.intro (@yJy) (And.intro (@yJz) (@yIv)))) (And.intro (And.intro (@yIw) (And.intro (@yIx) (@yIy))) (And.intro (@yIz) (And.intro (@yHv) (@yHw)))))) (And.intro (And.intro (And.intro (And.intro (@yHx) (@yHy)) (And.intro (@yHz) (And.intro (@yGv) (@yGw)))) (And.intro (And.intro (@yGx) (And.intro (@zYz) (@zXv))) (And.intro (@yGy) (And.intro (@yGz) (@yFv))))) (And.intro (And.intro (And.intro (@yFw) (And.intro (@yFx) (@yFy))) (And.intro (@yFz) (And.intro (@yEv) (@yEw)))) (And.intro (And.intro (@yEx) (And.intro (@yEy) (@zXw))) (And.intro (@yEz) (And.intro (@yDv) (@zXx))))))))
def bst (high:Bool) (g:Nat→Int):Nat→Int
  | 0=>0
  | q+1=>if q=0 then g 0 else if high=true then max (bst high g q) (g q) else min (bst high g q) (g q)
def cg (T:Te) (re cf:List Int) (high:Bool) (q:Nat):Int:=coef T re cf (cand T high (T.o0+(q:Int)))
def endv (T:Te) (re cf:List Int) (high:Bool):Int:=bst high (cg T re cf high) (cnt T)
theorem xKw {high:Bool} {g:Nat→Int} : bst high g 1=g 0:=by unfold bst;rw [if_pos rfl]
theorem bst_hi {g:Nat→Int} {q:Nat} (hq:q≠0):bst true g (q+1)=max (bst true g q) (g q):=by conv=>lhs;unfold bst;rw [if_neg hq,if_pos rfl]
theorem bst_lo {g:Nat→Int} {q:Nat} (hq:q≠0):bst false g (q+1)=min (bst false g q) (g q):=by conv=>lhs;unfold bst;rw [if_neg hq,if_neg (by decide)]

theorem endC (T:Te) (k:okT T) (lv:AV) (hf:AV.cells lv=[lv]∧oneB lv=true) (a b:AV) (re cf:List Int) (kl:okL re cf) (hin:inAll T re) (high:Bool) (h:H) (y:LineR h a b re cf) :
    (om Try.prog KK).call (.fn 72 [.agg [ii T.sp,ii T.lo,ii T.we,ii T.al,ii T.f0,ii T.f1,ii T.t0,ii T.t1,ii T.s0,ii T.s1,ii T.o0,ii T.o1,ii T.b0,ii T.b1,ii T.r0,ii T.r1,lv],.agg [a,b],.bool high]) h = .ok (ii (endv T re cf high)) h:=by
  have wf:=y.wf
  obtain ⟨f1,f2⟩:=hf
  obtain ⟨⟨fa,fa'⟩,⟨fb,fb'⟩⟩:=y.flats
  have ko:=k.o
  have hcnt:(cnt T:Int)=T.o1 - T.o0+1:=by unfold cnt;omega
  refine zWy (zLx (fn:=Try.f72) Try.func72 rfl rfl rfl rfl rfl ?_)
  simp only [zLy]
  (repeat' (first
  | (with_reducible first|refine zJw ?_|refine zHz ?_|refine zEv ?_|refine zEw ?_|refine zFz ?_|refine zJv ?_|refine zHy ?_|refine zBv ?_|refine zDx ?_|refine zCz ?_|refine zCw ?_|refine zEy ?_|refine zCv ?_|refine zCy ?_|refine zBy ?_|refine zDv ?_|refine zEz ?_|refine zAw ?_|refine zBz ?_)
  | refine zDz ?_|refine zEx rfl ?_|refine zJy ?_|refine zJx ?_
  | ((first|refine zGv rfl rfl rfl rfl rfl fun K_ hK_=>?_|refine zGw rfl rfl rfl rfl rfl fun K_ hK_=>?_);simp only [zAz,zDy,zGx,↓reduceIte,reduceCtorEq,Nat.reduceEqDiff,Bool.not_true,Bool.not_false];refine hK_ _ ?_;clear hK_ K_)
  | refine zDw (by decide) ?_
  | ((try first|refine zKy rfl rfl rfl ?_|refine zJz rfl rfl ?_|refine zKx rfl rfl rfl ?_|refine zIv rfl rfl ?_);(refine zIw fun Q_ hQ_=>?_;simp (disch:=first|omega|(simp only [List.length_cons,List.length_nil,List.length_append];omega)) only [bb,bp,zLy,↓reduceIte,reduceCtorEq,Nat.reduceEqDiff,Nat.reduceLT,Nat.reduceLeDiff,Nat.reduceAdd,Nat.reduceMul,Nat.reduceSub,Nat.reduceBEq,Int.reduceToNat,cond_true,cond_false,eq_self,beq_self_eq_true,f1,f2,fa,fb,fa',fb',zFx wf,zGy wf,zBw wf,zFy wf,zAy wf,zAx,tEvD19,zIx,zIy,zIz,zHv,zFv,zAv wf];first|(refine zCx (Q:=Q_) (fun hp_=>?_) (fun hp_=>?_) <;> first|(exfalso;omega)|(refine hQ_ _ _ ?_;clear hQ_ Q_))|(refine zBx (Q:=Q_) (fun hp_=>?_) (fun hp_=>?_) <;> first|(exfalso;omega)|(refine hQ_ _ _ ?_;clear hQ_ Q_))|(refine hQ_ _ _ ?_;clear hQ_ Q_)|(refine zRv (candidates T lv ⟨f1,f2⟩ high h wf _ _ (by simp only [List.length_append,List.length_cons,List.length_nil];omega)) ?_;refine hQ_ _ _ ?_;clear hQ_ Q_)))
  | (refine zHx fun K_ hK_=>?_;simp (disch:=omega) only [zGz,zAz,zHw,↓reduceIte,reduceCtorEq,Nat.reduceEqDiff,Nat.reduceLT];refine hK_ _ ?_;clear hK_ K_)))
  simp only [List.length_cons,List.length_nil,List.cons_append,List.nil_append,Nat.reduceAdd]
  refine WC_rangeX wf rfl (zGz (by decide)) fun o ho=>?_
  simp only [zAz,↓reduceIte,reduceCtorEq,Nat.reduceEqDiff,List.length_cons,List.length_nil,List.cons_append,List.nil_append,Nat.reduceAdd]
  refine WV.mono (cands T k lv high wf 6 8 (nx h 10) _ h.clock (Nat.le_add_right _ _) (Nat.le_refl _) (fun q L=>∃ oo,L=[.cells (zFw [ii T.sp,ii T.lo,ii T.we,ii T.al,ii T.f0,ii T.f1,ii T.t0,ii T.t1,ii T.s0,ii T.s1,ii T.o0,ii T.o1,ii T.b0,ii T.b1,ii T.r0,ii T.r1,lv]) 76,.cells (zFw [a,b]) 67,.cells (zFw [.bool high]) 4,.cells (zFw [.fn 39 [.agg [a,b]] []]) 69,.cells (zFw [ii (bst high (cg T re cf high) q)]) 2,.cells (zFw [.bool (decide (q=0))]) 4,.cells (zFw [ii T.sp,ii T.lo,ii T.we,ii T.al,ii T.f0,ii T.f1,ii T.t0,ii T.t1,ii T.s0,ii T.s1,ii T.o0,ii T.o1,ii T.b0,ii T.b1,ii T.r0,ii T.r1,lv]) 76,.cells (zFw [.bool high]) 4,.cells (zFw (trC (cand T high oo))) 37,.dfr,o])
    (fun _=>False) ?_ ?_ ?_ ⟨0,rfl⟩) ?_
  · rintro q L ⟨oo,rfl⟩
    exact ⟨rfl,rfl,oo,rfl⟩
  · rintro q L o' ⟨oo,rfl⟩
    exact ⟨o',rfl⟩
  · rintro q hq L J w ⟨oo,rfl⟩ hw1 hw2
    have hw2':w≤h.clock+(11+J.length):=hw2
    have kx:=xRx k high (o:=T.o0+(q:Int)) ⟨by omega,by omega⟩
    have hxi:=xQx k hin kx
    have hgq:cg T re cf high q=coef T re cf (cand T high (T.o0+(q:Int))):=rfl
    simp only [List.cons_append,List.nil_append]
    unfold trC
    generalize hxo:cand T high oo=xo at *
    generalize cand T high (T.o0+(q:Int))=x at *
    generalize hcg:cg T re cf high=g at *
    refine WV_yldX wf (k:=10) rfl ho (setParams1 rfl) ?_
    (repeat' (first
  | (with_reducible first|refine zJw ?_|refine zHz ?_|refine zEv ?_|refine zEw ?_|refine zFz ?_|refine zJv ?_|refine zHy ?_|refine zBv ?_|refine zDx ?_|refine zCz ?_|refine zCw ?_|refine zEy ?_|refine zCv ?_|refine zCy ?_|refine zBy ?_|refine zDv ?_|refine zEz ?_|refine zAw ?_|refine zBz ?_)
  | refine zDz ?_|refine zEx rfl ?_|refine zJy ?_|refine zJx ?_
  | ((first|refine zGv rfl rfl rfl rfl rfl fun K_ hK_=>?_|refine zGw rfl rfl rfl rfl rfl fun K_ hK_=>?_);simp only [zAz,zDy,zGx,↓reduceIte,reduceCtorEq,Nat.reduceEqDiff,Bool.not_true,Bool.not_false];refine hK_ _ ?_;clear hK_ K_)
  | refine zDw (by decide) ?_
  | ((try first|refine zKy rfl rfl rfl ?_|refine zJz rfl rfl ?_|refine zKx rfl rfl rfl ?_|refine zIv rfl rfl ?_);(refine zIw fun Q_ hQ_=>?_;simp (disch:=first|omega|(simp only [List.length_cons,List.length_nil,List.length_append];omega)) only [bb,bp,zLy,↓reduceIte,reduceCtorEq,Nat.reduceEqDiff,Nat.reduceLT,Nat.reduceLeDiff,Nat.reduceAdd,Nat.reduceMul,Nat.reduceSub,Nat.reduceBEq,Int.reduceToNat,cond_true,cond_false,eq_self,beq_self_eq_true,zFx wf,zGy wf,zBw wf,zFy wf,zAy wf,zAx,tEvD19,zIx,zIy,zIz,zHv,zFv,zAv wf];first|(refine zCx (Q:=Q_) (fun hp_=>?_) (fun hp_=>?_) <;> first|(exfalso;omega)|(refine hQ_ _ _ ?_;clear hQ_ Q_))|(refine zBx (Q:=Q_) (fun hp_=>?_) (fun hp_=>?_) <;> first|(exfalso;omega)|(refine hQ_ _ _ ?_;clear hQ_ Q_))|(refine hQ_ _ _ ?_;clear hQ_ Q_)))
  | (refine zHx fun K_ hK_=>?_;simp (disch:=omega) only [zGz,zAz,zHw,↓reduceIte,reduceCtorEq,Nat.reduceEqDiff,Nat.reduceLT];refine hK_ _ ?_;clear hK_ K_)))
    refine yldA_X wf (k:=10) rfl ho fun o' ho'=>?_
    have hgx:g q=coef T re cf x:=hgq
    have hcx:=coefficient T k lv ⟨f1,f2⟩ a b re cf kl x kx hxi.1 hxi.2
    rw [← hgx] at hcx
    by_cases hq0:q=0
    · have hd0:decide (q=0)=true:=decide_eq_true hq0
      (repeat' (first
  | (with_reducible first|refine zJw ?_|refine zHz ?_|refine zEv ?_|refine zEw ?_|refine zFz ?_|refine zJv ?_|refine zHy ?_|refine zBv ?_|refine zDx ?_|refine zCz ?_|refine zCw ?_|refine zEy ?_|refine zCv ?_|refine zCy ?_|refine zBy ?_|refine zDv ?_|refine zEz ?_|refine zAw ?_|refine zBz ?_)
  | refine zDz ?_|refine zEx rfl ?_|refine zJy ?_|refine zJx ?_
  | ((first|refine zGv rfl rfl rfl rfl rfl fun K_ hK_=>?_|refine zGw rfl rfl rfl rfl rfl fun K_ hK_=>?_);simp only [zAz,zDy,zGx,↓reduceIte,reduceCtorEq,Nat.reduceEqDiff,Bool.not_true,Bool.not_false];refine hK_ _ ?_;clear hK_ K_)
  | refine zDw (by decide) ?_
  | ((try first|refine zKy rfl rfl rfl ?_|refine zJz rfl rfl ?_|refine zKx rfl rfl rfl ?_|refine zIv rfl rfl ?_);(refine zIw fun Q_ hQ_=>?_;simp (disch:=first|omega|(simp only [List.length_cons,List.length_nil,List.length_append];omega)) only [bb,bp,zLy,↓reduceIte,reduceCtorEq,Nat.reduceEqDiff,Nat.reduceLT,Nat.reduceLeDiff,Nat.reduceAdd,Nat.reduceMul,Nat.reduceSub,Nat.reduceBEq,Int.reduceToNat,cond_true,cond_false,eq_self,beq_self_eq_true,f1,f2,fa,fb,fa',fb',hd0,zFx wf,zGy wf,zBw wf,zFy wf,zAy wf,zAx,tEvD19,zIx,zIy,zIz,zHv,zFv,zAv wf];first|(refine zCx (Q:=Q_) (fun hp_=>?_) (fun hp_=>?_) <;> first|(exfalso;omega)|(refine hQ_ _ _ ?_;clear hQ_ Q_))|(refine zBx (Q:=Q_) (fun hp_=>?_) (fun hp_=>?_) <;> first|(exfalso;omega)|(refine hQ_ _ _ ?_;clear hQ_ Q_))|(refine hQ_ _ _ ?_;clear hQ_ Q_)|(refine zRv (hcx _ (y.up _ _ (by simp only [List.length_append,List.length_cons,List.length_nil];omega))) ?_;refine hQ_ _ _ ?_;clear hQ_ Q_)))
  | (refine zHx fun K_ hK_=>?_;simp (disch:=omega) only [zGz,zAz,zHw,↓reduceIte,reduceCtorEq,Nat.reduceEqDiff,Nat.reduceLT];refine hK_ _ ?_;clear hK_ K_)))
      have e:bst high g (q+1)=g q:=by rw [hq0,xKw]
      have e2:decide (q+1=0)=false:=decide_eq_false (by omega)
      refine yldB_X wf (k:=10) rfl ho' ?_
      simp only [List.set_cons_succ,List.set_cons_zero]
      rw [← ho]
      refine ⟨[.cells (zFw [ii T.sp,ii T.lo,ii T.we,ii T.al,ii T.f0,ii T.f1,ii T.t0,ii T.t1,ii T.s0,ii T.s1,ii T.o0,ii T.o1,ii T.b0,ii T.b1,ii T.r0,ii T.r1,lv]) 76,.cells (zFw [a,b]) 67,.cells (zFw [.bool high]) 4,.cells (zFw [.fn 39 [.agg [a,b]] []]) 69,.cells (zFw [ii (bst high g (q+1))]) 2,.cells (zFw [.bool (decide (q+1=0))]) 4,.cells (zFw [ii T.sp,ii T.lo,ii T.we,ii T.al,ii T.f0,ii T.f1,ii T.t0,ii T.t1,ii T.s0,ii T.s1,ii T.o0,ii T.o1,ii T.b0,ii T.b1,ii T.r0,ii T.r1,lv]) 76,.cells (zFw [.bool high]) 4,.cells (zFw [ii xo.f,ii xo.t,ii xo.s,ii xo.o,ii xo.b,ii xo.r]) 37,.dfr,o],[.cells (zFw [ii x.f,ii x.t,ii x.s,ii x.o,ii x.b,ii x.r]) 37],_,by rw [e,e2];rfl,by omega,?_,.inl ⟨by first|rfl|trivial,oo,by rw [hxo]⟩⟩
      show _<h.clock+11
      omega
    · have hd0:decide (q=0)=false:=decide_eq_false hq0
      cases high
      · (repeat' (first
  | (with_reducible first|refine zJw ?_|refine zHz ?_|refine zEv ?_|refine zEw ?_|refine zFz ?_|refine zJv ?_|refine zHy ?_|refine zBv ?_|refine zDx ?_|refine zCz ?_|refine zCw ?_|refine zEy ?_|refine zCv ?_|refine zCy ?_|refine zBy ?_|refine zDv ?_|refine zEz ?_|refine zAw ?_|refine zBz ?_)
  | refine zDz ?_|refine zEx rfl ?_|refine zJy ?_|refine zJx ?_
  | ((first|refine zGv rfl rfl rfl rfl rfl fun K_ hK_=>?_|refine zGw rfl rfl rfl rfl rfl fun K_ hK_=>?_);simp only [zAz,zDy,zGx,↓reduceIte,reduceCtorEq,Nat.reduceEqDiff,Bool.not_true,Bool.not_false];refine hK_ _ ?_;clear hK_ K_)
  | refine zDw (by decide) ?_
  | ((try first|refine zKy rfl rfl rfl ?_|refine zJz rfl rfl ?_|refine zKx rfl rfl rfl ?_|refine zIv rfl rfl ?_);(refine zIw fun Q_ hQ_=>?_;simp (disch:=first|omega|(simp only [List.length_cons,List.length_nil,List.length_append];omega)) only [bb,bp,zLy,↓reduceIte,reduceCtorEq,Nat.reduceEqDiff,Nat.reduceLT,Nat.reduceLeDiff,Nat.reduceAdd,Nat.reduceMul,Nat.reduceSub,Nat.reduceBEq,Int.reduceToNat,cond_true,cond_false,eq_self,beq_self_eq_true,f1,f2,fa,fb,fa',fb',hd0,zFx wf,zGy wf,zBw wf,zFy wf,zAy wf,zAx,tEvD19,zIx,zIy,zIz,zHv,zFv,zAv wf];first|(refine zCx (Q:=Q_) (fun hp_=>?_) (fun hp_=>?_) <;> first|(exfalso;omega)|(refine hQ_ _ _ ?_;clear hQ_ Q_))|(refine zBx (Q:=Q_) (fun hp_=>?_) (fun hp_=>?_) <;> first|(exfalso;omega)|(refine hQ_ _ _ ?_;clear hQ_ Q_))|(refine hQ_ _ _ ?_;clear hQ_ Q_)|(refine zRv (hcx _ (y.up _ _ (by simp only [List.length_append,List.length_cons,List.length_nil];omega))) ?_;refine hQ_ _ _ ?_;clear hQ_ Q_)))
  | (refine zHx fun K_ hK_=>?_;simp (disch:=omega) only [zGz,zAz,zHw,↓reduceIte,reduceCtorEq,Nat.reduceEqDiff,Nat.reduceLT];refine hK_ _ ?_;clear hK_ K_)))
        · have e:bst false g (q+1)=g q:=by rw [bst_lo hq0];omega
          have e2:decide (q+1=0)=false:=decide_eq_false (by omega)
          refine yldB_X wf (k:=10) rfl ho' ?_
          simp only [List.set_cons_succ,List.set_cons_zero]
          rw [← ho]
          refine ⟨[.cells (zFw [ii T.sp,ii T.lo,ii T.we,ii T.al,ii T.f0,ii T.f1,ii T.t0,ii T.t1,ii T.s0,ii T.s1,ii T.o0,ii T.o1,ii T.b0,ii T.b1,ii T.r0,ii T.r1,lv]) 76,.cells (zFw [a,b]) 67,.cells (zFw [.bool false]) 4,.cells (zFw [.fn 39 [.agg [a,b]] []]) 69,.cells (zFw [ii (bst false g (q+1))]) 2,.cells (zFw [.bool (decide (q+1=0))]) 4,.cells (zFw [ii T.sp,ii T.lo,ii T.we,ii T.al,ii T.f0,ii T.f1,ii T.t0,ii T.t1,ii T.s0,ii T.s1,ii T.o0,ii T.o1,ii T.b0,ii T.b1,ii T.r0,ii T.r1,lv]) 76,.cells (zFw [.bool false]) 4,.cells (zFw [ii xo.f,ii xo.t,ii xo.s,ii xo.o,ii xo.b,ii xo.r]) 37,.dfr,o],[.cells (zFw [ii x.f,ii x.t,ii x.s,ii x.o,ii x.b,ii x.r]) 37],_,by rw [e,e2];rfl,by omega,?_,.inl ⟨by first|rfl|trivial,oo,by rw [hxo]⟩⟩
          show _<h.clock+11
          omega
        · have e:bst false g (q+1)=bst false g q:=by rw [bst_lo hq0];omega
          have e2:decide (q+1=0)=false:=decide_eq_false (by omega)
          refine yldB_X wf (k:=10) rfl ho' ?_
          simp only [List.set_cons_succ,List.set_cons_zero]
          rw [← ho]
          refine ⟨[.cells (zFw [ii T.sp,ii T.lo,ii T.we,ii T.al,ii T.f0,ii T.f1,ii T.t0,ii T.t1,ii T.s0,ii T.s1,ii T.o0,ii T.o1,ii T.b0,ii T.b1,ii T.r0,ii T.r1,lv]) 76,.cells (zFw [a,b]) 67,.cells (zFw [.bool false]) 4,.cells (zFw [.fn 39 [.agg [a,b]] []]) 69,.cells (zFw [ii (bst false g (q+1))]) 2,.cells (zFw [.bool (decide (q+1=0))]) 4,.cells (zFw [ii T.sp,ii T.lo,ii T.we,ii T.al,ii T.f0,ii T.f1,ii T.t0,ii T.t1,ii T.s0,ii T.s1,ii T.o0,ii T.o1,ii T.b0,ii T.b1,ii T.r0,ii T.r1,lv]) 76,.cells (zFw [.bool false]) 4,.cells (zFw [ii xo.f,ii xo.t,ii xo.s,ii xo.o,ii xo.b,ii xo.r]) 37,.dfr,o],[.cells (zFw [ii x.f,ii x.t,ii x.s,ii x.o,ii x.b,ii x.r]) 37],_,by rw [e,e2];rfl,by omega,?_,.inl ⟨by first|rfl|trivial,oo,by rw [hxo]⟩⟩
          show _<h.clock+11
          omega
      · (repeat' (first
  | (with_reducible first|refine zJw ?_|refine zHz ?_|refine zEv ?_|refine zEw ?_|refine zFz ?_|refine zJv ?_|refine zHy ?_|refine zBv ?_|refine zDx ?_|refine zCz ?_|refine zCw ?_|refine zEy ?_|refine zCv ?_|refine zCy ?_|refine zBy ?_|refine zDv ?_|refine zEz ?_|refine zAw ?_|refine zBz ?_)
  | refine zDz ?_|refine zEx rfl ?_|refine zJy ?_|refine zJx ?_
  | ((first|refine zGv rfl rfl rfl rfl rfl fun K_ hK_=>?_|refine zGw rfl rfl rfl rfl rfl fun K_ hK_=>?_);simp only [zAz,zDy,zGx,↓reduceIte,reduceCtorEq,Nat.reduceEqDiff,Bool.not_true,Bool.not_false];refine hK_ _ ?_;clear hK_ K_)
  | refine zDw (by decide) ?_
  | ((try first|refine zKy rfl rfl rfl ?_|refine zJz rfl rfl ?_|refine zKx rfl rfl rfl ?_|refine zIv rfl rfl ?_);(refine zIw fun Q_ hQ_=>?_;simp (disch:=first|omega|(simp only [List.length_cons,List.length_nil,List.length_append];omega)) only [bb,bp,zLy,↓reduceIte,reduceCtorEq,Nat.reduceEqDiff,Nat.reduceLT,Nat.reduceLeDiff,Nat.reduceAdd,Nat.reduceMul,Nat.reduceSub,Nat.reduceBEq,Int.reduceToNat,cond_true,cond_false,eq_self,beq_self_eq_true,f1,f2,fa,fb,fa',fb',hd0,zFx wf,zGy wf,zBw wf,zFy wf,zAy wf,zAx,tEvD19,zIx,zIy,zIz,zHv,zFv,zAv wf];first|(refine zCx (Q:=Q_) (fun hp_=>?_) (fun hp_=>?_) <;> first|(exfalso;omega)|(refine hQ_ _ _ ?_;clear hQ_ Q_))|(refine zBx (Q:=Q_) (fun hp_=>?_) (fun hp_=>?_) <;> first|(exfalso;omega)|(refine hQ_ _ _ ?_;clear hQ_ Q_))|(refine hQ_ _ _ ?_;clear hQ_ Q_)|(refine zRv (hcx _ (y.up _ _ (by simp only [List.length_append,List.length_cons,List.length_nil];omega))) ?_;refine hQ_ _ _ ?_;clear hQ_ Q_)))
  | (refine zHx fun K_ hK_=>?_;simp (disch:=omega) only [zGz,zAz,zHw,↓reduceIte,reduceCtorEq,Nat.reduceEqDiff,Nat.reduceLT];refine hK_ _ ?_;clear hK_ K_)))
        · have e:bst true g (q+1)=g q:=by rw [bst_hi hq0];omega
          have e2:decide (q+1=0)=false:=decide_eq_false (by omega)
          refine yldB_X wf (k:=10) rfl ho' ?_
          simp only [List.set_cons_succ,List.set_cons_zero]
          rw [← ho]
          refine ⟨[.cells (zFw [ii T.sp,ii T.lo,ii T.we,ii T.al,ii T.f0,ii T.f1,ii T.t0,ii T.t1,ii T.s0,ii T.s1,ii T.o0,ii T.o1,ii T.b0,ii T.b1,ii T.r0,ii T.r1,lv]) 76,.cells (zFw [a,b]) 67,.cells (zFw [.bool true]) 4,.cells (zFw [.fn 39 [.agg [a,b]] []]) 69,.cells (zFw [ii (bst true g (q+1))]) 2,.cells (zFw [.bool (decide (q+1=0))]) 4,.cells (zFw [ii T.sp,ii T.lo,ii T.we,ii T.al,ii T.f0,ii T.f1,ii T.t0,ii T.t1,ii T.s0,ii T.s1,ii T.o0,ii T.o1,ii T.b0,ii T.b1,ii T.r0,ii T.r1,lv]) 76,.cells (zFw [.bool true]) 4,.cells (zFw [ii xo.f,ii xo.t,ii xo.s,ii xo.o,ii xo.b,ii xo.r]) 37,.dfr,o],[.cells (zFw [ii x.f,ii x.t,ii x.s,ii x.o,ii x.b,ii x.r]) 37],_,by rw [e,e2];rfl,by omega,?_,.inl ⟨by first|rfl|trivial,oo,by rw [hxo]⟩⟩
          show _<h.clock+11
          omega
        · have e:bst true g (q+1)=bst true g q:=by rw [bst_hi hq0];omega
          have e2:decide (q+1=0)=false:=decide_eq_false (by omega)
          refine yldB_X wf (k:=10) rfl ho' ?_
          simp only [List.set_cons_succ,List.set_cons_zero]
          rw [← ho]
          refine ⟨[.cells (zFw [ii T.sp,ii T.lo,ii T.we,ii T.al,ii T.f0,ii T.f1,ii T.t0,ii T.t1,ii T.s0,ii T.s1,ii T.o0,ii T.o1,ii T.b0,ii T.b1,ii T.r0,ii T.r1,lv]) 76,.cells (zFw [a,b]) 67,.cells (zFw [.bool true]) 4,.cells (zFw [.fn 39 [.agg [a,b]] []]) 69,.cells (zFw [ii (bst true g (q+1))]) 2,.cells (zFw [.bool (decide (q+1=0))]) 4,.cells (zFw [ii T.sp,ii T.lo,ii T.we,ii T.al,ii T.f0,ii T.f1,ii T.t0,ii T.t1,ii T.s0,ii T.s1,ii T.o0,ii T.o1,ii T.b0,ii T.b1,ii T.r0,ii T.r1,lv]) 76,.cells (zFw [.bool true]) 4,.cells (zFw [ii xo.f,ii xo.t,ii xo.s,ii xo.o,ii xo.b,ii xo.r]) 37,.dfr,o],[.cells (zFw [ii x.f,ii x.t,ii x.s,ii x.o,ii x.b,ii x.r]) 37],_,by rw [e,e2];rfl,by omega,?_,.inl ⟨by first|rfl|trivial,oo,by rw [hxo]⟩⟩
          show _<h.clock+11
          omega
  · rintro v h' ⟨L,J,w,rfl,hlo,hw,⟨oo,rfl⟩|⟨_,hD⟩⟩
    · simp only [List.cons_append,List.nil_append]
      refine rangeQ_X wf (k:=10) rfl ho (by decide) fun o' ho'=>?_
      simp only [List.set_cons_succ,List.set_cons_zero]
      (repeat' (first
  | (with_reducible first|refine zJw ?_|refine zHz ?_|refine zEv ?_|refine zEw ?_|refine zFz ?_|refine zJv ?_|refine zHy ?_|refine zBv ?_|refine zDx ?_|refine zCz ?_|refine zCw ?_|refine zEy ?_|refine zCv ?_|refine zCy ?_|refine zBy ?_|refine zDv ?_|refine zEz ?_|refine zAw ?_|refine zBz ?_)
  | refine zDz ?_|refine zEx rfl ?_|refine zJy ?_|refine zJx ?_
  | ((first|refine zGv rfl rfl rfl rfl rfl fun K_ hK_=>?_|refine zGw rfl rfl rfl rfl rfl fun K_ hK_=>?_);simp only [zAz,zDy,zGx,↓reduceIte,reduceCtorEq,Nat.reduceEqDiff,Bool.not_true,Bool.not_false];refine hK_ _ ?_;clear hK_ K_)
  | refine zDw (by decide) ?_
  | ((try first|refine zKy rfl rfl rfl ?_|refine zJz rfl rfl ?_|refine zKx rfl rfl rfl ?_|refine zIv rfl rfl ?_);(refine zIw fun Q_ hQ_=>?_;simp (disch:=first|omega|(simp only [List.length_cons,List.length_nil,List.length_append];omega)) only [bb,bp,zLy,↓reduceIte,reduceCtorEq,Nat.reduceEqDiff,Nat.reduceLT,Nat.reduceLeDiff,Nat.reduceAdd,Nat.reduceMul,Nat.reduceSub,Nat.reduceBEq,Int.reduceToNat,cond_true,cond_false,eq_self,beq_self_eq_true,zFx wf,zGy wf,zBw wf,zFy wf,zAy wf,zAx,tEvD19,zIx,zIy,zIz,zHv,zFv,zAv wf];first|(refine zCx (Q:=Q_) (fun hp_=>?_) (fun hp_=>?_) <;> first|(exfalso;omega)|(refine hQ_ _ _ ?_;clear hQ_ Q_))|(refine zBx (Q:=Q_) (fun hp_=>?_) (fun hp_=>?_) <;> first|(exfalso;omega)|(refine hQ_ _ _ ?_;clear hQ_ Q_))|(refine hQ_ _ _ ?_;clear hQ_ Q_)))
  | (refine zHx fun K_ hK_=>?_;simp (disch:=omega) only [zGz,zAz,zHw,↓reduceIte,reduceCtorEq,Nat.reduceEqDiff,Nat.reduceLT];refine hK_ _ ?_;clear hK_ K_)))
      refine zKz _ _ (takeAll_X wf (k:=9) rfl) (ret1 (by decide)) ?_
      simp only [zAz,↓reduceIte,reduceCtorEq,Nat.reduceEqDiff]
      refine zKw rfl (by omega) ?_
      exact ⟨rfl,rfl⟩
    · exact hD.elim
end Go.Proofs.Ythaleckfgcgegaa
end

section
namespace Go.Proofs.Ythaleckfgcgegaa
open Go.Ev
set_option maxRecDepth 100000
set_option linter.unusedSimpArgs false
set_option linter.unusedVariables false
set_option maxHeartbeats 2000000
theorem tEvD20 :type_of% (And.intro (And.intro (And.intro (And.intro (And.intro (And.intro (And.intro (@yWz) (@yVv)) (And.intro (@yVw) (And.intro (@yVx) (@yVy)))) (And.intro (And.intro (@yVz) (And.intro (@yUv) (@yUw))) (And.intro (@zVy) (And.intro (@ia_2) (@sz_2))))) (And.intro (And.intro (And.intro (@ia_3) (@sz_3)) (And.intro (@ia_4) (And.intro (@sz_4) (@yUx)))) (And.intro (And.intro (@yDw) (And.intro (@yUy) (@yDx))) (And.intro (@yUz) (And.intro (@yDy) (@yTv)))))) (And.intro (And.intro (And.intro (And.intro (@zWw) (@yTw)) (And.intro (@yDz) (And.intro (@yTx) (@yCv)))) (And.intro (And.intro (@yTy) (And.intro (@yCw) (@yTz))) (And.intro (@yCx) (And.intro (@ySv) (@yCy))))) (And.intro (And.intro (And.intro (@ySw) (And.intro (@yCz) (@ySx))) (And.intro (@zXz) (And.intro (@ySy) (@yBv)))) (And.intro (And.intro (@ySz) (And.intro (@yBw) (@yRv))) (And.intro (@yBx) (And.intro (@yRw) (@yBy))))))) (And.intro (And.intro (And.intro (And.intro (And.intro (@yRx) (@yBz)) (And.intro (@yRy) (And.intro (@yAv) (@yRz)))) (And.intro (And.intro (@yAw) (And.intro (@yQv) (@yAx))) (And.intro (@yQw) (And.intro (@yAy) (@yQx))))) (And.intro (And.intro (And.intro (@yAz) (@zVz)) (And.intro (@zTw) (And.intro (@zUv) (@zTx)))) (And.intro (And.intro (@zUw) (And.intro (@zTy) (@zUx))) (And.intro (@zTz) (And.intro (@zUy) (@zSv)))))) (And.intro (And.intro (And.intro (And.intro (@zUz) (@zSw)) (And.intro (@zTv) (And.intro (@zSx) (@ze_2)))) (And.intro (And.intro (@ze_3) (And.intro (@ze_4) (@zZv))) (And.intro (@zZw) (And.intro (@zZx) (@zZy))))) (And.intro (And.intro (And.intro (@zZz) (And.intro (@zYv) (@xDx))) (And.intro (@zYw) (And.intro (@zYx) (@zYy)))) (And.intro (And.intro (@zSy) (And.intro (@zRx) (@zRy))) (And.intro (@zRz) (And.intro (@zQv) (@zQw)))))))) (And.intro (And.intro (And.intro (And.intro (And.intro (And.intro (@zQx) (@zQy)) (And.intro (@zQz) (And.intro (@zPv) (@zPw)))) (And.intro (And.intro (@zPx) (And.intro (@zPy) (@zPz))) (And.intro (@zOv) (And.intro (@zOw) (@zOx))))) (And.intro (And.intro (And.intro (@zOy) (@zOz)) (And.intro (@zNv) (And.intro (@zNw) (@zNx)))) (And.intro (And.intro (@zNy) (And.intro (@zNz) (@zMv))) (And.intro (@zMw) (And.intro (@zMx) (@zMy)))))) (And.intro (And.intro (And.intro (And.intro (@zMz) (@yQy)) (And.intro (@yQz) (And.intro (@yPv) (@yPw)))) (And.intro (And.intro (@yPx) (And.intro (@yPy) (@yPz))) (And.intro (@yOv) (And.intro (@yOw) (@yOx))))) (And.intro (And.intro (And.intro (@yOy) (And.intro (@yOz) (@yNv))) (And.intro (@yNw) (And.intro (@yNx) (@yNy)))) (And.intro (And.intro (@yNz) (And.intro (@yMv) (@yMw))) (And.intro (@yMx) (And.intro (@yMy) (@yMz))))))) (And.intro (And.intro (And.intro (And.intro (And.intro (@yLv) (@yLw)) (And.intro (@yLx) (And.intro (@yLy) (@yLz)))) (And.intro (And.intro (@yKv) (And.intro (@yKw) (@yKx))) (And.intro (@yKy) (And.intro (@yKz) (@yJv))))) (And.intro (And.intro (And.intro (@yJw) (@yJx)) (And.intro (@yJy) (And.intro (@yJz) (@yIv)))) (And.intro (And.intro (@yIw) (And.intro (@yIx) (@yIy))) (And.intro (@yIz) (And.intro (@yHv) (@yHw)))))) (And.intro (And.intro (And.intro (And.intro (@yHx) (@yHy)) (And.intro (@yHz) (And.intro (@yGv) (@yGw)))) (And.intro (And.intro (@yGx) (And.intro (@zYz) (@zXv))) (And.intro (@yGy) (And.intro (@yGz) (@yFv))))) (And.intro (And.intro (And.intro (@yFw) (And.intro (@yFx) (@yFy))) (And.intro (@yFz) (And.intro (@yEv) (@yEw)))) (And.intro (And.intro (@yEx) (And.intro (@yEy) (@zXw))) (And.intro (@yEz) (And.intro (@yDv) (@zXx))))))))):=And.intro (And.intro (And.intro (And.intro (And.intro (And.intro (And.intro (@yWz) (@yVv)) (And.intro (@yVw) (And.intro (@yVx) (@yVy)))) (And.intro (And.intro (@yVz) (And.intro (@yUv) (@yUw))) (And.intro (@zVy) (And.intro (@ia_2) (@sz_2))))) (And.intro (And.intro (And.intro (@ia_3) (@sz_3)) (And.intro (@ia_4) (And.intro (@sz_4) (@yUx)))) (And.intro (And.intro (@yDw) (And.intro (@yUy) (@yDx))) (And.intro (@yUz) (And.intro (@yDy) (@yTv)))))) (And.intro (And.intro (And.intro (And.intro (@zWw) (@yTw)) (And.intro (@yDz) (And.intro (@yTx) (@yCv)))) (And.intro (And.intro (@yTy) (And.intro (@yCw) (@yTz))) (And.intro (@yCx) (And.intro (@ySv) (@yCy))))) (And.intro (And.intro (And.intro (@ySw) (And.intro (@yCz) (@ySx))) (And.intro (@zXz) (And.intro (@ySy) (@yBv)))) (And.intro (And.intro (@ySz) (And.intro (@yBw) (@yRv))) (And.intro (@yBx) (And.intro (@yRw) (@yBy))))))) (And.intro (And.intro (And.intro (And.intro (And.intro (@yRx) (@yBz)) (And.intro (@yRy) (And.intro (@yAv) (@yRz)))) (And.intro (And.intro (@yAw) (And.intro (@yQv) (@yAx))) (And.intro (@yQw) (And.intro (@yAy) (@yQx))))) (And.intro (And.intro (And.intro (@yAz) (@zVz)) (And.intro (@zTw) (And.intro (@zUv) (@zTx)))) (And.intro (And.intro (@zUw) (And.intro (@zTy) (@zUx))) (And.intro (@zTz) (And.intro (@zUy) (@zSv)))))) (And.intro (And.intro (And.intro (And.intro (@zUz) (@zSw)) (And.intro (@zTv) (And.intro (@zSx) (@ze_2)))) (And.intro (And.intro (@ze_3) (And.intro (@ze_4) (@zZv))) (And.intro (@zZw) (And.intro (@zZx) (@zZy))))) (And.intro (And.intro (And.intro (@zZz) (And.intro (@zYv) (@xDx))) (And.intro (@zYw) (And.intro (@zYx) (@zYy)))) (And.intro (And.intro (@zSy) (And.intro (@zRx) (@zRy))) (And.intro (@zRz) (And.intro (@zQv) (@zQw)))))))) (And.intro (And.intro (And.intro (And.intro (And.intro (And.intro (@zQx) (@zQy)) (And.intro (@zQz) (And.intro (@zPv) (@zPw)))) (And.intro (And.intro (@zPx) (And.intro (@zPy) (@zPz))) (And.intro (@zOv) (And.intro (@zOw) (@zOx))))) (And.intro (And.intro (And.intro (@zOy) (@zOz)) (And.intro (@zNv) (And.intro (@zNw) (@zNx)))) (And.intro (And.intro (@zNy) (And.intro (@zNz) (@zMv))) (And.intro (@zMw) (And.intro (@zMx) (@zMy)))))) (And.intro (And.intro (And.intro (And.intro (@zMz) (@yQy)) (And.intro (@yQz) (And.intro (@yPv) (@yPw)))) (And.intro (And.intro (@yPx) (And.intro (@yPy) (@yPz))) (And.intro (@yOv) (And.intro (@yOw) (@yOx))))) (And.intro (And.intro (And.intro (@yOy) (And.intro (@yOz) (@yNv))) (And.intro (@yNw) (And.intro (@yNx) (@yNy)))) (And.intro (And.intro (@yNz) (And.intro (@yMv) (@yMw))) (And.intro (@yMx) (And.intro (@yMy) (@yMz))))))) (And.intro (And.intro (And.intro (And.intro (And.intro (@yLv) (@yLw)) (And.intro (@yLx) (And.intro (@yLy) (@yLz)))) (And.intro (And.intro (@yKv) (And.intro (@yKw) (@yKx))) (And.intro (@yKy) (And.intro (@yKz) (@yJv))))) (And.intro (And.intro (And.intro (@yJw) (@yJx)) (And.intro (@yJy) (And.intro (@yJz) (@yIv)))) (And.intro (And.intro (@yIw) (And.intro (@yIx) (@yIy))) (And.intro (@yIz) (And.intro (@yHv) (@yHw)))))) (And.intro (And.intro (And.intro (And.intro (@yHx) (@yHy)) (And.intro (@yHz) (And.intro (@yGv) (@yGw)))) (And.intro (And.intro (@yGx) (And.intro (@zYz) (@zXv))) (And.intro (@yGy) (And.intro (@yGz) (@yFv))))) (And.intro (And.intro (And.intro (@yFw) (And.intro (@yFx) (@yFy))) (And.intro (@yFz) (And.intro (@yEv) (@yEw)))) (And.intro (And.intro (@yEx) (And.intro (@yEy) (@zXw))) (And.intro (@yEz) (And.intro (@yDv) (@zXx))))))))
def lineV (T:Te) (ls:List Ln) (high:Bool) (i:Nat):Int:=match ls[i]? with
  | some l=>endv T l.re l.cf high
  | none=>0
theorem wBv {T:Te} {ls:List Ln} {high:Bool} {i:Nat} (hi:i<ls.length):lineV T ls high i=endv T ls[i].re ls[i].cf high:=by unfold lineV;rw [List.getElem?_eq_getElem hi]
def spanV (T:Te) (ls:List Ln) (high:Bool):Int:=bst high (lineV T ls high) ls.length
theorem LinesR.cut {h:H} {s b:AV} {ls:List Ln} (x:LinesR h s ls) (hs:Sl h b 2 (ls.length - 1) ((ls.flatMap lnC).drop (1 * 2))):LinesR h b ls.tail:=by
  refine ⟨x.wf,?_,fun l hl=>x.ln l (List.mem_of_mem_tail hl)⟩
  rw [List.length_tail]
  cases ls with
  | nil=>simpa using hs
  | cons l r=>simpa [lnC] using hs
theorem span (T:Te) (k:okT T) (lv:AV) (hcap:CapU 2 lv) (ls:List Ln) (hk:okLs ls) (hr:rk T ls) (h:H) (x:LinesR h lv ls):(om Try.prog KK).call (.fn 55 [.agg [ii T.sp,ii T.lo,ii T.we,ii T.al,ii T.f0,ii T.f1,ii T.t0,ii T.t1,ii T.s0,ii T.s1,ii T.o0,ii T.o1,ii T.b0,ii T.b1,ii T.r0,ii T.r1,lv]]) h = .ok (.agg [ii (spanV T ls false),ii (spanV T ls true)]) h:=by
  have wf:=x.wf
  obtain ⟨f1,f2⟩:=x.flat
  have hn:=hk.n
  have h0:0<ls.length:=by omega
  obtain ⟨id,off,hix,hld,hln⟩:=x.at ik_74 h0
  obtain ⟨⟨fa,fa'⟩,⟨fb,fb'⟩⟩:=hln.flats
  have hix':indexAddrE Try.prog 74 lv (.int .i64 0)=some (.ptr id off):=hix
  obtain ⟨b',hcut,hsl,_⟩:=x.sl.cutFrom (k:=1) (by omega) un_74 zXz (by decide) hcap
  have y:=x.cut hsl
  have hlen : ∀ h',lenE Try.prog 74 b' h'=some (ii (ls.tail.length:Int)):=fun h'=>y.sl.len un_74
  have c0 : ∀ high l w,w≤h.clock+l.length→(om Try.prog KK).call (.fn 72 [.agg [ii T.sp,ii T.lo,ii T.we,ii T.al,ii T.f0,ii T.f1,ii T.t0,ii T.t1,ii T.s0,ii T.s1,ii T.o0,ii T.o1,ii T.b0,ii T.b1,ii T.r0,ii T.r1,lv],.agg [ls[0].a,ls[0].b],.bool high]) (X h l w) = .ok (ii (lineV T ls high 0)) (X h l w):=fun high l w hw=>by
    rw [wBv h0]
    exact endC T k lv ⟨f1,f2⟩ _ _ _ _ (hk.ok _ (List.getElem_mem h0)) (hr _ (List.getElem_mem h0)) high _ (hln.up _ _ hw)
  refine zWy (zLx (fn:=Try.f55) Try.func55 rfl rfl rfl rfl rfl ?_)
  simp only [zLy]
  (repeat' (first
  | (with_reducible first|refine zJw ?_|refine zHz ?_|refine zEv ?_|refine zEw ?_|refine zFz ?_|refine zJv ?_|refine zHy ?_|refine zBv ?_|refine zDx ?_|refine zCz ?_|refine zCw ?_|refine zEy ?_|refine zCv ?_|refine zCy ?_|refine zBy ?_|refine zDv ?_|refine zEz ?_|refine zAw ?_|refine zBz ?_)
  | refine zDz ?_|refine zEx rfl ?_|refine zJy ?_|refine zJx ?_
  | ((first|refine zGv rfl rfl rfl rfl rfl fun K_ hK_=>?_|refine zGw rfl rfl rfl rfl rfl fun K_ hK_=>?_);simp only [zAz,zDy,zGx,↓reduceIte,reduceCtorEq,Nat.reduceEqDiff,Bool.not_true,Bool.not_false];refine hK_ _ ?_;clear hK_ K_)
  | refine zDw (by decide) ?_
  | ((try first|refine zKy rfl rfl rfl ?_|refine zJz rfl rfl ?_|refine zKx rfl rfl rfl ?_|refine zIv rfl rfl ?_);(refine zIw fun Q_ hQ_=>?_;simp (disch:=first|omega|(simp only [List.length_cons,List.length_nil,List.length_append];omega)) only [bb,bp,zLy,↓reduceIte,reduceCtorEq,Nat.reduceEqDiff,Nat.reduceLT,Nat.reduceLeDiff,Nat.reduceAdd,Nat.reduceMul,Nat.reduceSub,Nat.reduceBEq,Int.reduceToNat,cond_true,cond_false,eq_self,beq_self_eq_true,f1,f2,zFx wf,zGy wf,zBw wf,zFy wf,zAy wf,zAx,tEvD20,zIx,zIy,zIz,zHv,zFv,zAv wf];first|(refine zCx (Q:=Q_) (fun hp_=>?_) (fun hp_=>?_) <;> first|(exfalso;omega)|(refine hQ_ _ _ ?_;clear hQ_ Q_))|(refine zBx (Q:=Q_) (fun hp_=>?_) (fun hp_=>?_) <;> first|(exfalso;omega)|(refine hQ_ _ _ ?_;clear hQ_ Q_))|(refine hQ_ _ _ ?_;clear hQ_ Q_)))
  | (refine zHx fun K_ hK_=>?_;simp (disch:=omega) only [zGz,zAz,zHw,↓reduceIte,reduceCtorEq,Nat.reduceEqDiff,Nat.reduceLT];refine hK_ _ ?_;clear hK_ K_)))
  refine zLv (List.replicate 14 .no++[.full]) (by kernel_rfl) ?_
  (repeat' (first
  | (with_reducible first|refine zJw ?_|refine zHz ?_|refine zEv ?_|refine zEw ?_|refine zFz ?_|refine zJv ?_|refine zHy ?_|refine zBv ?_|refine zDx ?_|refine zCz ?_|refine zCw ?_|refine zEy ?_|refine zCv ?_|refine zCy ?_|refine zBy ?_|refine zDv ?_|refine zEz ?_|refine zAw ?_|refine zBz ?_)
  | refine zDz ?_|refine zEx rfl ?_|refine zJy ?_|refine zJx ?_
  | ((first|refine zGv rfl rfl rfl rfl rfl fun K_ hK_=>?_|refine zGw rfl rfl rfl rfl rfl fun K_ hK_=>?_);simp only [zAz,zDy,zGx,↓reduceIte,reduceCtorEq,Nat.reduceEqDiff,Bool.not_true,Bool.not_false];refine hK_ _ ?_;clear hK_ K_)
  | refine zDw (by decide) ?_
  | ((try first|refine zKy rfl rfl rfl ?_|refine zJz rfl rfl ?_|refine zKx rfl rfl rfl ?_|refine zIv rfl rfl ?_);(refine zIw fun Q_ hQ_=>?_;simp (disch:=first|omega|(simp only [List.length_cons,List.length_nil,List.length_append];omega)) only [bb,bp,zLy,↓reduceIte,reduceCtorEq,Nat.reduceEqDiff,Nat.reduceLT,Nat.reduceLeDiff,Nat.reduceAdd,Nat.reduceMul,Nat.reduceSub,Nat.reduceBEq,Int.reduceToNat,cond_true,cond_false,eq_self,beq_self_eq_true,f1,f2,fa,fb,fa',fb',hix',hld,c0,zFx wf,zGy wf,zBw wf,zFy wf,zAy wf,zAx,tEvD20,zIx,zIy,zIz,zHv,zFv,zAv wf];first|(refine zCx (Q:=Q_) (fun hp_=>?_) (fun hp_=>?_) <;> first|(exfalso;omega)|(refine hQ_ _ _ ?_;clear hQ_ Q_))|(refine zBx (Q:=Q_) (fun hp_=>?_) (fun hp_=>?_) <;> first|(exfalso;omega)|(refine hQ_ _ _ ?_;clear hQ_ Q_))|(refine hQ_ _ _ ?_;clear hQ_ Q_)))
  | (refine zHx fun K_ hK_=>?_;simp (disch:=omega) only [zGz,zAz,zHw,↓reduceIte,reduceCtorEq,Nat.reduceEqDiff,Nat.reduceLT];refine hK_ _ ?_;clear hK_ K_)))
  (repeat' (first
  | (with_reducible first|refine zJw ?_|refine zHz ?_|refine zEv ?_|refine zEw ?_|refine zFz ?_|refine zJv ?_|refine zHy ?_|refine zBv ?_|refine zDx ?_|refine zCz ?_|refine zCw ?_|refine zEy ?_|refine zCv ?_|refine zCy ?_|refine zBy ?_|refine zDv ?_|refine zEz ?_|refine zAw ?_|refine zBz ?_)
  | refine zDz ?_|refine zEx rfl ?_|refine zJy ?_|refine zJx ?_
  | ((first|refine zGv rfl rfl rfl rfl rfl fun K_ hK_=>?_|refine zGw rfl rfl rfl rfl rfl fun K_ hK_=>?_);simp only [zAz,zDy,zGx,↓reduceIte,reduceCtorEq,Nat.reduceEqDiff,Bool.not_true,Bool.not_false];refine hK_ _ ?_;clear hK_ K_)
  | refine zDw (by decide) ?_
  | ((try first|refine zKy rfl rfl rfl ?_|refine zJz rfl rfl ?_|refine zKx rfl rfl rfl ?_|refine zIv rfl rfl ?_);(refine zIw fun Q_ hQ_=>?_;simp (disch:=first|omega|(simp only [List.length_cons,List.length_nil,List.length_append];omega)) only [bb,bp,zLy,↓reduceIte,reduceCtorEq,Nat.reduceEqDiff,Nat.reduceLT,Nat.reduceLeDiff,Nat.reduceAdd,Nat.reduceMul,Nat.reduceSub,Nat.reduceBEq,Int.reduceToNat,cond_true,cond_false,eq_self,beq_self_eq_true,f1,f2,hcut,hlen,zFx wf,zGy wf,zBw wf,zFy wf,zAy wf,zAx,tEvD20,zIx,zIy,zIz,zHv,zFv,zAv wf];first|(refine zCx (Q:=Q_) (fun hp_=>?_) (fun hp_=>?_) <;> first|(exfalso;omega)|(refine hQ_ _ _ ?_;clear hQ_ Q_))|(refine zBx (Q:=Q_) (fun hp_=>?_) (fun hp_=>?_) <;> first|(exfalso;omega)|(refine hQ_ _ _ ?_;clear hQ_ Q_))|(refine hQ_ _ _ ?_;clear hQ_ Q_)))
  | (refine zHx fun K_ hK_=>?_;simp (disch:=omega) only [zGz,zAz,zHw,↓reduceIte,reduceCtorEq,Nat.reduceEqDiff,Nat.reduceLT];refine hK_ _ ?_;clear hK_ K_)))
  have ht:ls.tail.length=ls.length - 1:=List.length_tail
  refine zVw (fun (i:Nat) f d h'=>i≤ls.tail.length∧f 1 = .ptr (nx h 0) 0∧f 2 = .ptr (nx h 1) 0∧f 3 = .ptr (nx h 2) 0∧f 21=b'∧f 22=ii (ls.tail.length:Int)∧f 23=ii (i:Int)∧d=[] ∧
    ∃ G,h'=X h (.cells (zFw [ii T.sp,ii T.lo,ii T.we,ii T.al,ii T.f0,ii T.f1,ii T.t0,ii T.t1,ii T.s0,ii T.s1,ii T.o0,ii T.o1,ii T.b0,ii T.b1,ii T.r0,ii T.r1,lv]) 76 :: .cells (zFw [ii 0,ii 0]) 33 :: .cells (zFw [ii (bst false (lineV T ls false) (i+1)),ii (bst true (lineV T ls true) (i+1))]) 33 :: G) h.clock) (fun i=>ls.tail.length - i) ?_ (ls.length+1) 0 (by omega) ?_
  · rintro i f d h' ⟨hi,g1,g2,g3,g21,g22,g23,rfl,G,rfl⟩
    by_cases hlt:i<ls.tail.length
    · obtain ⟨ie,oe,hxe,hle,hlne⟩:=y.at ik_74 hlt
      obtain ⟨⟨ga,ga'⟩,⟨gb,gb'⟩⟩:=hlne.flats
      have hi1:i+1<ls.length:=by omega
      have et:ls.tail[i]=ls[i+1]:=by rw [List.getElem_tail]
      have c1 : ∀ high l w,w≤h.clock+l.length→(om Try.prog KK).call (.fn 72 [.agg [ii T.sp,ii T.lo,ii T.we,ii T.al,ii T.f0,ii T.f1,ii T.t0,ii T.t1,ii T.s0,ii T.s1,ii T.o0,ii T.o1,ii T.b0,ii T.b1,ii T.r0,ii T.r1,lv],.agg [ls.tail[i].a,ls.tail[i].b],.bool high]) (X h l w) = .ok (ii (lineV T ls high (i+1))) (X h l w):=fun high l w hw=>by
        rw [wBv hi1,← et]
        exact endC T k lv ⟨f1,f2⟩ _ _ _ _ (hk.ok _ (List.mem_of_mem_tail (List.getElem_mem hlt))) (hr _ (List.mem_of_mem_tail (List.getElem_mem hlt))) high _ (hlne.up _ _ hw)
      have e1:bst false (lineV T ls false) (i+1+1)=min (bst false (lineV T ls false) (i+1)) (lineV T ls false (i+1)):=bst_lo (by omega)
      have e2:bst true (lineV T ls true) (i+1+1)=max (bst true (lineV T ls true) (i+1)) (lineV T ls true (i+1)):=bst_hi (by omega)
      (repeat' (first
  | (with_reducible first|refine zJw ?_|refine zHz ?_|refine zEv ?_|refine zEw ?_|refine zFz ?_|refine zJv ?_|refine zHy ?_|refine zBv ?_|refine zDx ?_|refine zCz ?_|refine zCw ?_|refine zEy ?_|refine zCv ?_|refine zCy ?_|refine zBy ?_|refine zDv ?_|refine zEz ?_|refine zAw ?_|refine zBz ?_)
  | refine zDz ?_|refine zEx rfl ?_|refine zJy ?_|refine zJx ?_
  | ((first|refine zGv rfl rfl rfl rfl rfl fun K_ hK_=>?_|refine zGw rfl rfl rfl rfl rfl fun K_ hK_=>?_);simp only [zAz,zDy,zGx,↓reduceIte,reduceCtorEq,Nat.reduceEqDiff,Bool.not_true,Bool.not_false];refine hK_ _ ?_;clear hK_ K_)
  | refine zDw (by decide) ?_
  | ((try first|refine zKy rfl rfl rfl ?_|refine zJz rfl rfl ?_|refine zKx rfl rfl rfl ?_|refine zIv rfl rfl ?_);(refine zIw fun Q_ hQ_=>?_;simp (disch:=first|omega|(simp only [List.length_cons,List.length_nil,List.length_append];omega)) only [bb,bp,zLy,↓reduceIte,reduceCtorEq,Nat.reduceEqDiff,Nat.reduceLT,Nat.reduceLeDiff,Nat.reduceAdd,Nat.reduceMul,Nat.reduceSub,Nat.reduceBEq,Int.reduceToNat,cond_true,cond_false,eq_self,beq_self_eq_true,g1,g2,g3,g21,g22,g23,hxe,hle,ga,gb,ga',gb',zFx wf,zGy wf,zBw wf,zFy wf,zAy wf,zAx,tEvD20,zIx,zIy,zIz,zHv,zFv,zAv wf];first|(refine zCx (Q:=Q_) (fun hp_=>?_) (fun hp_=>?_) <;> first|(exfalso;omega)|(refine hQ_ _ _ ?_;clear hQ_ Q_))|(refine zBx (Q:=Q_) (fun hp_=>?_) (fun hp_=>?_) <;> first|(exfalso;omega)|(refine hQ_ _ _ ?_;clear hQ_ Q_))|(refine hQ_ _ _ ?_;clear hQ_ Q_)))
  | (refine zHx fun K_ hK_=>?_;simp (disch:=omega) only [zGz,zAz,zHw,↓reduceIte,reduceCtorEq,Nat.reduceEqDiff,Nat.reduceLT];refine hK_ _ ?_;clear hK_ K_)))
      refine zLv [.no,.no,.no,.no,.no,.full,.full,.full] (by kernel_rfl) ?_
      (repeat' (first
  | (with_reducible first|refine zJw ?_|refine zHz ?_|refine zEv ?_|refine zEw ?_|refine zFz ?_|refine zJv ?_|refine zHy ?_|refine zBv ?_|refine zDx ?_|refine zCz ?_|refine zCw ?_|refine zEy ?_|refine zCv ?_|refine zCy ?_|refine zBy ?_|refine zDv ?_|refine zEz ?_|refine zAw ?_|refine zBz ?_)
  | refine zDz ?_|refine zEx rfl ?_|refine zJy ?_|refine zJx ?_
  | ((first|refine zGv rfl rfl rfl rfl rfl fun K_ hK_=>?_|refine zGw rfl rfl rfl rfl rfl fun K_ hK_=>?_);simp only [zAz,zDy,zGx,↓reduceIte,reduceCtorEq,Nat.reduceEqDiff,Bool.not_true,Bool.not_false];refine hK_ _ ?_;clear hK_ K_)
  | refine zDw (by decide) ?_
  | ((try first|refine zKy rfl rfl rfl ?_|refine zJz rfl rfl ?_|refine zKx rfl rfl rfl ?_|refine zIv rfl rfl ?_);(refine zIw fun Q_ hQ_=>?_;simp (disch:=first|omega|(simp only [List.length_cons,List.length_nil,List.length_append];omega)) only [bb,bp,zLy,↓reduceIte,reduceCtorEq,Nat.reduceEqDiff,Nat.reduceLT,Nat.reduceLeDiff,Nat.reduceAdd,Nat.reduceMul,Nat.reduceSub,Nat.reduceBEq,Int.reduceToNat,cond_true,cond_false,eq_self,beq_self_eq_true,g1,g2,g3,g21,g22,g23,c1,bi_min,f1,f2,ga,gb,ga',gb',zFx wf,zGy wf,zBw wf,zFy wf,zAy wf,zAx,tEvD20,zIx,zIy,zIz,zHv,zFv,zAv wf];first|(refine zCx (Q:=Q_) (fun hp_=>?_) (fun hp_=>?_) <;> first|(exfalso;omega)|(refine hQ_ _ _ ?_;clear hQ_ Q_))|(refine zBx (Q:=Q_) (fun hp_=>?_) (fun hp_=>?_) <;> first|(exfalso;omega)|(refine hQ_ _ _ ?_;clear hQ_ Q_))|(refine hQ_ _ _ ?_;clear hQ_ Q_)))
  | (refine zHx fun K_ hK_=>?_;simp (disch:=omega) only [zGz,zAz,zHw,↓reduceIte,reduceCtorEq,Nat.reduceEqDiff,Nat.reduceLT];refine hK_ _ ?_;clear hK_ K_)))
      refine zLv [.no,.no,.no,.no,.no,.full,.full,.full] (by kernel_rfl) ?_
      (repeat' (first
  | (with_reducible first|refine zJw ?_|refine zHz ?_|refine zEv ?_|refine zEw ?_|refine zFz ?_|refine zJv ?_|refine zHy ?_|refine zBv ?_|refine zDx ?_|refine zCz ?_|refine zCw ?_|refine zEy ?_|refine zCv ?_|refine zCy ?_|refine zBy ?_|refine zDv ?_|refine zEz ?_|refine zAw ?_|refine zBz ?_)
  | refine zDz ?_|refine zEx rfl ?_|refine zJy ?_|refine zJx ?_
  | ((first|refine zGv rfl rfl rfl rfl rfl fun K_ hK_=>?_|refine zGw rfl rfl rfl rfl rfl fun K_ hK_=>?_);simp only [zAz,zDy,zGx,↓reduceIte,reduceCtorEq,Nat.reduceEqDiff,Bool.not_true,Bool.not_false];refine hK_ _ ?_;clear hK_ K_)
  | refine zDw (by decide) ?_
  | ((try first|refine zKy rfl rfl rfl ?_|refine zJz rfl rfl ?_|refine zKx rfl rfl rfl ?_|refine zIv rfl rfl ?_);(refine zIw fun Q_ hQ_=>?_;simp (disch:=first|omega|(simp only [List.length_cons,List.length_nil,List.length_append];omega)) only [bb,bp,zLy,↓reduceIte,reduceCtorEq,Nat.reduceEqDiff,Nat.reduceLT,Nat.reduceLeDiff,Nat.reduceAdd,Nat.reduceMul,Nat.reduceSub,Nat.reduceBEq,Int.reduceToNat,cond_true,cond_false,eq_self,beq_self_eq_true,g1,g2,g3,g21,g22,g23,c1,bi_max,f1,f2,ga,gb,ga',gb',zFx wf,zGy wf,zBw wf,zFy wf,zAy wf,zAx,tEvD20,zIx,zIy,zIz,zHv,zFv,zAv wf];first|(refine zCx (Q:=Q_) (fun hp_=>?_) (fun hp_=>?_) <;> first|(exfalso;omega)|(refine hQ_ _ _ ?_;clear hQ_ Q_))|(refine zBx (Q:=Q_) (fun hp_=>?_) (fun hp_=>?_) <;> first|(exfalso;omega)|(refine hQ_ _ _ ?_;clear hQ_ Q_))|(refine hQ_ _ _ ?_;clear hQ_ Q_)))
  | (refine zHx fun K_ hK_=>?_;simp (disch:=omega) only [zGz,zAz,zHw,↓reduceIte,reduceCtorEq,Nat.reduceEqDiff,Nat.reduceLT];refine hK_ _ ?_;clear hK_ K_)))
      refine zLz (i+1) (by omega) ⟨hlt,by simp only [zAz,↓reduceIte,reduceCtorEq,Nat.reduceEqDiff];exact g1,by simp only [zAz,↓reduceIte,reduceCtorEq,Nat.reduceEqDiff];exact g2,by simp only [zAz,↓reduceIte,reduceCtorEq,Nat.reduceEqDiff];exact g3,by simp only [zAz,↓reduceIte,reduceCtorEq,Nat.reduceEqDiff];exact g21,by simp only [zAz,↓reduceIte,reduceCtorEq,Nat.reduceEqDiff];exact g22,by simp only [zAz,↓reduceIte,reduceCtorEq,Nat.reduceEqDiff];rfl,rfl,_,by rw [e1,e2]⟩
    · have hie:i=ls.tail.length:=by omega
      have e1:spanV T ls false=bst false (lineV T ls false) (i+1):=by unfold spanV;congr 1;omega
      have e2:spanV T ls true=bst true (lineV T ls true) (i+1):=by unfold spanV;congr 1;omega
      rw [e1,e2]
      (repeat' (first
  | (with_reducible first|refine zJw ?_|refine zHz ?_|refine zEv ?_|refine zEw ?_|refine zFz ?_|refine zJv ?_|refine zHy ?_|refine zBv ?_|refine zDx ?_|refine zCz ?_|refine zCw ?_|refine zEy ?_|refine zCv ?_|refine zCy ?_|refine zBy ?_|refine zDv ?_|refine zEz ?_|refine zAw ?_|refine zBz ?_)
  | refine zDz ?_|refine zEx rfl ?_|refine zJy ?_|refine zJx ?_
  | ((first|refine zGv rfl rfl rfl rfl rfl fun K_ hK_=>?_|refine zGw rfl rfl rfl rfl rfl fun K_ hK_=>?_);simp only [zAz,zDy,zGx,↓reduceIte,reduceCtorEq,Nat.reduceEqDiff,Bool.not_true,Bool.not_false];refine hK_ _ ?_;clear hK_ K_)
  | refine zDw (by decide) ?_
  | ((try first|refine zKy rfl rfl rfl ?_|refine zJz rfl rfl ?_|refine zKx rfl rfl rfl ?_|refine zIv rfl rfl ?_);(refine zIw fun Q_ hQ_=>?_;simp (disch:=first|omega|(simp only [List.length_cons,List.length_nil,List.length_append];omega)) only [bb,bp,zLy,↓reduceIte,reduceCtorEq,Nat.reduceEqDiff,Nat.reduceLT,Nat.reduceLeDiff,Nat.reduceAdd,Nat.reduceMul,Nat.reduceSub,Nat.reduceBEq,Int.reduceToNat,cond_true,cond_false,eq_self,beq_self_eq_true,g1,g2,g3,g21,g22,g23,zFx wf,zGy wf,zBw wf,zFy wf,zAy wf,zAx,tEvD20,zIx,zIy,zIz,zHv,zFv,zAv wf];first|(refine zCx (Q:=Q_) (fun hp_=>?_) (fun hp_=>?_) <;> first|(exfalso;omega)|(refine hQ_ _ _ ?_;clear hQ_ Q_))|(refine zBx (Q:=Q_) (fun hp_=>?_) (fun hp_=>?_) <;> first|(exfalso;omega)|(refine hQ_ _ _ ?_;clear hQ_ Q_))|(refine hQ_ _ _ ?_;clear hQ_ Q_)))
  | (refine zHx fun K_ hK_=>?_;simp (disch:=omega) only [zGz,zAz,zHw,↓reduceIte,reduceCtorEq,Nat.reduceEqDiff,Nat.reduceLT];refine hK_ _ ?_;clear hK_ K_)))
      refine zKz _ _ rfl (retc0 (by decide) (by simp (disch:=first|omega|(simp only [List.length_cons,List.length_nil,List.length_append];omega)) only [bb,bp,zLy,↓reduceIte,reduceCtorEq,Nat.reduceEqDiff,Nat.reduceLT,Nat.reduceLeDiff,Nat.reduceAdd,Nat.reduceMul,Nat.reduceSub,Nat.reduceBEq,Int.reduceToNat,cond_true,cond_false,eq_self,beq_self_eq_true,g2,zBw wf,tEvD20,zIx,zIy,zIz,zHv,zFv,zAv wf];rfl)) ?_
      refine zKw rfl (by omega) ?_
      exact ⟨rfl,rfl⟩
  · exact ⟨Nat.zero_le _,by simp only [zAz,↓reduceIte,reduceCtorEq,Nat.reduceEqDiff],by simp only [zAz,↓reduceIte,reduceCtorEq,Nat.reduceEqDiff],by simp only [zAz,↓reduceIte,reduceCtorEq,Nat.reduceEqDiff],by simp only [zAz,↓reduceIte,reduceCtorEq,Nat.reduceEqDiff],by simp only [zAz,↓reduceIte,reduceCtorEq,Nat.reduceEqDiff],by first|(simp only [zAz,↓reduceIte,reduceCtorEq,Nat.reduceEqDiff];done)|(simp only [zAz,↓reduceIte,reduceCtorEq,Nat.reduceEqDiff];rfl),rfl,[],by rw [xKw,xKw]⟩

def spanErrA (T:Te) (ls:List Ln) (high:Bool):Int:=if reckErr T ls=0 then spanV T ls high else 0
end Go.Proofs.Ythaleckfgcgegaa
end

section
namespace Go.Proofs.Ythaleckfgcgegaa
open Go.Ev
set_option maxRecDepth 100000
set_option linter.unusedSimpArgs false
set_option linter.unusedVariables false
set_option maxHeartbeats 2000000
theorem fr_le {re cf:List Int} (k:okL re cf) {r:Int} (hh:has re r) {j:Nat} (hj:j<re.length) (h:re.getD j 0≤r):fr re cf r≤cf.getD j 0:=by
  have hn:=k.n
  rcases xIx k hh with ⟨e,e2⟩|⟨i,e,h0,hi,h1,h2⟩
  · unfold fr;rw [if_pos e];exact k.le (by omega) (by omega)
  · unfold fr;rw [e,if_neg (by omega)]
    have hji:j<i:=by
      rcases Nat.lt_or_ge j i with q|q
      · exact q
      · rcases Nat.lt_or_ge i j with q2|q2
        · have:=k.lt q2 hj;omega
        · have:j=i:=by omega
          rw [this] at h;omega
    have h3:=(mid_in k h0 hi h1 h2).2.2
    have h4:=k.le (i:=j) (j:=i - 1) (by omega) (by omega)
    omega
theorem fr_ge {re cf:List Int} (k:okL re cf) {r:Int} (hh:has re r) {j:Nat} (hj:j<re.length) (h:r≤re.getD j 0):cf.getD j 0≤fr re cf r:=by
  have hn:=k.n
  rcases xIx k hh with ⟨e,e2⟩|⟨i,e,h0,hi,h1,h2⟩
  · unfold fr;rw [if_pos e]
    have:j=re.length - 1:=by
      rcases Nat.lt_or_ge j (re.length - 1) with q|q
      · have:=k.lt q (by omega);omega
      · omega
    rw [this];exact Int.le_refl _
  · unfold fr;rw [e,if_neg (by omega)]
    have hm:=mid_in k h0 hi h1 h2
    rcases Nat.lt_or_ge j i with q|q
    · have e3:j=i - 1:=by
        rcases Nat.lt_or_ge j (i - 1) with q2|q2
        · have:=k.lt q2 (by omega);omega
        · omega
      have e4:r=re.getD (i - 1) 0:=by rw [e3] at h;omega
      rw [e3]
      unfold mid
      rw [e4,Int.sub_self,Int.mul_zero,Int.zero_ediv,Int.sub_zero];exact Int.le_refl _
    · have:=k.le (i:=i) (j:=j) q hj
      omega
theorem fr_mono {re cf:List Int} (k:okL re cf) {r r':Int} (hh:has re r) (hh':has re r') (h:r≤r'):fr re cf r'≤fr re cf r:=by
  have hn:=k.n
  rcases xIx k hh' with ⟨e,e2⟩|⟨i,e,h0,hi,h1,h2⟩
  · have:=fr_ge k hh (j:=re.length - 1) (by omega) hh.2
    unfold fr at this ⊢
    rw [if_pos e];exact this
  · rcases Int.le_total r (re.getD (i - 1) 0) with q|q
    · have h3:=fr_ge k hh (j:=i - 1) (by omega) q
      have h4:=fr_le k hh' (j:=i - 1) (by omega) h1
      omega
    · have hb:beh re r=i:=beh_at hi (by omega) fun j hj=>by
        rcases Nat.lt_or_ge j (i - 1) with q2|q2
        · have:=k.lt q2 (by omega);omega
        · have:j=i - 1:=by omega
          rw [this];exact q
      unfold fr
      rw [e,hb,if_neg (by omega)]
      unfold mid
      have h5:=k.le (i:=i - 1) (j:=i) (by omega) hi
      have h6:=k.lt (i:=i - 1) (j:=i) (by omega) hi
      have h7:(cf.getD (i - 1) 0 - cf.getD i 0) * (r - re.getD (i - 1) 0)≤(cf.getD (i - 1) 0 - cf.getD i 0) * (r' - re.getD (i - 1) 0):=Int.mul_le_mul_of_nonneg_left (by omega) (by omega)
      have h8:=Int.ediv_le_ediv (show 0<re.getD i 0 - re.getD (i - 1) 0 by omega) h7
      omega

theorem conv_u32 {n:Int} (hn:0≤n∧n≤4294967295):convE Try.prog 55 2 (.int .u32 n)=some (.int .i64 n):=by
  rw [c_int Try.underlying55 Try.underlying2]
  rw [xRv _ (by omega) (by omega)]
theorem tmod_in {a m:Int} (ha:0≤a) (hm:0<m):0≤a.tmod m∧a.tmod m<m:=by
  rw [Int.tmod_eq_emod_of_nonneg ha]
  exact ⟨Int.emod_nonneg _ (by omega),Int.emod_lt_of_pos _ hm⟩

end Go.Proofs.Ythaleckfgcgegaa
end

section
namespace Go.Proofs.Ythaleckfgcgegaa
open Go.Ev
set_option maxRecDepth 100000
set_option linter.unusedSimpArgs false
set_option linter.unusedVariables false
set_option maxHeartbeats 2000000
theorem tEvD12 :type_of% (And.intro (And.intro (And.intro (And.intro (And.intro (And.intro (And.intro (@yWz) (@yVv)) (And.intro (@yVw) (And.intro (@yVx) (@yVy)))) (And.intro (And.intro (@yVz) (And.intro (@yUv) (@yUw))) (And.intro (@zVy) (And.intro (@ia_2) (@sz_2))))) (And.intro (And.intro (And.intro (@ia_3) (@sz_3)) (And.intro (@ia_4) (And.intro (@sz_4) (@yUx)))) (And.intro (And.intro (@yDw) (And.intro (@yUy) (@yDx))) (And.intro (@yUz) (And.intro (@yDy) (@yTv)))))) (And.intro (And.intro (And.intro (And.intro (@zWw) (@yTw)) (And.intro (@yDz) (And.intro (@yTx) (@yCv)))) (And.intro (And.intro (@yTy) (And.intro (@yCw) (@yTz))) (And.intro (@yCx) (And.intro (@ySv) (@yCy))))) (And.intro (And.intro (And.intro (@ySw) (@yCz)) (And.intro (@ySx) (And.intro (@zXz) (@ySy)))) (And.intro (And.intro (@yBv) (And.intro (@ySz) (@yBw))) (And.intro (@yRv) (And.intro (@yBx) (@yRw))))))) (And.intro (And.intro (And.intro (And.intro (And.intro (@yBy) (@yRx)) (And.intro (@yBz) (And.intro (@yRy) (@yAv)))) (And.intro (And.intro (@yRz) (And.intro (@yAw) (@yQv))) (And.intro (@yAx) (And.intro (@yQw) (@yAy))))) (And.intro (And.intro (And.intro (@yQx) (@yAz)) (And.intro (@zVz) (And.intro (@zTw) (@zUv)))) (And.intro (And.intro (@zTx) (And.intro (@zUw) (@zTy))) (And.intro (@zUx) (And.intro (@zTz) (@zUy)))))) (And.intro (And.intro (And.intro (And.intro (@zSv) (@zUz)) (And.intro (@zSw) (And.intro (@zTv) (@zSx)))) (And.intro (And.intro (@ze_2) (And.intro (@ze_3) (@ze_4))) (And.intro (@zZv) (And.intro (@zZw) (@zZx))))) (And.intro (And.intro (And.intro (@zZy) (And.intro (@zZz) (@zYv))) (And.intro (@zYw) (And.intro (@zYx) (@zYy)))) (And.intro (And.intro (@zSy) (And.intro (@zRx) (@zRy))) (And.intro (@zRz) (And.intro (@zQv) (@zQw)))))))) (And.intro (And.intro (And.intro (And.intro (And.intro (And.intro (@zQx) (@zQy)) (And.intro (@zQz) (And.intro (@zPv) (@zPw)))) (And.intro (And.intro (@zPx) (And.intro (@zPy) (@zPz))) (And.intro (@zOv) (And.intro (@zOw) (@zOx))))) (And.intro (And.intro (And.intro (@zOy) (@zOz)) (And.intro (@zNv) (And.intro (@zNw) (@zNx)))) (And.intro (And.intro (@zNy) (And.intro (@zNz) (@zMv))) (And.intro (@zMw) (And.intro (@zMx) (@zMy)))))) (And.intro (And.intro (And.intro (And.intro (@zMz) (@yQy)) (And.intro (@yQz) (And.intro (@yPv) (@yPw)))) (And.intro (And.intro (@yPx) (And.intro (@yPy) (@yPz))) (And.intro (@yOv) (And.intro (@yOw) (@yOx))))) (And.intro (And.intro (And.intro (@yOy) (And.intro (@yOz) (@yNv))) (And.intro (@yNw) (And.intro (@yNx) (@yNy)))) (And.intro (And.intro (@yNz) (And.intro (@yMv) (@yMw))) (And.intro (@yMx) (And.intro (@yMy) (@yMz))))))) (And.intro (And.intro (And.intro (And.intro (And.intro (@yLv) (@yLw)) (And.intro (@yLx) (And.intro (@yLy) (@yLz)))) (And.intro (And.intro (@yKv) (And.intro (@yKw) (@yKx))) (And.intro (@yKy) (And.intro (@yKz) (@yJv))))) (And.intro (And.intro (And.intro (@yJw) (@yJx)) (And.intro (@yJy) (And.intro (@yJz) (@yIv)))) (And.intro (And.intro (@yIw) (And.intro (@yIx) (@yIy))) (And.intro (@yIz) (And.intro (@yHv) (@yHw)))))) (And.intro (And.intro (And.intro (And.intro (@yHx) (@yHy)) (And.intro (@yHz) (And.intro (@yGv) (@yGw)))) (And.intro (And.intro (@yGx) (And.intro (@zYz) (@zXv))) (And.intro (@yGy) (And.intro (@yGz) (@yFv))))) (And.intro (And.intro (And.intro (@yFw) (And.intro (@yFx) (@yFy))) (And.intro (@yFz) (And.intro (@yEv) (@yEw)))) (And.intro (And.intro (@yEx) (And.intro (@yEy) (@zXw))) (And.intro (@yEz) (And.intro (@yDv) (@zXx))))))))):=And.intro (And.intro (And.intro (And.intro (And.intro (And.intro (And.intro (@yWz) (@yVv)) (And.intro (@yVw) (And.intro (@yVx) (@yVy)))) (And.intro (And.intro (@yVz) (And.intro (@yUv) (@yUw))) (And.intro (@zVy) (And.intro (@ia_2) (@sz_2))))) (And.intro (And.intro (And.intro (@ia_3) (@sz_3)) (And.intro (@ia_4) (And.intro (@sz_4) (@yUx)))) (And.intro (And.intro (@yDw) (And.intro (@yUy) (@yDx))) (And.intro (@yUz) (And.intro (@yDy) (@yTv)))))) (And.intro (And.intro (And.intro (And.intro (@zWw) (@yTw)) (And.intro (@yDz) (And.intro (@yTx) (@yCv)))) (And.intro (And.intro (@yTy) (And.intro (@yCw) (@yTz))) (And.intro (@yCx) (And.intro (@ySv) (@yCy))))) (And.intro (And.intro (And.intro (@ySw) (@yCz)) (And.intro (@ySx) (And.intro (@zXz) (@ySy)))) (And.intro (And.intro (@yBv) (And.intro (@ySz) (@yBw))) (And.intro (@yRv) (And.intro (@yBx) (@yRw))))))) (And.intro (And.intro (And.intro (And.intro (And.intro (@yBy) (@yRx)) (And.intro (@yBz) (And.intro (@yRy) (@yAv)))) (And.intro (And.intro (@yRz) (And.intro (@yAw) (@yQv))) (And.intro (@yAx) (And.intro (@yQw) (@yAy))))) (And.intro (And.intro (And.intro (@yQx) (@yAz)) (And.intro (@zVz) (And.intro (@zTw) (@zUv)))) (And.intro (And.intro (@zTx) (And.intro (@zUw) (@zTy))) (And.intro (@zUx) (And.intro (@zTz) (@zUy)))))) (And.intro (And.intro (And.intro (And.intro (@zSv) (@zUz)) (And.intro (@zSw) (And.intro (@zTv) (@zSx)))) (And.intro (And.intro (@ze_2) (And.intro (@ze_3) (@ze_4))) (And.intro (@zZv) (And.intro (@zZw) (@zZx))))) (And.intro (And.intro (And.intro (@zZy) (And.intro (@zZz) (@zYv))) (And.intro (@zYw) (And.intro (@zYx) (@zYy)))) (And.intro (And.intro (@zSy) (And.intro (@zRx) (@zRy))) (And.intro (@zRz) (And.intro (@zQv) (@zQw)))))))) (And.intro (And.intro (And.intro (And.intro (And.intro (And.intro (@zQx) (@zQy)) (And.intro (@zQz) (And.intro (@zPv) (@zPw)))) (And.intro (And.intro (@zPx) (And.intro (@zPy) (@zPz))) (And.intro (@zOv) (And.intro (@zOw) (@zOx))))) (And.intro (And.intro (And.intro (@zOy) (@zOz)) (And.intro (@zNv) (And.intro (@zNw) (@zNx)))) (And.intro (And.intro (@zNy) (And.intro (@zNz) (@zMv))) (And.intro (@zMw) (And.intro (@zMx) (@zMy)))))) (And.intro (And.intro (And.intro (And.intro (@zMz) (@yQy)) (And.intro (@yQz) (And.intro (@yPv) (@yPw)))) (And.intro (And.intro (@yPx) (And.intro (@yPy) (@yPz))) (And.intro (@yOv) (And.intro (@yOw) (@yOx))))) (And.intro (And.intro (And.intro (@yOy) (And.intro (@yOz) (@yNv))) (And.intro (@yNw) (And.intro (@yNx) (@yNy)))) (And.intro (And.intro (@yNz) (And.intro (@yMv) (@yMw))) (And.intro (@yMx) (And.intro (@yMy) (@yMz))))))) (And.intro (And.intro (And.intro (And.intro (And.intro (@yLv) (@yLw)) (And.intro (@yLx) (And.intro (@yLy) (@yLz)))) (And.intro (And.intro (@yKv) (And.intro (@yKw) (@yKx))) (And.intro (@yKy) (And.intro (@yKz) (@yJv))))) (And.intro (And.intro (And.intro (@yJw) (@yJx)) (And.intro (@yJy) (And.intro (@yJz) (@yIv)))) (And.intro (And.intro (@yIw) (And.intro (@yIx) (@yIy))) (And.intro (@yIz) (And.intro (@yHv) (@yHw)))))) (And.intro (And.intro (And.intro (And.intro (@yHx) (@yHy)) (And.intro (@yHz) (And.intro (@yGv) (@yGw)))) (And.intro (And.intro (@yGx) (And.intro (@zYz) (@zXv))) (And.intro (@yGy) (And.intro (@yGz) (@yFv))))) (And.intro (And.intro (And.intro (@yFw) (And.intro (@yFx) (@yFy))) (And.intro (@yFz) (And.intro (@yEv) (@yEw)))) (And.intro (And.intro (@yEx) (And.intro (@yEy) (@zXw))) (And.intro (@yEz) (And.intro (@yDv) (@zXx))))))))
theorem refship (T:Te) (k:okT T) (a b:AV) (re cf:List Int) (kl:okL re cf) (x:Tr) (kx:isT T x) (h:H) (y:LineR h a b re cf):(om Try.prog KK).call (.fn 50 [.agg [ii T.sp,ii T.lo,ii T.we,ii T.al,ii T.f0,ii T.f1,ii T.t0,ii T.t1,ii T.s0,ii T.s1,ii T.o0,ii T.o1,ii T.b0,ii T.b1,ii T.r0,ii T.r1],.agg [a,b],.agg [ii x.f,ii x.t,ii x.s,ii x.o,ii x.b,ii x.r]]) h = .ok (.tup [ii (if inR T re x then coef T re cf x else 0),.bool (decide (inR T re x))]) h:=by
  have wf:=y.wf
  obtain ⟨⟨fa,fa'⟩,⟨fb,fb'⟩⟩:=y.flats
  have kf:=k.f
  have kt:=k.t
  have ks:=k.s
  have ko:=k.o
  have kb:=k.b
  have kr:=k.r
  have xf:=kx.f
  have xt:=kx.t
  have xs:=kx.s
  have xo:=kx.o
  have xb:=kx.b
  have xr:=kx.r
  refine zWy (zLx (fn:=Try.f50) Try.func50 rfl rfl rfl rfl rfl ?_)
  simp only [zLy]
  by_cases h1:has re (mo T x.t)
  · by_cases h2:has re (sh T x.s)
    · have hi:inR T re x:=⟨h1,h2⟩
      rw [if_pos hi,decide_eq_true hi]
      have hm:=meas_in k (f:=x.f) (by omega)
      have hm2:=yZv hm (b:=1000 - x.b) (y:=1000) ⟨by omega,by omega⟩
      have hd2:=Int.ediv_nonneg hm2.1 (show (0:Int)≤1000 by decide)
      have hd3:meas T x.f * (1000 - x.b) / 1000≤meas T x.f * (1000 - x.b):=Int.ediv_le_self _ hm2.1
      have g1:=yZv (a:=1000+x.o) (x:=2000) ⟨by omega,by omega⟩ (fr_in kl h1)
      have g2:=yZv (a:=1000+x.o) (x:=2000) ⟨by omega,by omega⟩ (fr_in kl h2)
      have g3:=Int.ediv_nonneg g1.1 (show (0:Int)≤1000 by decide)
      have g4:(1000+x.o) * fr re cf (mo T x.t) / 1000≤_:=Int.ediv_le_self _ g1.1
      have g5:=Int.ediv_nonneg g2.1 (show (0:Int)≤1000 by decide)
      have g6:(1000+x.o) * fr re cf (sh T x.s) / 1000≤_:=Int.ediv_le_self _ g2.1
      have c1 : ∀ l w,w≤h.clock+l.length→(om Try.prog KK).call (.fn 34 [.agg [ii T.sp,ii T.lo,ii T.we,ii T.al,ii T.f0,ii T.f1,ii T.t0,ii T.t1,ii T.s0,ii T.s1,ii T.o0,ii T.o1,ii T.b0,ii T.b1,ii T.r0,ii T.r1],ii x.f]) (X h l w) = .ok (ii (meas T x.f)) (X h l w):=fun l w hw=>Measured T k x.f (by omega) _ (wf.X hw)
      have q1:=xEy (n:=meas T x.f * (1000 - x.b)) (g:=1000) ⟨hm2.1,by omega⟩ (by decide)
      have q2:=xEy (n:=(1000+x.o) * fr re cf (mo T x.t)) (g:=1000) ⟨g1.1,by omega⟩ (by decide)
      have q3:=xEy (n:=(1000+x.o) * fr re cf (sh T x.s)) (g:=1000) ⟨g2.1,by omega⟩ (by decide)
      unfold coef formed
      (repeat' (first
  | (with_reducible first|refine zJw ?_|refine zHz ?_|refine zEv ?_|refine zEw ?_|refine zFz ?_|refine zJv ?_|refine zHy ?_|refine zBv ?_|refine zDx ?_|refine zCz ?_|refine zCw ?_|refine zEy ?_|refine zCv ?_|refine zCy ?_|refine zBy ?_|refine zDv ?_|refine zEz ?_|refine zAw ?_|refine zBz ?_)
  | refine zDz ?_|refine zEx rfl ?_|refine zJy ?_|refine zJx ?_
  | ((first|refine zGv rfl rfl rfl rfl rfl fun K_ hK_=>?_|refine zGw rfl rfl rfl rfl rfl fun K_ hK_=>?_);simp only [zAz,zDy,zGx,↓reduceIte,reduceCtorEq,Nat.reduceEqDiff,Bool.not_true,Bool.not_false];refine hK_ _ ?_;clear hK_ K_)
  | refine zDw (by decide) ?_
  | ((try first|refine zKy rfl rfl rfl ?_|refine zJz rfl rfl ?_|refine zKx rfl rfl rfl ?_|refine zIv rfl rfl ?_);(refine zIw fun Q_ hQ_=>?_;simp (disch:=first|omega|(simp only [List.length_cons,List.length_nil,List.length_append];omega)) only [bb,bp,zLy,↓reduceIte,reduceCtorEq,Nat.reduceEqDiff,Nat.reduceLT,Nat.reduceLeDiff,Nat.reduceAdd,Nat.reduceMul,Nat.reduceSub,Nat.reduceBEq,Int.reduceToNat,cond_true,cond_false,eq_self,beq_self_eq_true,fa,fb,fa',fb',zFx wf,zGy wf,zBw wf,zFy wf,zAy wf,zAx,tEvD12,zIx,zIy,zIz,zHv,zFv,zAv wf];first|(refine zCx (Q:=Q_) (fun hp_=>?_) (fun hp_=>?_) <;> first|(exfalso;omega)|(refine hQ_ _ _ ?_;clear hQ_ Q_))|(refine zBx (Q:=Q_) (fun hp_=>?_) (fun hp_=>?_) <;> first|(exfalso;omega)|(refine hQ_ _ _ ?_;clear hQ_ Q_))|(refine hQ_ _ _ ?_;clear hQ_ Q_)|(refine zRv (numbers T k x.t x.s (by omega) (by omega) _ (wf.X (Nat.le_add_right _ _))) ?_;refine hQ_ _ _ ?_;clear hQ_ Q_)|(refine zRv ((refFric a b re cf _ _ (y.up _ _ (by simp only [List.length_append,List.length_cons,List.length_nil];omega)) kl).trans (by rw [if_pos h1,decide_eq_true h1])) ?_;refine hQ_ _ _ ?_;clear hQ_ Q_)|(refine zRv ((refFric a b re cf _ _ (y.up _ _ (by simp only [List.length_append,List.length_cons,List.length_nil];omega)) kl).trans (by rw [if_pos h2,decide_eq_true h2])) ?_;refine hQ_ _ _ ?_;clear hQ_ Q_)))
  | (refine zHx fun K_ hK_=>?_;simp (disch:=omega) only [zGz,zAz,zHw,↓reduceIte,reduceCtorEq,Nat.reduceEqDiff,Nat.reduceLT];refine hK_ _ ?_;clear hK_ K_)))
      refine zLv [.no,.no,.no,.no,.no,.no,.no,.full,.full,.full] (by kernel_rfl) ?_
      (repeat' (first
  | (with_reducible first|refine zJw ?_|refine zHz ?_|refine zEv ?_|refine zEw ?_|refine zFz ?_|refine zJv ?_|refine zHy ?_|refine zBv ?_|refine zDx ?_|refine zCz ?_|refine zCw ?_|refine zEy ?_|refine zCv ?_|refine zCy ?_|refine zBy ?_|refine zDv ?_|refine zEz ?_|refine zAw ?_|refine zBz ?_)
  | refine zDz ?_|refine zEx rfl ?_|refine zJy ?_|refine zJx ?_
  | ((first|refine zGv rfl rfl rfl rfl rfl fun K_ hK_=>?_|refine zGw rfl rfl rfl rfl rfl fun K_ hK_=>?_);simp only [zAz,zDy,zGx,↓reduceIte,reduceCtorEq,Nat.reduceEqDiff,Bool.not_true,Bool.not_false];refine hK_ _ ?_;clear hK_ K_)
  | refine zDw (by decide) ?_
  | ((try first|refine zKy rfl rfl rfl ?_|refine zJz rfl rfl ?_|refine zKx rfl rfl rfl ?_|refine zIv rfl rfl ?_);(refine zIw fun Q_ hQ_=>?_;simp (disch:=first|omega|(simp only [List.length_cons,List.length_nil,List.length_append];omega)) only [bb,bp,zLy,↓reduceIte,reduceCtorEq,Nat.reduceEqDiff,Nat.reduceLT,Nat.reduceLeDiff,Nat.reduceAdd,Nat.reduceMul,Nat.reduceSub,Nat.reduceBEq,Int.reduceToNat,cond_true,cond_false,eq_self,beq_self_eq_true,fa,fb,fa',fb',c1,b_quo (show (1000:Int)≠0 by decide),q1,q2,q3,zFx wf,zGy wf,zBw wf,zFy wf,zAy wf,zAx,tEvD12,zIx,zIy,zIz,zHv,zFv,zAv wf];first|(refine zCx (Q:=Q_) (fun hp_=>?_) (fun hp_=>?_) <;> first|(exfalso;omega)|(refine hQ_ _ _ ?_;clear hQ_ Q_))|(refine zBx (Q:=Q_) (fun hp_=>?_) (fun hp_=>?_) <;> first|(exfalso;omega)|(refine hQ_ _ _ ?_;clear hQ_ Q_))|(refine hQ_ _ _ ?_;clear hQ_ Q_)))
  | (refine zHx fun K_ hK_=>?_;simp (disch:=omega) only [zGz,zAz,zHw,↓reduceIte,reduceCtorEq,Nat.reduceEqDiff,Nat.reduceLT];refine hK_ _ ?_;clear hK_ K_)))
      (refine zKz _ _ rfl (ret2 (by decide) (by decide)) ?_;simp only [zAz,↓reduceIte,reduceCtorEq,Nat.reduceEqDiff];refine zKw rfl (by omega) ?_)
      exact ⟨rfl,rfl⟩
    · have hi : ¬ inR T re x:=fun q=>h2 q.2
      rw [if_neg hi,decide_eq_false hi]
      (repeat' (first
  | (with_reducible first|refine zJw ?_|refine zHz ?_|refine zEv ?_|refine zEw ?_|refine zFz ?_|refine zJv ?_|refine zHy ?_|refine zBv ?_|refine zDx ?_|refine zCz ?_|refine zCw ?_|refine zEy ?_|refine zCv ?_|refine zCy ?_|refine zBy ?_|refine zDv ?_|refine zEz ?_|refine zAw ?_|refine zBz ?_)
  | refine zDz ?_|refine zEx rfl ?_|refine zJy ?_|refine zJx ?_
  | ((first|refine zGv rfl rfl rfl rfl rfl fun K_ hK_=>?_|refine zGw rfl rfl rfl rfl rfl fun K_ hK_=>?_);simp only [zAz,zDy,zGx,↓reduceIte,reduceCtorEq,Nat.reduceEqDiff,Bool.not_true,Bool.not_false];refine hK_ _ ?_;clear hK_ K_)
  | refine zDw (by decide) ?_
  | ((try first|refine zKy rfl rfl rfl ?_|refine zJz rfl rfl ?_|refine zKx rfl rfl rfl ?_|refine zIv rfl rfl ?_);(refine zIw fun Q_ hQ_=>?_;simp (disch:=first|omega|(simp only [List.length_cons,List.length_nil,List.length_append];omega)) only [bb,bp,zLy,↓reduceIte,reduceCtorEq,Nat.reduceEqDiff,Nat.reduceLT,Nat.reduceLeDiff,Nat.reduceAdd,Nat.reduceMul,Nat.reduceSub,Nat.reduceBEq,Int.reduceToNat,cond_true,cond_false,eq_self,beq_self_eq_true,fa,fb,fa',fb',zFx wf,zGy wf,zBw wf,zFy wf,zAy wf,zAx,tEvD12,zIx,zIy,zIz,zHv,zFv,zAv wf];first|(refine zCx (Q:=Q_) (fun hp_=>?_) (fun hp_=>?_) <;> first|(exfalso;omega)|(refine hQ_ _ _ ?_;clear hQ_ Q_))|(refine zBx (Q:=Q_) (fun hp_=>?_) (fun hp_=>?_) <;> first|(exfalso;omega)|(refine hQ_ _ _ ?_;clear hQ_ Q_))|(refine hQ_ _ _ ?_;clear hQ_ Q_)|(refine zRv (numbers T k x.t x.s (by omega) (by omega) _ (wf.X (Nat.le_add_right _ _))) ?_;refine hQ_ _ _ ?_;clear hQ_ Q_)|(refine zRv ((refFric a b re cf _ _ (y.up _ _ (by simp only [List.length_append,List.length_cons,List.length_nil];omega)) kl).trans (by rw [if_pos h1,decide_eq_true h1])) ?_;refine hQ_ _ _ ?_;clear hQ_ Q_)|(refine zRv ((refFric a b re cf _ _ (y.up _ _ (by simp only [List.length_append,List.length_cons,List.length_nil];omega)) kl).trans (by rw [if_neg h2,decide_eq_false h2])) ?_;refine hQ_ _ _ ?_;clear hQ_ Q_)))
  | (refine zHx fun K_ hK_=>?_;simp (disch:=omega) only [zGz,zAz,zHw,↓reduceIte,reduceCtorEq,Nat.reduceEqDiff,Nat.reduceLT];refine hK_ _ ?_;clear hK_ K_)))
      (refine zKz _ _ rfl (ret2 (by decide) (by decide)) ?_;simp only [zAz,↓reduceIte,reduceCtorEq,Nat.reduceEqDiff];refine zKw rfl (by omega) ?_)
      exact ⟨rfl,rfl⟩
  · have hi : ¬ inR T re x:=fun q=>h1 q.1
    rw [if_neg hi,decide_eq_false hi]
    by_cases h2:has re (sh T x.s)
    · (repeat' (first
  | (with_reducible first|refine zJw ?_|refine zHz ?_|refine zEv ?_|refine zEw ?_|refine zFz ?_|refine zJv ?_|refine zHy ?_|refine zBv ?_|refine zDx ?_|refine zCz ?_|refine zCw ?_|refine zEy ?_|refine zCv ?_|refine zCy ?_|refine zBy ?_|refine zDv ?_|refine zEz ?_|refine zAw ?_|refine zBz ?_)
  | refine zDz ?_|refine zEx rfl ?_|refine zJy ?_|refine zJx ?_
  | ((first|refine zGv rfl rfl rfl rfl rfl fun K_ hK_=>?_|refine zGw rfl rfl rfl rfl rfl fun K_ hK_=>?_);simp only [zAz,zDy,zGx,↓reduceIte,reduceCtorEq,Nat.reduceEqDiff,Bool.not_true,Bool.not_false];refine hK_ _ ?_;clear hK_ K_)
  | refine zDw (by decide) ?_
  | ((try first|refine zKy rfl rfl rfl ?_|refine zJz rfl rfl ?_|refine zKx rfl rfl rfl ?_|refine zIv rfl rfl ?_);(refine zIw fun Q_ hQ_=>?_;simp (disch:=first|omega|(simp only [List.length_cons,List.length_nil,List.length_append];omega)) only [bb,bp,zLy,↓reduceIte,reduceCtorEq,Nat.reduceEqDiff,Nat.reduceLT,Nat.reduceLeDiff,Nat.reduceAdd,Nat.reduceMul,Nat.reduceSub,Nat.reduceBEq,Int.reduceToNat,cond_true,cond_false,eq_self,beq_self_eq_true,fa,fb,fa',fb',zFx wf,zGy wf,zBw wf,zFy wf,zAy wf,zAx,tEvD12,zIx,zIy,zIz,zHv,zFv,zAv wf];first|(refine zCx (Q:=Q_) (fun hp_=>?_) (fun hp_=>?_) <;> first|(exfalso;omega)|(refine hQ_ _ _ ?_;clear hQ_ Q_))|(refine zBx (Q:=Q_) (fun hp_=>?_) (fun hp_=>?_) <;> first|(exfalso;omega)|(refine hQ_ _ _ ?_;clear hQ_ Q_))|(refine hQ_ _ _ ?_;clear hQ_ Q_)|(refine zRv (numbers T k x.t x.s (by omega) (by omega) _ (wf.X (Nat.le_add_right _ _))) ?_;refine hQ_ _ _ ?_;clear hQ_ Q_)|(refine zRv ((refFric a b re cf _ _ (y.up _ _ (by simp only [List.length_append,List.length_cons,List.length_nil];omega)) kl).trans (by rw [if_neg h1,decide_eq_false h1])) ?_;refine hQ_ _ _ ?_;clear hQ_ Q_)|(refine zRv ((refFric a b re cf _ _ (y.up _ _ (by simp only [List.length_append,List.length_cons,List.length_nil];omega)) kl).trans (by rw [if_pos h2,decide_eq_true h2])) ?_;refine hQ_ _ _ ?_;clear hQ_ Q_)))
  | (refine zHx fun K_ hK_=>?_;simp (disch:=omega) only [zGz,zAz,zHw,↓reduceIte,reduceCtorEq,Nat.reduceEqDiff,Nat.reduceLT];refine hK_ _ ?_;clear hK_ K_)))
      (refine zKz _ _ rfl (ret2 (by decide) (by decide)) ?_;simp only [zAz,↓reduceIte,reduceCtorEq,Nat.reduceEqDiff];refine zKw rfl (by omega) ?_)
      exact ⟨rfl,rfl⟩
    · (repeat' (first
  | (with_reducible first|refine zJw ?_|refine zHz ?_|refine zEv ?_|refine zEw ?_|refine zFz ?_|refine zJv ?_|refine zHy ?_|refine zBv ?_|refine zDx ?_|refine zCz ?_|refine zCw ?_|refine zEy ?_|refine zCv ?_|refine zCy ?_|refine zBy ?_|refine zDv ?_|refine zEz ?_|refine zAw ?_|refine zBz ?_)
  | refine zDz ?_|refine zEx rfl ?_|refine zJy ?_|refine zJx ?_
  | ((first|refine zGv rfl rfl rfl rfl rfl fun K_ hK_=>?_|refine zGw rfl rfl rfl rfl rfl fun K_ hK_=>?_);simp only [zAz,zDy,zGx,↓reduceIte,reduceCtorEq,Nat.reduceEqDiff,Bool.not_true,Bool.not_false];refine hK_ _ ?_;clear hK_ K_)
  | refine zDw (by decide) ?_
  | ((try first|refine zKy rfl rfl rfl ?_|refine zJz rfl rfl ?_|refine zKx rfl rfl rfl ?_|refine zIv rfl rfl ?_);(refine zIw fun Q_ hQ_=>?_;simp (disch:=first|omega|(simp only [List.length_cons,List.length_nil,List.length_append];omega)) only [bb,bp,zLy,↓reduceIte,reduceCtorEq,Nat.reduceEqDiff,Nat.reduceLT,Nat.reduceLeDiff,Nat.reduceAdd,Nat.reduceMul,Nat.reduceSub,Nat.reduceBEq,Int.reduceToNat,cond_true,cond_false,eq_self,beq_self_eq_true,fa,fb,fa',fb',zFx wf,zGy wf,zBw wf,zFy wf,zAy wf,zAx,tEvD12,zIx,zIy,zIz,zHv,zFv,zAv wf];first|(refine zCx (Q:=Q_) (fun hp_=>?_) (fun hp_=>?_) <;> first|(exfalso;omega)|(refine hQ_ _ _ ?_;clear hQ_ Q_))|(refine zBx (Q:=Q_) (fun hp_=>?_) (fun hp_=>?_) <;> first|(exfalso;omega)|(refine hQ_ _ _ ?_;clear hQ_ Q_))|(refine hQ_ _ _ ?_;clear hQ_ Q_)|(refine zRv (numbers T k x.t x.s (by omega) (by omega) _ (wf.X (Nat.le_add_right _ _))) ?_;refine hQ_ _ _ ?_;clear hQ_ Q_)|(refine zRv ((refFric a b re cf _ _ (y.up _ _ (by simp only [List.length_append,List.length_cons,List.length_nil];omega)) kl).trans (by rw [if_neg h1,decide_eq_false h1])) ?_;refine hQ_ _ _ ?_;clear hQ_ Q_)|(refine zRv ((refFric a b re cf _ _ (y.up _ _ (by simp only [List.length_append,List.length_cons,List.length_nil];omega)) kl).trans (by rw [if_neg h2,decide_eq_false h2])) ?_;refine hQ_ _ _ ?_;clear hQ_ Q_)))
  | (refine zHx fun K_ hK_=>?_;simp (disch:=omega) only [zGz,zAz,zHw,↓reduceIte,reduceCtorEq,Nat.reduceEqDiff,Nat.reduceLT];refine hK_ _ ?_;clear hK_ K_)))
      (refine zKz _ _ rfl (ret2 (by decide) (by decide)) ?_;simp only [zAz,↓reduceIte,reduceCtorEq,Nat.reduceEqDiff];refine zKw rfl (by omega) ?_)
      exact ⟨rfl,rfl⟩

end Go.Proofs.Ythaleckfgcgegaa
end

section
namespace Go.Proofs.Ythaleckfgcgegaa
open Go.Ev
set_option maxRecDepth 100000
set_option linter.unusedSimpArgs false
set_option linter.unusedVariables false
set_option maxHeartbeats 2000000
theorem tEvD21 :type_of% (And.intro (And.intro (And.intro (And.intro (And.intro (And.intro (And.intro (@yWz) (@yVv)) (And.intro (@yVw) (And.intro (@yVx) (@yVy)))) (And.intro (And.intro (@yVz) (And.intro (@yUv) (@yUw))) (And.intro (@zVy) (And.intro (@ia_2) (@sz_2))))) (And.intro (And.intro (And.intro (@ia_3) (@sz_3)) (And.intro (@ia_4) (And.intro (@sz_4) (@yUx)))) (And.intro (And.intro (@yDw) (And.intro (@yUy) (@yDx))) (And.intro (@yUz) (And.intro (@yDy) (@yTv)))))) (And.intro (And.intro (And.intro (And.intro (@zWw) (@yTw)) (And.intro (@yDz) (And.intro (@yTx) (@yCv)))) (And.intro (And.intro (@yTy) (And.intro (@yCw) (@yTz))) (And.intro (@yCx) (And.intro (@ySv) (@yCy))))) (And.intro (And.intro (And.intro (@ySw) (And.intro (@yCz) (@ySx))) (And.intro (@zXz) (And.intro (@ySy) (@yBv)))) (And.intro (And.intro (@ySz) (And.intro (@yBw) (@yRv))) (And.intro (@yBx) (And.intro (@yRw) (@yBy))))))) (And.intro (And.intro (And.intro (And.intro (And.intro (@yRx) (@yBz)) (And.intro (@yRy) (And.intro (@yAv) (@yRz)))) (And.intro (And.intro (@yAw) (And.intro (@yQv) (@yAx))) (And.intro (@yQw) (And.intro (@yAy) (@yQx))))) (And.intro (And.intro (And.intro (@yAz) (@zVz)) (And.intro (@zTw) (And.intro (@zUv) (@zTx)))) (And.intro (And.intro (@zUw) (And.intro (@zTy) (@zUx))) (And.intro (@zTz) (And.intro (@zUy) (@zSv)))))) (And.intro (And.intro (And.intro (And.intro (@zUz) (@zSw)) (And.intro (@zTv) (And.intro (@zSx) (@ze_2)))) (And.intro (And.intro (@ze_3) (And.intro (@ze_4) (@zZv))) (And.intro (@zZw) (And.intro (@zZx) (@zZy))))) (And.intro (And.intro (And.intro (@zZz) (And.intro (@zYv) (@xDx))) (And.intro (@zYw) (And.intro (@zYx) (@zYy)))) (And.intro (And.intro (@zSy) (And.intro (@zRx) (@zRy))) (And.intro (@zRz) (And.intro (@zQv) (@zQw)))))))) (And.intro (And.intro (And.intro (And.intro (And.intro (And.intro (@zQx) (@zQy)) (And.intro (@zQz) (And.intro (@zPv) (@zPw)))) (And.intro (And.intro (@zPx) (And.intro (@zPy) (@zPz))) (And.intro (@zOv) (And.intro (@zOw) (@zOx))))) (And.intro (And.intro (And.intro (@zOy) (@zOz)) (And.intro (@zNv) (And.intro (@zNw) (@zNx)))) (And.intro (And.intro (@zNy) (And.intro (@zNz) (@zMv))) (And.intro (@zMw) (And.intro (@zMx) (@zMy)))))) (And.intro (And.intro (And.intro (And.intro (@zMz) (@yQy)) (And.intro (@yQz) (And.intro (@yPv) (@yPw)))) (And.intro (And.intro (@yPx) (And.intro (@yPy) (@yPz))) (And.intro (@yOv) (And.intro (@yOw) (@yOx))))) (And.intro (And.intro (And.intro (@yOy) (And.intro (@yOz) (@yNv))) (And.intro (@yNw) (And.intro (@yNx) (@yNy)))) (And.intro (And.intro (@yNz) (And.intro (@yMv) (@yMw))) (And.intro (@yMx) (And.intro (@yMy) (@yMz))))))) (And.intro (And.intro (And.intro (And.intro (And.intro (@yLv) (@yLw)) (And.intro (@yLx) (And.intro (@yLy) (@yLz)))) (And.intro (And.intro (@yKv) (And.intro (@yKw) (@yKx))) (And.intro (@yKy) (And.intro (@yKz) (@yJv))))) (And.intro (And.intro (And.intro (@yJw) (@yJx)) (And.intro (@yJy) (And.intro (@yJz) (@yIv)))) (And.intro (And.intro (@yIw) (And.intro (@yIx) (@yIy))) (And.intro (@yIz) (And.intro (@yHv) (@yHw)))))) (And.intro (And.intro (And.intro (And.intro (@yHx) (@yHy)) (And.intro (@yHz) (And.intro (@yGv) (@yGw)))) (And.intro (And.intro (@yGx) (And.intro (@zYz) (@zXv))) (And.intro (@yGy) (And.intro (@yGz) (@yFv))))) (And.intro (And.intro (And.intro (@yFw) (And.intro (@yFx) (@yFy))) (And.intro (@yFz) (And.intro (@yEv) (@yEw)))) (And.intro (And.intro (@yEx) (And.intro (@yEy) (@zXw))) (And.intro (@yEz) (And.intro (@yDv) (@zXx))))))))):=And.intro (And.intro (And.intro (And.intro (And.intro (And.intro (And.intro (@yWz) (@yVv)) (And.intro (@yVw) (And.intro (@yVx) (@yVy)))) (And.intro (And.intro (@yVz) (And.intro (@yUv) (@yUw))) (And.intro (@zVy) (And.intro (@ia_2) (@sz_2))))) (And.intro (And.intro (And.intro (@ia_3) (@sz_3)) (And.intro (@ia_4) (And.intro (@sz_4) (@yUx)))) (And.intro (And.intro (@yDw) (And.intro (@yUy) (@yDx))) (And.intro (@yUz) (And.intro (@yDy) (@yTv)))))) (And.intro (And.intro (And.intro (And.intro (@zWw) (@yTw)) (And.intro (@yDz) (And.intro (@yTx) (@yCv)))) (And.intro (And.intro (@yTy) (And.intro (@yCw) (@yTz))) (And.intro (@yCx) (And.intro (@ySv) (@yCy))))) (And.intro (And.intro (And.intro (@ySw) (And.intro (@yCz) (@ySx))) (And.intro (@zXz) (And.intro (@ySy) (@yBv)))) (And.intro (And.intro (@ySz) (And.intro (@yBw) (@yRv))) (And.intro (@yBx) (And.intro (@yRw) (@yBy))))))) (And.intro (And.intro (And.intro (And.intro (And.intro (@yRx) (@yBz)) (And.intro (@yRy) (And.intro (@yAv) (@yRz)))) (And.intro (And.intro (@yAw) (And.intro (@yQv) (@yAx))) (And.intro (@yQw) (And.intro (@yAy) (@yQx))))) (And.intro (And.intro (And.intro (@yAz) (@zVz)) (And.intro (@zTw) (And.intro (@zUv) (@zTx)))) (And.intro (And.intro (@zUw) (And.intro (@zTy) (@zUx))) (And.intro (@zTz) (And.intro (@zUy) (@zSv)))))) (And.intro (And.intro (And.intro (And.intro (@zUz) (@zSw)) (And.intro (@zTv) (And.intro (@zSx) (@ze_2)))) (And.intro (And.intro (@ze_3) (And.intro (@ze_4) (@zZv))) (And.intro (@zZw) (And.intro (@zZx) (@zZy))))) (And.intro (And.intro (And.intro (@zZz) (And.intro (@zYv) (@xDx))) (And.intro (@zYw) (And.intro (@zYx) (@zYy)))) (And.intro (And.intro (@zSy) (And.intro (@zRx) (@zRy))) (And.intro (@zRz) (And.intro (@zQv) (@zQw)))))))) (And.intro (And.intro (And.intro (And.intro (And.intro (And.intro (@zQx) (@zQy)) (And.intro (@zQz) (And.intro (@zPv) (@zPw)))) (And.intro (And.intro (@zPx) (And.intro (@zPy) (@zPz))) (And.intro (@zOv) (And.intro (@zOw) (@zOx))))) (And.intro (And.intro (And.intro (@zOy) (@zOz)) (And.intro (@zNv) (And.intro (@zNw) (@zNx)))) (And.intro (And.intro (@zNy) (And.intro (@zNz) (@zMv))) (And.intro (@zMw) (And.intro (@zMx) (@zMy)))))) (And.intro (And.intro (And.intro (And.intro (@zMz) (@yQy)) (And.intro (@yQz) (And.intro (@yPv) (@yPw)))) (And.intro (And.intro (@yPx) (And.intro (@yPy) (@yPz))) (And.intro (@yOv) (And.intro (@yOw) (@yOx))))) (And.intro (And.intro (And.intro (@yOy) (And.intro (@yOz) (@yNv))) (And.intro (@yNw) (And.intro (@yNx) (@yNy)))) (And.intro (And.intro (@yNz) (And.intro (@yMv) (@yMw))) (And.intro (@yMx) (And.intro (@yMy) (@yMz))))))) (And.intro (And.intro (And.intro (And.intro (And.intro (@yLv) (@yLw)) (And.intro (@yLx) (And.intro (@yLy) (@yLz)))) (And.intro (And.intro (@yKv) (And.intro (@yKw) (@yKx))) (And.intro (@yKy) (And.intro (@yKz) (@yJv))))) (And.intro (And.intro (And.intro (@yJw) (@yJx)) (And.intro (@yJy) (And.intro (@yJz) (@yIv)))) (And.intro (And.intro (@yIw) (And.intro (@yIx) (@yIy))) (And.intro (@yIz) (And.intro (@yHv) (@yHw)))))) (And.intro (And.intro (And.intro (And.intro (@yHx) (@yHy)) (And.intro (@yHz) (And.intro (@yGv) (@yGw)))) (And.intro (And.intro (@yGx) (And.intro (@zYz) (@zXv))) (And.intro (@yGy) (And.intro (@yGz) (@yFv))))) (And.intro (And.intro (And.intro (@yFw) (And.intro (@yFx) (@yFy))) (And.intro (@yFz) (And.intro (@yEv) (@yEw)))) (And.intro (And.intro (@yEx) (And.intro (@yEy) (@zXw))) (And.intro (@yEz) (And.intro (@yDv) (@zXx))))))))
theorem coef_mono {T:Te} (k:okT T) {re cf:List Int} (kl:okL re cf) (hin:inAll T re) {x y:Tr} (kx:isT T x) (ky:isT T y) (ho:x.o=y.o) (hf:x.f≤y.f) (ht:y.t≤x.t) (hs:x.s≤y.s) (hb:y.b≤x.b) (hr:x.r≤y.r):coef T re cf x≤coef T re cf y:=by
  have kf:=k.f
  have kt:=k.t
  have ks:=k.s
  have ko:=k.o
  have kb:=k.b
  have xf:=kx.f
  have yf:=ky.f
  have xt:=kx.t
  have yt:=ky.t
  have xs:=kx.s
  have ys:=ky.s
  have xo:=kx.o
  have xb:=kx.b
  have yb:=ky.b
  obtain ⟨ix1,ix2⟩:=xQx k hin kx
  obtain ⟨iy1,iy2⟩:=xQx k hin ky
  obtain ⟨-,-,-,-,p2,p3⟩:=k.prods
  have m1:meas T x.f≤meas T y.f:=by
    have:=Int.ediv_le_ediv (show 0<T.we * T.sp * T.sp by omega) (show 20000000000 * x.f≤20000000000 * y.f by omega)
    unfold meas;omega
  have m2:=meas_in k (f:=x.f) (by omega)
  have m3:meas T x.f * (1000 - x.b)≤meas T y.f * (1000 - y.b):=Int.mul_le_mul m1 (by omega) (by omega) (by omega)
  have m4:=Int.ediv_le_ediv (show (0:Int)<1000 by decide) m3
  have g1:=fr_mono kl ix1 iy1 (mo_anti k (by omega) ht)
  have g2:=fr_mono kl iy2 ix2 (sh_anti k (by omega) hs)
  have n1:(1000+y.o) * fr re cf (mo T y.t)≤(1000+x.o) * fr re cf (mo T x.t):=by rw [ho];exact Int.mul_le_mul_of_nonneg_left g1 (by omega)
  have n2:(1000+x.o) * fr re cf (sh T x.s)≤(1000+y.o) * fr re cf (sh T y.s):=by rw [ho];exact Int.mul_le_mul_of_nonneg_left g2 (by omega)
  have n3:=Int.ediv_le_ediv (show (0:Int)<1000 by decide) n1
  have n4:=Int.ediv_le_ediv (show (0:Int)<1000 by decide) n2
  unfold coef formed
  omega
theorem bst_ge {g:Nat→Int} : ∀ {n q:Nat},q<n→g q≤bst true g n
  | 1,0,_=>by rw [xKw];exact Int.le_refl _
  | n+2,q,h=>by
    rw [bst_hi (by omega)]
    by_cases e:q=n+1
    · rw [e];omega
    · have:=bst_ge (g:=g) (n:=n+1) (q:=q) (by omega);omega
theorem bst_le {g:Nat→Int} : ∀ {n q:Nat},q<n→bst false g n≤g q
  | 1,0,_=>by rw [xKw];exact Int.le_refl _
  | n+2,q,h=>by
    rw [bst_lo (by omega)]
    by_cases e:q=n+1
    · rw [e];omega
    · have:=bst_le (g:=g) (n:=n+1) (q:=q) (by omega);omega
theorem bst_att {high:Bool} {g:Nat→Int} : ∀ {n:Nat},0<n → ∃ q,q<n∧bst high g n=g q
  | 1,_=>⟨0,by omega,xKw⟩
  | n+2,_=>by
    obtain ⟨q,hq,e⟩:=bst_att (high:=high) (g:=g) (n:=n+1) (by omega)
    cases high
    · rw [bst_lo (by omega)]
      rcases Int.le_total (bst false g (n+1)) (g (n+1)) with h|h
      · exact ⟨q,by omega,by omega⟩
      · exact ⟨n+1,by omega,by omega⟩
    · rw [bst_hi (by omega)]
      rcases Int.le_total (bst true g (n+1)) (g (n+1)) with h|h
      · exact ⟨n+1,by omega,by omega⟩
      · exact ⟨q,by omega,by omega⟩
theorem cnt_pos (T:Te):0<cnt T:=by unfold cnt;omega
theorem endv_att {T:Te} (k:okT T) (re cf:List Int) (high:Bool) : ∃ o,(T.o0≤o∧o≤T.o1)∧endv T re cf high=coef T re cf (cand T high o):=by
  have ko:=k.o
  obtain ⟨q,hq,e⟩:=bst_att (high:=high) (g:=cg T re cf high) (cnt_pos T)
  exact ⟨T.o0+q,by unfold cnt at hq;omega,e⟩
theorem endv_box {T:Te} (k:okT T) {re cf:List Int} (kl:okL re cf) (hin:inAll T re) {x:Tr} (kx:isT T x):endv T re cf false≤coef T re cf x∧coef T re cf x≤endv T re cf true:=by
  have ko:=k.o
  have xo:=kx.o
  have hq:(x.o - T.o0).toNat<cnt T:=by unfold cnt;omega
  have e:T.o0+((x.o - T.o0).toNat:Int)=x.o:=by omega
  have h1:=bst_le (g:=cg T re cf false) hq
  have h2:=bst_ge (g:=cg T re cf true) hq
  unfold cg at h1 h2
  rw [e] at h1 h2
  have c1:=coef_mono k kl hin (xRx k false xo) kx rfl kx.f.1 kx.t.2 kx.s.1 kx.b.2 kx.r.1
  have c2:=coef_mono k kl hin kx (xRx k true xo) rfl kx.f.2 kx.t.1 kx.s.2 kx.b.1 kx.r.2
  exact ⟨Int.le_trans h1 c1,Int.le_trans c2 h2⟩
theorem span_box {T:Te} (k:okT T) {ls:List Ln} (hk:okLs ls) (hr:rk T ls) {l:Ln} (hl:l ∈ ls) {x:Tr} (kx:isT T x):spanV T ls false≤coef T l.re l.cf x∧coef T l.re l.cf x≤spanV T ls true:=by
  obtain ⟨i,hi,rfl⟩:=List.getElem_of_mem hl
  have h1:=bst_le (g:=lineV T ls false) hi
  have h2:=bst_ge (g:=lineV T ls true) hi
  rw [wBv hi] at h1 h2
  obtain ⟨h3,h4⟩:=endv_box k (hk.ok _ hl) (hr _ hl) kx
  exact ⟨Int.le_trans h1 h3,Int.le_trans h4 h2⟩
theorem wBw {T:Te} (k:okT T) {ls:List Ln} (hk:okLs ls) (high:Bool) : ∃ i,∃ hi:i<ls.length,∃ o,(T.o0≤o∧o≤T.o1)∧spanV T ls high=coef T ls[i].re ls[i].cf (cand T high o):=by
  obtain ⟨i,hi,e⟩:=bst_att (high:=high) (g:=lineV T ls high) (show 0<ls.length by have:=hk.n;omega)
  rw [wBv hi] at e
  obtain ⟨o,ho,e2⟩:=endv_att k ls[i].re ls[i].cf high
  exact ⟨i,hi,o,ho,e.trans e2⟩
structure Fine (T:Te) (ls:List Ln):Prop where
  g : ¬ Greater ls
  k:okT T
  l:okLs ls
  r:rk T ls
def pk (lo hi by':Int):Int:=lo+by'.tmod (hi - lo+1)
theorem pick (lo hi n:Int) (h1:0≤lo∧lo≤hi∧hi≤1000000000) (hn:0≤n∧n≤4294967295) (h:H) (wf:Wf h):(om Try.prog KK).call (.fn 65 [.agg [ii lo,ii hi],.int .u32 n]) h = .ok (ii (pk lo hi n)) h:=by
  have hm:=tmod_in (a:=n) (m:=hi - lo+1) hn.1 (by omega)
  have hz:hi - lo+1≠0:=by omega
  unfold pk
  refine zWy (zLx (fn:=Try.f65) Try.func65 rfl rfl rfl rfl rfl ?_)
  simp only [zLy]
  (repeat' (first
  | (with_reducible first|refine zJw ?_|refine zHz ?_|refine zEv ?_|refine zEw ?_|refine zFz ?_|refine zJv ?_|refine zHy ?_|refine zBv ?_|refine zDx ?_|refine zCz ?_|refine zCw ?_|refine zEy ?_|refine zCv ?_|refine zCy ?_|refine zBy ?_|refine zDv ?_|refine zEz ?_|refine zAw ?_|refine zBz ?_)
  | refine zDz ?_|refine zEx rfl ?_|refine zJy ?_|refine zJx ?_
  | ((first|refine zGv rfl rfl rfl rfl rfl fun K_ hK_=>?_|refine zGw rfl rfl rfl rfl rfl fun K_ hK_=>?_);simp only [zAz,zDy,zGx,↓reduceIte,reduceCtorEq,Nat.reduceEqDiff,Bool.not_true,Bool.not_false];refine hK_ _ ?_;clear hK_ K_)
  | refine zDw (by decide) ?_
  | ((try first|refine zKy rfl rfl rfl ?_|refine zJz rfl rfl ?_|refine zKx rfl rfl rfl ?_|refine zIv rfl rfl ?_);(refine zIw fun Q_ hQ_=>?_;simp (disch:=first|omega|(simp only [List.length_cons,List.length_nil,List.length_append];omega)) only [bb,bp,zLy,↓reduceIte,reduceCtorEq,Nat.reduceEqDiff,Nat.reduceLT,Nat.reduceLeDiff,Nat.reduceAdd,Nat.reduceMul,Nat.reduceSub,Nat.reduceBEq,Int.reduceToNat,cond_true,cond_false,eq_self,beq_self_eq_true,zFx wf,zGy wf,zBw wf,zFy wf,zAy wf,zAx,tEvD21,zIx,zIy,zIz,zHv,zFv,zAv wf];first|(refine zCx (Q:=Q_) (fun hp_=>?_) (fun hp_=>?_) <;> first|(exfalso;omega)|(refine hQ_ _ _ ?_;clear hQ_ Q_))|(refine zBx (Q:=Q_) (fun hp_=>?_) (fun hp_=>?_) <;> first|(exfalso;omega)|(refine hQ_ _ _ ?_;clear hQ_ Q_))|(refine hQ_ _ _ ?_;clear hQ_ Q_)))
  | (refine zHx fun K_ hK_=>?_;simp (disch:=omega) only [zGz,zAz,zHw,↓reduceIte,reduceCtorEq,Nat.reduceEqDiff,Nat.reduceLT];refine hK_ _ ?_;clear hK_ K_)))
  refine zLv (List.replicate 11 .no++[.full,.full]) (by kernel_rfl) ?_
  (repeat' (first
  | (with_reducible first|refine zJw ?_|refine zHz ?_|refine zEv ?_|refine zEw ?_|refine zFz ?_|refine zJv ?_|refine zHy ?_|refine zBv ?_|refine zDx ?_|refine zCz ?_|refine zCw ?_|refine zEy ?_|refine zCv ?_|refine zCy ?_|refine zBy ?_|refine zDv ?_|refine zEz ?_|refine zAw ?_|refine zBz ?_)
  | refine zDz ?_|refine zEx rfl ?_|refine zJy ?_|refine zJx ?_
  | ((first|refine zGv rfl rfl rfl rfl rfl fun K_ hK_=>?_|refine zGw rfl rfl rfl rfl rfl fun K_ hK_=>?_);simp only [zAz,zDy,zGx,↓reduceIte,reduceCtorEq,Nat.reduceEqDiff,Bool.not_true,Bool.not_false];refine hK_ _ ?_;clear hK_ K_)
  | refine zDw (by decide) ?_
  | ((try first|refine zKy rfl rfl rfl ?_|refine zJz rfl rfl ?_|refine zKx rfl rfl rfl ?_|refine zIv rfl rfl ?_);(refine zIw fun Q_ hQ_=>?_;simp (disch:=first|omega|(simp only [List.length_cons,List.length_nil,List.length_append];omega)) only [bb,bp,zLy,↓reduceIte,reduceCtorEq,Nat.reduceEqDiff,Nat.reduceLT,Nat.reduceLeDiff,Nat.reduceAdd,Nat.reduceMul,Nat.reduceSub,Nat.reduceBEq,Int.reduceToNat,cond_true,cond_false,eq_self,beq_self_eq_true,conv_u32 hn,b_rem hz,zFx wf,zGy wf,zBw wf,zFy wf,zAy wf,zAx,tEvD21,zIx,zIy,zIz,zHv,zFv,zAv wf];first|(refine zCx (Q:=Q_) (fun hp_=>?_) (fun hp_=>?_) <;> first|(exfalso;omega)|(refine hQ_ _ _ ?_;clear hQ_ Q_))|(refine zBx (Q:=Q_) (fun hp_=>?_) (fun hp_=>?_) <;> first|(exfalso;omega)|(refine hQ_ _ _ ?_;clear hQ_ Q_))|(refine hQ_ _ _ ?_;clear hQ_ Q_)))
  | (refine zHx fun K_ hK_=>?_;simp (disch:=omega) only [zGz,zAz,zHw,↓reduceIte,reduceCtorEq,Nat.reduceEqDiff,Nat.reduceLT];refine hK_ _ ?_;clear hK_ K_)))
  (refine zKz _ _ rfl (ret1 (by decide)) ?_;simp only [zAz,↓reduceIte,reduceCtorEq,Nat.reduceEqDiff];refine zKw rfl (by omega) ?_)
  exact ⟨rfl,rfl⟩
def pkT (T:Te) (x:Tr):Tr:=⟨pk T.f0 T.f1 x.f,pk T.t0 T.t1 x.t,pk T.s0 T.s1 x.s,pk T.o0 T.o1 x.o,pk T.b0 T.b1 x.b,pk T.r0 T.r1 x.r⟩
structure U6 (x:Tr):Prop where
  f:0≤x.f∧x.f≤4294967295
  t:0≤x.t∧x.t≤4294967295
  s:0≤x.s∧x.s≤4294967295
  o:0≤x.o∧x.o≤4294967295
  b:0≤x.b∧x.b≤4294967295
  r:0≤x.r∧x.r≤4294967295
end Go.Proofs.Ythaleckfgcgegaa
end
