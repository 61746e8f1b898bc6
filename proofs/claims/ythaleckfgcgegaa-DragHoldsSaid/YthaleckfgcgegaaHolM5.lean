import Derived.Test.YthaleckfgcgegaaHolM4
set_option linter.all false
section
namespace Go.Proofs.Ythaleckfgcgegaa
open Go.Ev
set_option maxRecDepth 100000
set_option linter.unusedSimpArgs false
set_option linter.unusedVariables false
set_option maxHeartbeats 2000000
theorem tEvD15 :type_of% (And.intro (And.intro (And.intro (And.intro (And.intro (And.intro (And.intro (@yWz) (@yVv)) (And.intro (@yVw) (And.intro (@yVx) (@yVy)))) (And.intro (And.intro (@yVz) (And.intro (@yUv) (@yUw))) (And.intro (@zVy) (And.intro (@ia_2) (@sz_2))))) (And.intro (And.intro (And.intro (@ia_3) (@sz_3)) (And.intro (@ia_4) (And.intro (@sz_4) (@yUx)))) (And.intro (And.intro (@yDw) (And.intro (@yUy) (@yDx))) (And.intro (@yUz) (And.intro (@yDy) (@yTv)))))) (And.intro (And.intro (And.intro (And.intro (@zWw) (@yTw)) (And.intro (@yDz) (And.intro (@yTx) (@yCv)))) (And.intro (And.intro (@yTy) (And.intro (@yCw) (@yTz))) (And.intro (@yCx) (And.intro (@ySv) (@yCy))))) (And.intro (And.intro (And.intro (@ySw) (@yCz)) (And.intro (@ySx) (And.intro (@zXz) (@ySy)))) (And.intro (And.intro (@yBv) (And.intro (@ySz) (@yBw))) (And.intro (@yRv) (And.intro (@yBx) (@yRw))))))) (And.intro (And.intro (And.intro (And.intro (And.intro (@yBy) (@yRx)) (And.intro (@yBz) (And.intro (@yRy) (@yAv)))) (And.intro (And.intro (@yRz) (And.intro (@yAw) (@yQv))) (And.intro (@yAx) (And.intro (@yQw) (@yAy))))) (And.intro (And.intro (And.intro (@yQx) (@yAz)) (And.intro (@zVz) (And.intro (@zTw) (@zUv)))) (And.intro (And.intro (@zTx) (And.intro (@zUw) (@zTy))) (And.intro (@zUx) (And.intro (@zTz) (@zUy)))))) (And.intro (And.intro (And.intro (And.intro (@zSv) (@zUz)) (And.intro (@zSw) (And.intro (@zTv) (@zSx)))) (And.intro (And.intro (@ze_2) (And.intro (@ze_3) (@ze_4))) (And.intro (@zZv) (And.intro (@zZw) (@zZx))))) (And.intro (And.intro (And.intro (@zZy) (And.intro (@zZz) (@zYv))) (And.intro (@zYw) (And.intro (@zYx) (@zYy)))) (And.intro (And.intro (@zSy) (And.intro (@zRx) (@zRy))) (And.intro (@zRz) (And.intro (@zQv) (@zQw)))))))) (And.intro (And.intro (And.intro (And.intro (And.intro (And.intro (@zQx) (@zQy)) (And.intro (@zQz) (And.intro (@zPv) (@zPw)))) (And.intro (And.intro (@zPx) (And.intro (@zPy) (@zPz))) (And.intro (@zOv) (And.intro (@zOw) (@zOx))))) (And.intro (And.intro (And.intro (@zOy) (@zOz)) (And.intro (@zNv) (And.intro (@zNw) (@zNx)))) (And.intro (And.intro (@zNy) (And.intro (@zNz) (@zMv))) (And.intro (@zMw) (And.intro (@zMx) (@zMy)))))) (And.intro (And.intro (And.intro (And.intro (@zMz) (@yQy)) (And.intro (@yQz) (And.intro (@yPv) (@yPw)))) (And.intro (And.intro (@yPx) (And.intro (@yPy) (@yPz))) (And.intro (@yOv) (And.intro (@yOw) (@yOx))))) (And.intro (And.intro (And.intro (@yOy) (And.intro (@yOz) (@yNv))) (And.intro (@yNw) (And.intro (@yNx) (@yNy)))) (And.intro (And.intro (@yNz) (And.intro (@yMv) (@yMw))) (And.intro (@yMx) (And.intro (@yMy) (@yMz))))))) (And.intro (And.intro (And.intro (And.intro (And.intro (@yLv) (@yLw)) (And.intro (@yLx) (And.intro (@yLy) (@yLz)))) (And.intro (And.intro (@yKv) (And.intro (@yKw) (@yKx))) (And.intro (@yKy) (And.intro (@yKz) (@yJv))))) (And.intro (And.intro (And.intro (@yJw) (@yJx)) (And.intro (@yJy) (And.intro (@yJz) (@yIv)))) (And.intro (And.intro (@yIw) (And.intro (@yIx) (@yIy))) (And.intro (@yIz) (And.intro (@yHv) (@yHw)))))) (And.intro (And.intro (And.intro (And.intro (@yHx) (@yHy)) (And.intro (@yHz) (And.intro (@yGv) (@yGw)))) (And.intro (And.intro (@yGx) (And.intro (@zYz) (@zXv))) (And.intro (@yGy) (And.intro (@yGz) (@yFv))))) (And.intro (And.intro (And.intro (@yFw) (And.intro (@yFx) (@yFy))) (And.intro (@yFz) (And.intro (@yEv) (@yEw)))) (And.intro (And.intro (@yEx) (And.intro (@yEy) (@zXw))) (And.intro (@yEz) (And.intro (@yDv) (@zXx))))))))):=And.intro (And.intro (And.intro (And.intro (And.intro (And.intro (And.intro (@yWz) (@yVv)) (And.intro (@yVw) (And.intro (@yVx) (@yVy)))) (And.intro (And.intro (@yVz) (And.intro (@yUv) (@yUw))) (And.intro (@zVy) (And.intro (@ia_2) (@sz_2))))) (And.intro (And.intro (And.intro (@ia_3) (@sz_3)) (And.intro (@ia_4) (And.intro (@sz_4) (@yUx)))) (And.intro (And.intro (@yDw) (And.intro (@yUy) (@yDx))) (And.intro (@yUz) (And.intro (@yDy) (@yTv)))))) (And.intro (And.intro (And.intro (And.intro (@zWw) (@yTw)) (And.intro (@yDz) (And.intro (@yTx) (@yCv)))) (And.intro (And.intro (@yTy) (And.intro (@yCw) (@yTz))) (And.intro (@yCx) (And.intro (@ySv) (@yCy))))) (And.intro (And.intro (And.intro (@ySw) (@yCz)) (And.intro (@ySx) (And.intro (@zXz) (@ySy)))) (And.intro (And.intro (@yBv) (And.intro (@ySz) (@yBw))) (And.intro (@yRv) (And.intro (@yBx) (@yRw))))))) (And.intro (And.intro (And.intro (And.intro (And.intro (@yBy) (@yRx)) (And.intro (@yBz) (And.intro (@yRy) (@yAv)))) (And.intro (And.intro (@yRz) (And.intro (@yAw) (@yQv))) (And.intro (@yAx) (And.intro (@yQw) (@yAy))))) (And.intro (And.intro (And.intro (@yQx) (@yAz)) (And.intro (@zVz) (And.intro (@zTw) (@zUv)))) (And.intro (And.intro (@zTx) (And.intro (@zUw) (@zTy))) (And.intro (@zUx) (And.intro (@zTz) (@zUy)))))) (And.intro (And.intro (And.intro (And.intro (@zSv) (@zUz)) (And.intro (@zSw) (And.intro (@zTv) (@zSx)))) (And.intro (And.intro (@ze_2) (And.intro (@ze_3) (@ze_4))) (And.intro (@zZv) (And.intro (@zZw) (@zZx))))) (And.intro (And.intro (And.intro (@zZy) (And.intro (@zZz) (@zYv))) (And.intro (@zYw) (And.intro (@zYx) (@zYy)))) (And.intro (And.intro (@zSy) (And.intro (@zRx) (@zRy))) (And.intro (@zRz) (And.intro (@zQv) (@zQw)))))))) (And.intro (And.intro (And.intro (And.intro (And.intro (And.intro (@zQx) (@zQy)) (And.intro (@zQz) (And.intro (@zPv) (@zPw)))) (And.intro (And.intro (@zPx) (And.intro (@zPy) (@zPz))) (And.intro (@zOv) (And.intro (@zOw) (@zOx))))) (And.intro (And.intro (And.intro (@zOy) (@zOz)) (And.intro (@zNv) (And.intro (@zNw) (@zNx)))) (And.intro (And.intro (@zNy) (And.intro (@zNz) (@zMv))) (And.intro (@zMw) (And.intro (@zMx) (@zMy)))))) (And.intro (And.intro (And.intro (And.intro (@zMz) (@yQy)) (And.intro (@yQz) (And.intro (@yPv) (@yPw)))) (And.intro (And.intro (@yPx) (And.intro (@yPy) (@yPz))) (And.intro (@yOv) (And.intro (@yOw) (@yOx))))) (And.intro (And.intro (And.intro (@yOy) (And.intro (@yOz) (@yNv))) (And.intro (@yNw) (And.intro (@yNx) (@yNy)))) (And.intro (And.intro (@yNz) (And.intro (@yMv) (@yMw))) (And.intro (@yMx) (And.intro (@yMy) (@yMz))))))) (And.intro (And.intro (And.intro (And.intro (And.intro (@yLv) (@yLw)) (And.intro (@yLx) (And.intro (@yLy) (@yLz)))) (And.intro (And.intro (@yKv) (And.intro (@yKw) (@yKx))) (And.intro (@yKy) (And.intro (@yKz) (@yJv))))) (And.intro (And.intro (And.intro (@yJw) (@yJx)) (And.intro (@yJy) (And.intro (@yJz) (@yIv)))) (And.intro (And.intro (@yIw) (And.intro (@yIx) (@yIy))) (And.intro (@yIz) (And.intro (@yHv) (@yHw)))))) (And.intro (And.intro (And.intro (And.intro (@yHx) (@yHy)) (And.intro (@yHz) (And.intro (@yGv) (@yGw)))) (And.intro (And.intro (@yGx) (And.intro (@zYz) (@zXv))) (And.intro (@yGy) (And.intro (@yGz) (@yFv))))) (And.intro (And.intro (And.intro (@yFw) (And.intro (@yFx) (@yFy))) (And.intro (@yFz) (And.intro (@yEv) (@yEw)))) (And.intro (And.intro (@yEx) (And.intro (@yEy) (@zXw))) (And.intro (@yEz) (And.intro (@yDv) (@zXx))))))))
structure Ln where
  (a b:AV) (re cf:List Int)
def lnC (l:Ln):List AV:=[l.a,l.b]
theorem xJv (l:Ln):(lnC l).length=2:=rfl
structure LinesR (h:H) (s:AV) (ls:List Ln):Prop where
  wf:Wf h
  sl:Sl h s 2 ls.length (ls.flatMap lnC)
  ln : ∀ l ∈ ls,LineR h l.a l.b l.re l.cf
theorem LinesR.up {h:H} {s:AV} {ls:List Ln} (x:LinesR h s ls) (l:List AO) (w:Nat) (hw:w≤h.clock+l.length):LinesR (X h l w) s ls:=⟨x.wf.X hw,x.sl.up x.wf l w,fun y hy=>(x.ln y hy).up l w hw⟩
theorem LinesR.at {h:H} {s:AV} {ls:List Ln} (x:LinesR h s ls) {t i:Nat} (hk:idxKind Try.prog t=some (none,2)) (hi:i<ls.length) : ∃ id off,indexAddrE Try.prog t s (.int .i64 (i:Int))=some (.ptr id off)∧(∀ J w,loadAgg id off (some 2) (X h J w)=some (.agg [ls[i].a,ls[i].b]))∧LineR h ls[i].a ls[i].b ls[i].re ls[i].cf:=by
  obtain ⟨id,off,h1,h2⟩:=x.sl.at x.wf hi hk
  refine ⟨id,off,h1,fun J w=>?_,x.ln _ (List.getElem_mem hi)⟩
  rw [(h2 J w).2,flat_at xJv hi];rfl
theorem LinesR.flat {h:H} {s:AV} {ls:List Ln} (x:LinesR h s ls):AV.cells s=[s]∧oneB s=true:=by
  rcases x.sl with ⟨_,⟨e,_⟩|⟨_,_,_,_,_,_,e,_⟩⟩ <;> rw [e] <;> exact ⟨rfl,rfl⟩
def firstErr :List Ln→Int
  | []=>0
  | l :: r=>if lineErr l.re l.cf=0 then firstErr r else lineErr l.re l.cf
theorem xGy : ∀ {ls:List Ln} {i:Nat},(∀ j (hj:j<ls.length),j<i→lineErr ls[j].re ls[j].cf=0)→firstErr ls=firstErr (ls.drop i)
  | [],i,_=>by rw [List.drop_nil]
  | l :: r,0,_=>rfl
  | l :: r,i+1,h=>by
    have h0:=h 0 (by simp) (by omega)
    rw [List.drop_succ_cons,← xGy (ls:=r) (i:=i) fun j hj hji=>h (j+1) (by simpa using hj) (by omega)]
    exact if_pos h0
theorem firstErr_at {ls:List Ln} {i:Nat} (hi:i<ls.length) (h : ∀ j (hj:j<ls.length),j<i→lineErr ls[j].re ls[j].cf=0) (hne : ¬ lineErr ls[i].re ls[i].cf=0):firstErr ls=lineErr ls[i].re ls[i].cf:=by
  rw [xGy h,List.drop_eq_getElem_cons hi]
  exact if_neg hne
theorem xHx {ls:List Ln} (h : ∀ j (hj:j<ls.length),j<ls.length→lineErr ls[j].re ls[j].cf=0):firstErr ls=0:=by
  rw [xGy (i:=ls.length) h,List.drop_length];rfl
theorem xQw : ∀ {ls:List Ln},firstErr ls=0 → ∀ l ∈ ls,okL l.re l.cf
  | l :: r,h,m,hm=>by
    have h':(if lineErr l.re l.cf=0 then firstErr r else lineErr l.re l.cf)=0:=h
    by_cases e:lineErr l.re l.cf=0
    · rw [if_pos e] at h'
      rcases List.mem_cons.1 hm with rfl|hm
      · exact wAz.1 e
      · exact xQw h' m hm
    · rw [if_neg e] at h';exact absurd h' e
def linesErr (ls:List Ln):Int:=if ls.length<1∨4<ls.length then 6 else firstErr ls
structure okLs (ls:List Ln):Prop where
  n:1≤ls.length∧ls.length≤4
  ok : ∀ l ∈ ls,okL l.re l.cf
theorem yWv {ls:List Ln} : linesErr ls=0 ↔ okLs ls:=by
  unfold linesErr
  constructor
  · intro h
    split at h
    · cases h
    · exact ⟨by omega,xQw h⟩
  · rintro ⟨h1,h2⟩
    rw [if_neg (by omega),xHx fun j hj _=>wAz.2 (h2 _ (List.getElem_mem hj))]

theorem checkLines (s:AV) (ls:List Ln) (h:H) (x:LinesR h s ls):(om Try.prog KK).call (.fn 60 [s]) h = .ok (ii (linesErr ls)) h:=by
  have wf:=x.wf
  obtain ⟨fs,fs'⟩:=x.flat
  have hl : ∀ h',lenE Try.prog 43 s h'=some (ii (ls.length:Int)):=fun h'=>x.sl.len un_43
  refine zWy (zLx (fn:=Try.f60) Try.func60 rfl rfl rfl rfl rfl ?_)
  simp only [zLy]
  by_cases hn:ls.length<1∨4<ls.length
  · have e:linesErr ls=6:=if_pos hn
    rw [e]
    (repeat' (first
  | (with_reducible first|refine zJw ?_|refine zHz ?_|refine zEv ?_|refine zEw ?_|refine zFz ?_|refine zJv ?_|refine zHy ?_|refine zBv ?_|refine zDx ?_|refine zCz ?_|refine zCw ?_|refine zEy ?_|refine zCv ?_|refine zCy ?_|refine zBy ?_|refine zDv ?_|refine zEz ?_|refine zAw ?_|refine zBz ?_)
  | refine zDz ?_|refine zEx rfl ?_|refine zJy ?_|refine zJx ?_
  | ((first|refine zGv rfl rfl rfl rfl rfl fun K_ hK_=>?_|refine zGw rfl rfl rfl rfl rfl fun K_ hK_=>?_);simp only [zAz,zDy,zGx,↓reduceIte,reduceCtorEq,Nat.reduceEqDiff,Bool.not_true,Bool.not_false];refine hK_ _ ?_;clear hK_ K_)
  | refine zDw (by decide) ?_
  | ((try first|refine zKy rfl rfl rfl ?_|refine zJz rfl rfl ?_|refine zKx rfl rfl rfl ?_|refine zIv rfl rfl ?_);(refine zIw fun Q_ hQ_=>?_;simp (disch:=first|omega|(simp only [List.length_cons,List.length_nil,List.length_append];omega)) only [bb,bp,zLy,↓reduceIte,reduceCtorEq,Nat.reduceEqDiff,Nat.reduceLT,Nat.reduceLeDiff,Nat.reduceAdd,Nat.reduceMul,Nat.reduceSub,Nat.reduceBEq,Int.reduceToNat,cond_true,cond_false,eq_self,beq_self_eq_true,hl,zFx wf,zGy wf,zBw wf,zFy wf,zAy wf,zAx,tEvD15,zIx,zIy,zIz,zHv,zFv,zAv wf];first|(refine zCx (Q:=Q_) (fun hp_=>?_) (fun hp_=>?_) <;> first|(exfalso;omega)|(refine hQ_ _ _ ?_;clear hQ_ Q_))|(refine zBx (Q:=Q_) (fun hp_=>?_) (fun hp_=>?_) <;> first|(exfalso;omega)|(refine hQ_ _ _ ?_;clear hQ_ Q_))|(refine hQ_ _ _ ?_;clear hQ_ Q_)))
  | (refine zHx fun K_ hK_=>?_;simp (disch:=omega) only [zGz,zAz,zHw,↓reduceIte,reduceCtorEq,Nat.reduceEqDiff,Nat.reduceLT];refine hK_ _ ?_;clear hK_ K_)))
    all_goals (refine zKz _ _ rfl (ret1 (by decide)) ?_;simp only [zAz,↓reduceIte,reduceCtorEq,Nat.reduceEqDiff];refine zKw rfl (by omega) ?_)
    all_goals exact ⟨rfl,rfl⟩
  · have e:linesErr ls=firstErr ls:=if_neg hn
    rw [e]
    (repeat' (first
  | (with_reducible first|refine zJw ?_|refine zHz ?_|refine zEv ?_|refine zEw ?_|refine zFz ?_|refine zJv ?_|refine zHy ?_|refine zBv ?_|refine zDx ?_|refine zCz ?_|refine zCw ?_|refine zEy ?_|refine zCv ?_|refine zCy ?_|refine zBy ?_|refine zDv ?_|refine zEz ?_|refine zAw ?_|refine zBz ?_)
  | refine zDz ?_|refine zEx rfl ?_|refine zJy ?_|refine zJx ?_
  | ((first|refine zGv rfl rfl rfl rfl rfl fun K_ hK_=>?_|refine zGw rfl rfl rfl rfl rfl fun K_ hK_=>?_);simp only [zAz,zDy,zGx,↓reduceIte,reduceCtorEq,Nat.reduceEqDiff,Bool.not_true,Bool.not_false];refine hK_ _ ?_;clear hK_ K_)
  | refine zDw (by decide) ?_
  | ((try first|refine zKy rfl rfl rfl ?_|refine zJz rfl rfl ?_|refine zKx rfl rfl rfl ?_|refine zIv rfl rfl ?_);(refine zIw fun Q_ hQ_=>?_;simp (disch:=first|omega|(simp only [List.length_cons,List.length_nil,List.length_append];omega)) only [bb,bp,zLy,↓reduceIte,reduceCtorEq,Nat.reduceEqDiff,Nat.reduceLT,Nat.reduceLeDiff,Nat.reduceAdd,Nat.reduceMul,Nat.reduceSub,Nat.reduceBEq,Int.reduceToNat,cond_true,cond_false,eq_self,beq_self_eq_true,hl,zFx wf,zGy wf,zBw wf,zFy wf,zAy wf,zAx,tEvD15,zIx,zIy,zIz,zHv,zFv,zAv wf];first|(refine zCx (Q:=Q_) (fun hp_=>?_) (fun hp_=>?_) <;> first|(exfalso;omega)|(refine hQ_ _ _ ?_;clear hQ_ Q_))|(refine zBx (Q:=Q_) (fun hp_=>?_) (fun hp_=>?_) <;> first|(exfalso;omega)|(refine hQ_ _ _ ?_;clear hQ_ Q_))|(refine hQ_ _ _ ?_;clear hQ_ Q_)))
  | (refine zHx fun K_ hK_=>?_;simp (disch:=omega) only [zGz,zAz,zHw,↓reduceIte,reduceCtorEq,Nat.reduceEqDiff,Nat.reduceLT];refine hK_ _ ?_;clear hK_ K_)))
    refine zVw (fun (i:Nat) f d h'=>i≤ls.length∧(∀ j (hj:j<ls.length),j<i→lineErr ls[j].re ls[j].cf=0)∧f 14=s∧f 15=ii (ls.length:Int)∧f 16=ii (i:Int)∧d=[] ∧ ∃ G,h'=X h G h.clock) (fun i=>ls.length - i) ?_ (ls.length+1) 0 (by omega) ?_
    · rintro i f d h' ⟨hi,hall,g14,g15,g16,rfl,G,rfl⟩
      by_cases hlt:i<ls.length
      · obtain ⟨id,off,hix,hld,hln⟩:=x.at ik_43 hlt
        obtain ⟨⟨fa,fa'⟩,⟨fb,fb'⟩⟩:=hln.flats
        by_cases hz:lineErr ls[i].re ls[i].cf=0
        · (repeat' (first
  | (with_reducible first|refine zJw ?_|refine zHz ?_|refine zEv ?_|refine zEw ?_|refine zFz ?_|refine zJv ?_|refine zHy ?_|refine zBv ?_|refine zDx ?_|refine zCz ?_|refine zCw ?_|refine zEy ?_|refine zCv ?_|refine zCy ?_|refine zBy ?_|refine zDv ?_|refine zEz ?_|refine zAw ?_|refine zBz ?_)
  | refine zDz ?_|refine zEx rfl ?_|refine zJy ?_|refine zJx ?_
  | ((first|refine zGv rfl rfl rfl rfl rfl fun K_ hK_=>?_|refine zGw rfl rfl rfl rfl rfl fun K_ hK_=>?_);simp only [zAz,zDy,zGx,↓reduceIte,reduceCtorEq,Nat.reduceEqDiff,Bool.not_true,Bool.not_false];refine hK_ _ ?_;clear hK_ K_)
  | refine zDw (by decide) ?_
  | ((try first|refine zKy rfl rfl rfl ?_|refine zJz rfl rfl ?_|refine zKx rfl rfl rfl ?_|refine zIv rfl rfl ?_);(refine zIw fun Q_ hQ_=>?_;simp (disch:=first|omega|(simp only [List.length_cons,List.length_nil,List.length_append];omega)) only [bb,bp,zLy,↓reduceIte,reduceCtorEq,Nat.reduceEqDiff,Nat.reduceLT,Nat.reduceLeDiff,Nat.reduceAdd,Nat.reduceMul,Nat.reduceSub,Nat.reduceBEq,Int.reduceToNat,cond_true,cond_false,eq_self,beq_self_eq_true,g14,g15,g16,hix,hld,fa,fb,fa',fb',zFx wf,zGy wf,zBw wf,zFy wf,zAy wf,zAx,tEvD15,zIx,zIy,zIz,zHv,zFv,zAv wf];first|(refine zCx (Q:=Q_) (fun hp_=>?_) (fun hp_=>?_) <;> first|(exfalso;omega)|(refine hQ_ _ _ ?_;clear hQ_ Q_))|(refine zBx (Q:=Q_) (fun hp_=>?_) (fun hp_=>?_) <;> first|(exfalso;omega)|(refine hQ_ _ _ ?_;clear hQ_ Q_))|(refine hQ_ _ _ ?_;clear hQ_ Q_)|(refine zRv ((CheckLine _ _ _ _ _ (hln.up _ _ (by simp only [List.length_append,List.length_cons,List.length_nil];omega))).trans (by rw [hz])) ?_;refine hQ_ _ _ ?_;clear hQ_ Q_)))
  | (refine zHx fun K_ hK_=>?_;simp (disch:=omega) only [zGz,zAz,zHw,↓reduceIte,reduceCtorEq,Nat.reduceEqDiff,Nat.reduceLT];refine hK_ _ ?_;clear hK_ K_)))
          refine zLz (i+1) (by omega) ⟨hlt,fun j hj hji=>?_,by simp only [zAz,↓reduceIte,reduceCtorEq,Nat.reduceEqDiff];exact g14,by simp only [zAz,↓reduceIte,reduceCtorEq,Nat.reduceEqDiff];exact g15,by simp only [zAz,↓reduceIte,reduceCtorEq,Nat.reduceEqDiff];rfl,rfl,_,rfl⟩
          by_cases hje:j=i
          · subst hje;exact hz
          · exact hall j hj (by omega)
        · (repeat' (first
  | (with_reducible first|refine zJw ?_|refine zHz ?_|refine zEv ?_|refine zEw ?_|refine zFz ?_|refine zJv ?_|refine zHy ?_|refine zBv ?_|refine zDx ?_|refine zCz ?_|refine zCw ?_|refine zEy ?_|refine zCv ?_|refine zCy ?_|refine zBy ?_|refine zDv ?_|refine zEz ?_|refine zAw ?_|refine zBz ?_)
  | refine zDz ?_|refine zEx rfl ?_|refine zJy ?_|refine zJx ?_
  | ((first|refine zGv rfl rfl rfl rfl rfl fun K_ hK_=>?_|refine zGw rfl rfl rfl rfl rfl fun K_ hK_=>?_);simp only [zAz,zDy,zGx,↓reduceIte,reduceCtorEq,Nat.reduceEqDiff,Bool.not_true,Bool.not_false];refine hK_ _ ?_;clear hK_ K_)
  | refine zDw (by decide) ?_
  | ((try first|refine zKy rfl rfl rfl ?_|refine zJz rfl rfl ?_|refine zKx rfl rfl rfl ?_|refine zIv rfl rfl ?_);(refine zIw fun Q_ hQ_=>?_;simp (disch:=first|omega|(simp only [List.length_cons,List.length_nil,List.length_append];omega)) only [bb,bp,zLy,↓reduceIte,reduceCtorEq,Nat.reduceEqDiff,Nat.reduceLT,Nat.reduceLeDiff,Nat.reduceAdd,Nat.reduceMul,Nat.reduceSub,Nat.reduceBEq,Int.reduceToNat,cond_true,cond_false,eq_self,beq_self_eq_true,g14,g15,g16,hix,hld,fa,fb,fa',fb',zFx wf,zGy wf,zBw wf,zFy wf,zAy wf,zAx,tEvD15,zIx,zIy,zIz,zHv,zFv,zAv wf];first|(refine zCx (Q:=Q_) (fun hp_=>?_) (fun hp_=>?_) <;> first|(exfalso;omega)|(refine hQ_ _ _ ?_;clear hQ_ Q_))|(refine zBx (Q:=Q_) (fun hp_=>?_) (fun hp_=>?_) <;> first|(exfalso;omega)|(refine hQ_ _ _ ?_;clear hQ_ Q_))|(refine hQ_ _ _ ?_;clear hQ_ Q_)|(refine zRv (CheckLine _ _ _ _ _ (hln.up _ _ (by simp only [List.length_append,List.length_cons,List.length_nil];omega))) ?_;refine hQ_ _ _ ?_;clear hQ_ Q_)))
  | (refine zHx fun K_ hK_=>?_;simp (disch:=omega) only [zGz,zAz,zHw,↓reduceIte,reduceCtorEq,Nat.reduceEqDiff,Nat.reduceLT];refine hK_ _ ?_;clear hK_ K_)))
          (refine zKz _ _ rfl (ret1 (by decide)) ?_;simp only [zAz,↓reduceIte,reduceCtorEq,Nat.reduceEqDiff];refine zKw rfl (by omega) ?_)
          exact ⟨by rw [firstErr_at hlt hall hz],rfl⟩
      · have hie:i=ls.length:=by omega
        (repeat' (first
  | (with_reducible first|refine zJw ?_|refine zHz ?_|refine zEv ?_|refine zEw ?_|refine zFz ?_|refine zJv ?_|refine zHy ?_|refine zBv ?_|refine zDx ?_|refine zCz ?_|refine zCw ?_|refine zEy ?_|refine zCv ?_|refine zCy ?_|refine zBy ?_|refine zDv ?_|refine zEz ?_|refine zAw ?_|refine zBz ?_)
  | refine zDz ?_|refine zEx rfl ?_|refine zJy ?_|refine zJx ?_
  | ((first|refine zGv rfl rfl rfl rfl rfl fun K_ hK_=>?_|refine zGw rfl rfl rfl rfl rfl fun K_ hK_=>?_);simp only [zAz,zDy,zGx,↓reduceIte,reduceCtorEq,Nat.reduceEqDiff,Bool.not_true,Bool.not_false];refine hK_ _ ?_;clear hK_ K_)
  | refine zDw (by decide) ?_
  | ((try first|refine zKy rfl rfl rfl ?_|refine zJz rfl rfl ?_|refine zKx rfl rfl rfl ?_|refine zIv rfl rfl ?_);(refine zIw fun Q_ hQ_=>?_;simp (disch:=first|omega|(simp only [List.length_cons,List.length_nil,List.length_append];omega)) only [bb,bp,zLy,↓reduceIte,reduceCtorEq,Nat.reduceEqDiff,Nat.reduceLT,Nat.reduceLeDiff,Nat.reduceAdd,Nat.reduceMul,Nat.reduceSub,Nat.reduceBEq,Int.reduceToNat,cond_true,cond_false,eq_self,beq_self_eq_true,g14,g15,g16,zFx wf,zGy wf,zBw wf,zFy wf,zAy wf,zAx,tEvD15,zIx,zIy,zIz,zHv,zFv,zAv wf];first|(refine zCx (Q:=Q_) (fun hp_=>?_) (fun hp_=>?_) <;> first|(exfalso;omega)|(refine hQ_ _ _ ?_;clear hQ_ Q_))|(refine zBx (Q:=Q_) (fun hp_=>?_) (fun hp_=>?_) <;> first|(exfalso;omega)|(refine hQ_ _ _ ?_;clear hQ_ Q_))|(refine hQ_ _ _ ?_;clear hQ_ Q_)))
  | (refine zHx fun K_ hK_=>?_;simp (disch:=omega) only [zGz,zAz,zHw,↓reduceIte,reduceCtorEq,Nat.reduceEqDiff,Nat.reduceLT];refine hK_ _ ?_;clear hK_ K_)))
        (refine zKz _ _ rfl (ret1 (by decide)) ?_;simp only [zAz,↓reduceIte,reduceCtorEq,Nat.reduceEqDiff];refine zKw rfl (by omega) ?_)
        exact ⟨by rw [xHx fun j hj _=>hall j hj (by omega)],rfl⟩
    · exact ⟨Nat.zero_le _,fun j _ hj=>absurd hj (Nat.not_lt_zero j),by simp only [zAz,↓reduceIte,reduceCtorEq,Nat.reduceEqDiff],by simp only [zAz,↓reduceIte,reduceCtorEq,Nat.reduceEqDiff],by simp only [zAz,↓reduceIte,reduceCtorEq,Nat.reduceEqDiff];rfl,rfl,[],rfl⟩

theorem refLines (s:AV) (ls:List Ln) (h:H) (x:LinesR h s ls):(om Try.prog KK).call (.fn 56 [s]) h = .ok (ii (linesErr ls)) h:=by
  have wf:=x.wf
  obtain ⟨fs,fs'⟩:=x.flat
  have hl : ∀ h',lenE Try.prog 43 s h'=some (ii (ls.length:Int)):=fun h'=>x.sl.len un_43
  refine zWy (zLx (fn:=Try.f56) Try.func56 rfl rfl rfl rfl rfl ?_)
  simp only [zLy]
  by_cases hn:ls.length<1∨4<ls.length
  · have e:linesErr ls=6:=if_pos hn
    rw [e]
    (repeat' (first
  | (with_reducible first|refine zJw ?_|refine zHz ?_|refine zEv ?_|refine zEw ?_|refine zFz ?_|refine zJv ?_|refine zHy ?_|refine zBv ?_|refine zDx ?_|refine zCz ?_|refine zCw ?_|refine zEy ?_|refine zCv ?_|refine zCy ?_|refine zBy ?_|refine zDv ?_|refine zEz ?_|refine zAw ?_|refine zBz ?_)
  | refine zDz ?_|refine zEx rfl ?_|refine zJy ?_|refine zJx ?_
  | ((first|refine zGv rfl rfl rfl rfl rfl fun K_ hK_=>?_|refine zGw rfl rfl rfl rfl rfl fun K_ hK_=>?_);simp only [zAz,zDy,zGx,↓reduceIte,reduceCtorEq,Nat.reduceEqDiff,Bool.not_true,Bool.not_false];refine hK_ _ ?_;clear hK_ K_)
  | refine zDw (by decide) ?_
  | ((try first|refine zKy rfl rfl rfl ?_|refine zJz rfl rfl ?_|refine zKx rfl rfl rfl ?_|refine zIv rfl rfl ?_);(refine zIw fun Q_ hQ_=>?_;simp (disch:=first|omega|(simp only [List.length_cons,List.length_nil,List.length_append];omega)) only [bb,bp,zLy,↓reduceIte,reduceCtorEq,Nat.reduceEqDiff,Nat.reduceLT,Nat.reduceLeDiff,Nat.reduceAdd,Nat.reduceMul,Nat.reduceSub,Nat.reduceBEq,Int.reduceToNat,cond_true,cond_false,eq_self,beq_self_eq_true,hl,zFx wf,zGy wf,zBw wf,zFy wf,zAy wf,zAx,tEvD15,zIx,zIy,zIz,zHv,zFv,zAv wf];first|(refine zCx (Q:=Q_) (fun hp_=>?_) (fun hp_=>?_) <;> first|(exfalso;omega)|(refine hQ_ _ _ ?_;clear hQ_ Q_))|(refine zBx (Q:=Q_) (fun hp_=>?_) (fun hp_=>?_) <;> first|(exfalso;omega)|(refine hQ_ _ _ ?_;clear hQ_ Q_))|(refine hQ_ _ _ ?_;clear hQ_ Q_)))
  | (refine zHx fun K_ hK_=>?_;simp (disch:=omega) only [zGz,zAz,zHw,↓reduceIte,reduceCtorEq,Nat.reduceEqDiff,Nat.reduceLT];refine hK_ _ ?_;clear hK_ K_)))
    all_goals (refine zKz _ _ rfl (ret1 (by decide)) ?_;simp only [zAz,↓reduceIte,reduceCtorEq,Nat.reduceEqDiff];refine zKw rfl (by omega) ?_)
    all_goals exact ⟨rfl,rfl⟩
  · have e:linesErr ls=firstErr ls:=if_neg hn
    rw [e]
    (repeat' (first
  | (with_reducible first|refine zJw ?_|refine zHz ?_|refine zEv ?_|refine zEw ?_|refine zFz ?_|refine zJv ?_|refine zHy ?_|refine zBv ?_|refine zDx ?_|refine zCz ?_|refine zCw ?_|refine zEy ?_|refine zCv ?_|refine zCy ?_|refine zBy ?_|refine zDv ?_|refine zEz ?_|refine zAw ?_|refine zBz ?_)
  | refine zDz ?_|refine zEx rfl ?_|refine zJy ?_|refine zJx ?_
  | ((first|refine zGv rfl rfl rfl rfl rfl fun K_ hK_=>?_|refine zGw rfl rfl rfl rfl rfl fun K_ hK_=>?_);simp only [zAz,zDy,zGx,↓reduceIte,reduceCtorEq,Nat.reduceEqDiff,Bool.not_true,Bool.not_false];refine hK_ _ ?_;clear hK_ K_)
  | refine zDw (by decide) ?_
  | ((try first|refine zKy rfl rfl rfl ?_|refine zJz rfl rfl ?_|refine zKx rfl rfl rfl ?_|refine zIv rfl rfl ?_);(refine zIw fun Q_ hQ_=>?_;simp (disch:=first|omega|(simp only [List.length_cons,List.length_nil,List.length_append];omega)) only [bb,bp,zLy,↓reduceIte,reduceCtorEq,Nat.reduceEqDiff,Nat.reduceLT,Nat.reduceLeDiff,Nat.reduceAdd,Nat.reduceMul,Nat.reduceSub,Nat.reduceBEq,Int.reduceToNat,cond_true,cond_false,eq_self,beq_self_eq_true,hl,zFx wf,zGy wf,zBw wf,zFy wf,zAy wf,zAx,tEvD15,zIx,zIy,zIz,zHv,zFv,zAv wf];first|(refine zCx (Q:=Q_) (fun hp_=>?_) (fun hp_=>?_) <;> first|(exfalso;omega)|(refine hQ_ _ _ ?_;clear hQ_ Q_))|(refine zBx (Q:=Q_) (fun hp_=>?_) (fun hp_=>?_) <;> first|(exfalso;omega)|(refine hQ_ _ _ ?_;clear hQ_ Q_))|(refine hQ_ _ _ ?_;clear hQ_ Q_)))
  | (refine zHx fun K_ hK_=>?_;simp (disch:=omega) only [zGz,zAz,zHw,↓reduceIte,reduceCtorEq,Nat.reduceEqDiff,Nat.reduceLT];refine hK_ _ ?_;clear hK_ K_)))
    refine zVw (fun (i:Nat) f d h'=>i≤ls.length∧(∀ j (hj:j<ls.length),j<i→lineErr ls[j].re ls[j].cf=0)∧f 0=s∧f 3=ii (i:Int)∧d=[]∧h'=X h [] h.clock) (fun i=>ls.length - i) ?_ (ls.length+1) 0 (by omega) ?_
    · rintro i f d h' ⟨hi,hall,g0,g3,rfl,rfl⟩
      by_cases hlt:i<ls.length
      · obtain ⟨id,off,hix,hld,hln⟩:=x.at ik_43 hlt
        obtain ⟨⟨fa,fa'⟩,⟨fb,fb'⟩⟩:=hln.flats
        by_cases hz:lineErr ls[i].re ls[i].cf=0
        · (repeat' (first
  | (with_reducible first|refine zJw ?_|refine zHz ?_|refine zEv ?_|refine zEw ?_|refine zFz ?_|refine zJv ?_|refine zHy ?_|refine zBv ?_|refine zDx ?_|refine zCz ?_|refine zCw ?_|refine zEy ?_|refine zCv ?_|refine zCy ?_|refine zBy ?_|refine zDv ?_|refine zEz ?_|refine zAw ?_|refine zBz ?_)
  | refine zDz ?_|refine zEx rfl ?_|refine zJy ?_|refine zJx ?_
  | ((first|refine zGv rfl rfl rfl rfl rfl fun K_ hK_=>?_|refine zGw rfl rfl rfl rfl rfl fun K_ hK_=>?_);simp only [zAz,zDy,zGx,↓reduceIte,reduceCtorEq,Nat.reduceEqDiff,Bool.not_true,Bool.not_false];refine hK_ _ ?_;clear hK_ K_)
  | refine zDw (by decide) ?_
  | ((try first|refine zKy rfl rfl rfl ?_|refine zJz rfl rfl ?_|refine zKx rfl rfl rfl ?_|refine zIv rfl rfl ?_);(refine zIw fun Q_ hQ_=>?_;simp (disch:=first|omega|(simp only [List.length_cons,List.length_nil,List.length_append];omega)) only [bb,bp,zLy,↓reduceIte,reduceCtorEq,Nat.reduceEqDiff,Nat.reduceLT,Nat.reduceLeDiff,Nat.reduceAdd,Nat.reduceMul,Nat.reduceSub,Nat.reduceBEq,Int.reduceToNat,cond_true,cond_false,eq_self,beq_self_eq_true,g0,g3,hl,hix,hld,fa,fb,fa',fb',zFx wf,zGy wf,zBw wf,zFy wf,zAy wf,zAx,tEvD15,zIx,zIy,zIz,zHv,zFv,zAv wf];first|(refine zCx (Q:=Q_) (fun hp_=>?_) (fun hp_=>?_) <;> first|(exfalso;omega)|(refine hQ_ _ _ ?_;clear hQ_ Q_))|(refine zBx (Q:=Q_) (fun hp_=>?_) (fun hp_=>?_) <;> first|(exfalso;omega)|(refine hQ_ _ _ ?_;clear hQ_ Q_))|(refine hQ_ _ _ ?_;clear hQ_ Q_)|(refine zRv ((refCheckLine _ _ _ _ _ (hln.up _ _ (by simp only [List.length_append,List.length_cons,List.length_nil];omega))).trans (by rw [hz])) ?_;refine hQ_ _ _ ?_;clear hQ_ Q_)))
  | (refine zHx fun K_ hK_=>?_;simp (disch:=omega) only [zGz,zAz,zHw,↓reduceIte,reduceCtorEq,Nat.reduceEqDiff,Nat.reduceLT];refine hK_ _ ?_;clear hK_ K_)))
          refine zLz (i+1) (by omega) ⟨hlt,fun j hj hji=>?_,by simp only [zAz,↓reduceIte,reduceCtorEq,Nat.reduceEqDiff];exact g0,by simp only [zAz,↓reduceIte,reduceCtorEq,Nat.reduceEqDiff];rfl,rfl,rfl⟩
          by_cases hje:j=i
          · subst hje;exact hz
          · exact hall j hj (by omega)
        · (repeat' (first
  | (with_reducible first|refine zJw ?_|refine zHz ?_|refine zEv ?_|refine zEw ?_|refine zFz ?_|refine zJv ?_|refine zHy ?_|refine zBv ?_|refine zDx ?_|refine zCz ?_|refine zCw ?_|refine zEy ?_|refine zCv ?_|refine zCy ?_|refine zBy ?_|refine zDv ?_|refine zEz ?_|refine zAw ?_|refine zBz ?_)
  | refine zDz ?_|refine zEx rfl ?_|refine zJy ?_|refine zJx ?_
  | ((first|refine zGv rfl rfl rfl rfl rfl fun K_ hK_=>?_|refine zGw rfl rfl rfl rfl rfl fun K_ hK_=>?_);simp only [zAz,zDy,zGx,↓reduceIte,reduceCtorEq,Nat.reduceEqDiff,Bool.not_true,Bool.not_false];refine hK_ _ ?_;clear hK_ K_)
  | refine zDw (by decide) ?_
  | ((try first|refine zKy rfl rfl rfl ?_|refine zJz rfl rfl ?_|refine zKx rfl rfl rfl ?_|refine zIv rfl rfl ?_);(refine zIw fun Q_ hQ_=>?_;simp (disch:=first|omega|(simp only [List.length_cons,List.length_nil,List.length_append];omega)) only [bb,bp,zLy,↓reduceIte,reduceCtorEq,Nat.reduceEqDiff,Nat.reduceLT,Nat.reduceLeDiff,Nat.reduceAdd,Nat.reduceMul,Nat.reduceSub,Nat.reduceBEq,Int.reduceToNat,cond_true,cond_false,eq_self,beq_self_eq_true,g0,g3,hl,hix,hld,fa,fb,fa',fb',zFx wf,zGy wf,zBw wf,zFy wf,zAy wf,zAx,tEvD15,zIx,zIy,zIz,zHv,zFv,zAv wf];first|(refine zCx (Q:=Q_) (fun hp_=>?_) (fun hp_=>?_) <;> first|(exfalso;omega)|(refine hQ_ _ _ ?_;clear hQ_ Q_))|(refine zBx (Q:=Q_) (fun hp_=>?_) (fun hp_=>?_) <;> first|(exfalso;omega)|(refine hQ_ _ _ ?_;clear hQ_ Q_))|(refine hQ_ _ _ ?_;clear hQ_ Q_)|(refine zRv (refCheckLine _ _ _ _ _ (hln.up _ _ (by simp only [List.length_append,List.length_cons,List.length_nil];omega))) ?_;refine hQ_ _ _ ?_;clear hQ_ Q_)))
  | (refine zHx fun K_ hK_=>?_;simp (disch:=omega) only [zGz,zAz,zHw,↓reduceIte,reduceCtorEq,Nat.reduceEqDiff,Nat.reduceLT];refine hK_ _ ?_;clear hK_ K_)))
          (refine zKz _ _ rfl (ret1 (by decide)) ?_;simp only [zAz,↓reduceIte,reduceCtorEq,Nat.reduceEqDiff];refine zKw rfl (by omega) ?_)
          exact ⟨by rw [firstErr_at hlt hall hz],rfl⟩
      · have hie:i=ls.length:=by omega
        (repeat' (first
  | (with_reducible first|refine zJw ?_|refine zHz ?_|refine zEv ?_|refine zEw ?_|refine zFz ?_|refine zJv ?_|refine zHy ?_|refine zBv ?_|refine zDx ?_|refine zCz ?_|refine zCw ?_|refine zEy ?_|refine zCv ?_|refine zCy ?_|refine zBy ?_|refine zDv ?_|refine zEz ?_|refine zAw ?_|refine zBz ?_)
  | refine zDz ?_|refine zEx rfl ?_|refine zJy ?_|refine zJx ?_
  | ((first|refine zGv rfl rfl rfl rfl rfl fun K_ hK_=>?_|refine zGw rfl rfl rfl rfl rfl fun K_ hK_=>?_);simp only [zAz,zDy,zGx,↓reduceIte,reduceCtorEq,Nat.reduceEqDiff,Bool.not_true,Bool.not_false];refine hK_ _ ?_;clear hK_ K_)
  | refine zDw (by decide) ?_
  | ((try first|refine zKy rfl rfl rfl ?_|refine zJz rfl rfl ?_|refine zKx rfl rfl rfl ?_|refine zIv rfl rfl ?_);(refine zIw fun Q_ hQ_=>?_;simp (disch:=first|omega|(simp only [List.length_cons,List.length_nil,List.length_append];omega)) only [bb,bp,zLy,↓reduceIte,reduceCtorEq,Nat.reduceEqDiff,Nat.reduceLT,Nat.reduceLeDiff,Nat.reduceAdd,Nat.reduceMul,Nat.reduceSub,Nat.reduceBEq,Int.reduceToNat,cond_true,cond_false,eq_self,beq_self_eq_true,g0,g3,hl,zFx wf,zGy wf,zBw wf,zFy wf,zAy wf,zAx,tEvD15,zIx,zIy,zIz,zHv,zFv,zAv wf];first|(refine zCx (Q:=Q_) (fun hp_=>?_) (fun hp_=>?_) <;> first|(exfalso;omega)|(refine hQ_ _ _ ?_;clear hQ_ Q_))|(refine zBx (Q:=Q_) (fun hp_=>?_) (fun hp_=>?_) <;> first|(exfalso;omega)|(refine hQ_ _ _ ?_;clear hQ_ Q_))|(refine hQ_ _ _ ?_;clear hQ_ Q_)))
  | (refine zHx fun K_ hK_=>?_;simp (disch:=omega) only [zGz,zAz,zHw,↓reduceIte,reduceCtorEq,Nat.reduceEqDiff,Nat.reduceLT];refine hK_ _ ?_;clear hK_ K_)))
        (refine zKz _ _ rfl (ret1 (by decide)) ?_;simp only [zAz,↓reduceIte,reduceCtorEq,Nat.reduceEqDiff];refine zKw rfl (by omega) ?_)
        exact ⟨by rw [xHx fun j hj _=>hall j hj (by omega)],rfl⟩
    · exact ⟨Nat.zero_le _,fun j _ hj=>absurd hj (Nat.not_lt_zero j),by simp only [zAz,↓reduceIte,reduceCtorEq,Nat.reduceEqDiff],by simp only [zAz,↓reduceIte,reduceCtorEq,Nat.reduceEqDiff];rfl,rfl,rfl⟩

def Greater (ls:List Ln):Prop:=8<ls.length ∨ ∃ l ∈ ls,20<l.re.length∨20<l.cf.length
theorem greater (s:AV) (ls:List Ln) (h:H) (x:LinesR h s ls) : ∃ t:Bool,(t=true ↔ Greater ls)∧(om Try.prog KK).call (.fn 25 [s]) h = .ok (.bool t) h:=by
  have hd : ∃ t:Bool,(t=true ↔ Greater ls):=by
    classical exact ⟨decide (Greater ls),by simp⟩
  obtain ⟨t,ht⟩:=hd
  refine ⟨t,ht,?_⟩
  have wf:=x.wf
  obtain ⟨fs,fs'⟩:=x.flat
  have hl : ∀ h',lenE Try.prog 43 s h'=some (ii (ls.length:Int)):=fun h'=>x.sl.len un_43
  refine zWy (zLx (fn:=Try.f25) Try.func25 rfl rfl rfl rfl rfl ?_)
  simp only [zLy]
  by_cases hn:8<ls.length
  · have e:t=true:=ht.2 (.inl hn)
    rw [e]
    (repeat' (first
  | (with_reducible first|refine zJw ?_|refine zHz ?_|refine zEv ?_|refine zEw ?_|refine zFz ?_|refine zJv ?_|refine zHy ?_|refine zBv ?_|refine zDx ?_|refine zCz ?_|refine zCw ?_|refine zEy ?_|refine zCv ?_|refine zCy ?_|refine zBy ?_|refine zDv ?_|refine zEz ?_|refine zAw ?_|refine zBz ?_)
  | refine zDz ?_|refine zEx rfl ?_|refine zJy ?_|refine zJx ?_
  | ((first|refine zGv rfl rfl rfl rfl rfl fun K_ hK_=>?_|refine zGw rfl rfl rfl rfl rfl fun K_ hK_=>?_);simp only [zAz,zDy,zGx,↓reduceIte,reduceCtorEq,Nat.reduceEqDiff,Bool.not_true,Bool.not_false];refine hK_ _ ?_;clear hK_ K_)
  | refine zDw (by decide) ?_
  | ((try first|refine zKy rfl rfl rfl ?_|refine zJz rfl rfl ?_|refine zKx rfl rfl rfl ?_|refine zIv rfl rfl ?_);(refine zIw fun Q_ hQ_=>?_;simp (disch:=first|omega|(simp only [List.length_cons,List.length_nil,List.length_append];omega)) only [bb,bp,zLy,↓reduceIte,reduceCtorEq,Nat.reduceEqDiff,Nat.reduceLT,Nat.reduceLeDiff,Nat.reduceAdd,Nat.reduceMul,Nat.reduceSub,Nat.reduceBEq,Int.reduceToNat,cond_true,cond_false,eq_self,beq_self_eq_true,hl,zFx wf,zGy wf,zBw wf,zFy wf,zAy wf,zAx,tEvD15,zIx,zIy,zIz,zHv,zFv,zAv wf];first|(refine zCx (Q:=Q_) (fun hp_=>?_) (fun hp_=>?_) <;> first|(exfalso;omega)|(refine hQ_ _ _ ?_;clear hQ_ Q_))|(refine zBx (Q:=Q_) (fun hp_=>?_) (fun hp_=>?_) <;> first|(exfalso;omega)|(refine hQ_ _ _ ?_;clear hQ_ Q_))|(refine hQ_ _ _ ?_;clear hQ_ Q_)))
  | (refine zHx fun K_ hK_=>?_;simp (disch:=omega) only [zGz,zAz,zHw,↓reduceIte,reduceCtorEq,Nat.reduceEqDiff,Nat.reduceLT];refine hK_ _ ?_;clear hK_ K_)))
    (refine zKz _ _ rfl (ret1 (by decide)) ?_;simp only [zAz,↓reduceIte,reduceCtorEq,Nat.reduceEqDiff];refine zKw rfl (by omega) ?_)
    exact ⟨rfl,rfl⟩
  · (repeat' (first
  | (with_reducible first|refine zJw ?_|refine zHz ?_|refine zEv ?_|refine zEw ?_|refine zFz ?_|refine zJv ?_|refine zHy ?_|refine zBv ?_|refine zDx ?_|refine zCz ?_|refine zCw ?_|refine zEy ?_|refine zCv ?_|refine zCy ?_|refine zBy ?_|refine zDv ?_|refine zEz ?_|refine zAw ?_|refine zBz ?_)
  | refine zDz ?_|refine zEx rfl ?_|refine zJy ?_|refine zJx ?_
  | ((first|refine zGv rfl rfl rfl rfl rfl fun K_ hK_=>?_|refine zGw rfl rfl rfl rfl rfl fun K_ hK_=>?_);simp only [zAz,zDy,zGx,↓reduceIte,reduceCtorEq,Nat.reduceEqDiff,Bool.not_true,Bool.not_false];refine hK_ _ ?_;clear hK_ K_)
  | refine zDw (by decide) ?_
  | ((try first|refine zKy rfl rfl rfl ?_|refine zJz rfl rfl ?_|refine zKx rfl rfl rfl ?_|refine zIv rfl rfl ?_);(refine zIw fun Q_ hQ_=>?_;simp (disch:=first|omega|(simp only [List.length_cons,List.length_nil,List.length_append];omega)) only [bb,bp,zLy,↓reduceIte,reduceCtorEq,Nat.reduceEqDiff,Nat.reduceLT,Nat.reduceLeDiff,Nat.reduceAdd,Nat.reduceMul,Nat.reduceSub,Nat.reduceBEq,Int.reduceToNat,cond_true,cond_false,eq_self,beq_self_eq_true,hl,zFx wf,zGy wf,zBw wf,zFy wf,zAy wf,zAx,tEvD15,zIx,zIy,zIz,zHv,zFv,zAv wf];first|(refine zCx (Q:=Q_) (fun hp_=>?_) (fun hp_=>?_) <;> first|(exfalso;omega)|(refine hQ_ _ _ ?_;clear hQ_ Q_))|(refine zBx (Q:=Q_) (fun hp_=>?_) (fun hp_=>?_) <;> first|(exfalso;omega)|(refine hQ_ _ _ ?_;clear hQ_ Q_))|(refine hQ_ _ _ ?_;clear hQ_ Q_)))
  | (refine zHx fun K_ hK_=>?_;simp (disch:=omega) only [zGz,zAz,zHw,↓reduceIte,reduceCtorEq,Nat.reduceEqDiff,Nat.reduceLT];refine hK_ _ ?_;clear hK_ K_)))
    refine zVw (fun (i:Nat) f d h'=>i≤ls.length∧(∀ j (hj:j<ls.length),j<i → ¬ (20<ls[j].re.length∨20<ls[j].cf.length))∧f 0=s∧f 3=ii (i:Int)∧d=[]∧h'=X h [] h.clock) (fun i=>ls.length - i) ?_ (ls.length+1) 0 (by omega) ?_
    · rintro i f d h' ⟨hi,hall,g0,g3,rfl,rfl⟩
      by_cases hlt:i<ls.length
      · obtain ⟨id,off,hix,hld,hln⟩:=x.at ik_43 hlt
        obtain ⟨⟨fa,fa'⟩,⟨fb,fb'⟩⟩:=hln.flats
        by_cases hz:20<ls[i].re.length∨20<ls[i].cf.length
        · have e:t=true:=ht.2 (.inr ⟨_,List.getElem_mem hlt,hz⟩)
          rw [e]
          (repeat' (first
  | (with_reducible first|refine zJw ?_|refine zHz ?_|refine zEv ?_|refine zEw ?_|refine zFz ?_|refine zJv ?_|refine zHy ?_|refine zBv ?_|refine zDx ?_|refine zCz ?_|refine zCw ?_|refine zEy ?_|refine zCv ?_|refine zCy ?_|refine zBy ?_|refine zDv ?_|refine zEz ?_|refine zAw ?_|refine zBz ?_)
  | refine zDz ?_|refine zEx rfl ?_|refine zJy ?_|refine zJx ?_
  | ((first|refine zGv rfl rfl rfl rfl rfl fun K_ hK_=>?_|refine zGw rfl rfl rfl rfl rfl fun K_ hK_=>?_);simp only [zAz,zDy,zGx,↓reduceIte,reduceCtorEq,Nat.reduceEqDiff,Bool.not_true,Bool.not_false];refine hK_ _ ?_;clear hK_ K_)
  | refine zDw (by decide) ?_
  | ((try first|refine zKy rfl rfl rfl ?_|refine zJz rfl rfl ?_|refine zKx rfl rfl rfl ?_|refine zIv rfl rfl ?_);(refine zIw fun Q_ hQ_=>?_;simp (disch:=first|omega|(simp only [List.length_cons,List.length_nil,List.length_append];omega)) only [bb,bp,zLy,↓reduceIte,reduceCtorEq,Nat.reduceEqDiff,Nat.reduceLT,Nat.reduceLeDiff,Nat.reduceAdd,Nat.reduceMul,Nat.reduceSub,Nat.reduceBEq,Int.reduceToNat,cond_true,cond_false,eq_self,beq_self_eq_true,g0,g3,hl,hix,hld,fa,fb,fa',fb',zFx wf,zGy wf,zBw wf,zFy wf,zAy wf,zAx,tEvD15,zIx,zIy,zIz,zHv,zFv,zAv wf];first|(refine zCx (Q:=Q_) (fun hp_=>?_) (fun hp_=>?_) <;> first|(exfalso;omega)|(refine hQ_ _ _ ?_;clear hQ_ Q_))|(refine zBx (Q:=Q_) (fun hp_=>?_) (fun hp_=>?_) <;> first|(exfalso;omega)|(refine hQ_ _ _ ?_;clear hQ_ Q_))|(refine hQ_ _ _ ?_;clear hQ_ Q_)|(refine zRv ((great _ _ _ _ _ (hln.up _ _ (by simp only [List.length_append,List.length_cons,List.length_nil];omega))).trans (by rw [decide_eq_true hz])) ?_;refine hQ_ _ _ ?_;clear hQ_ Q_)))
  | (refine zHx fun K_ hK_=>?_;simp (disch:=omega) only [zGz,zAz,zHw,↓reduceIte,reduceCtorEq,Nat.reduceEqDiff,Nat.reduceLT];refine hK_ _ ?_;clear hK_ K_)))
          (refine zKz _ _ rfl (ret1 (by decide)) ?_;simp only [zAz,↓reduceIte,reduceCtorEq,Nat.reduceEqDiff];refine zKw rfl (by omega) ?_)
          exact ⟨rfl,rfl⟩
        · (repeat' (first
  | (with_reducible first|refine zJw ?_|refine zHz ?_|refine zEv ?_|refine zEw ?_|refine zFz ?_|refine zJv ?_|refine zHy ?_|refine zBv ?_|refine zDx ?_|refine zCz ?_|refine zCw ?_|refine zEy ?_|refine zCv ?_|refine zCy ?_|refine zBy ?_|refine zDv ?_|refine zEz ?_|refine zAw ?_|refine zBz ?_)
  | refine zDz ?_|refine zEx rfl ?_|refine zJy ?_|refine zJx ?_
  | ((first|refine zGv rfl rfl rfl rfl rfl fun K_ hK_=>?_|refine zGw rfl rfl rfl rfl rfl fun K_ hK_=>?_);simp only [zAz,zDy,zGx,↓reduceIte,reduceCtorEq,Nat.reduceEqDiff,Bool.not_true,Bool.not_false];refine hK_ _ ?_;clear hK_ K_)
  | refine zDw (by decide) ?_
  | ((try first|refine zKy rfl rfl rfl ?_|refine zJz rfl rfl ?_|refine zKx rfl rfl rfl ?_|refine zIv rfl rfl ?_);(refine zIw fun Q_ hQ_=>?_;simp (disch:=first|omega|(simp only [List.length_cons,List.length_nil,List.length_append];omega)) only [bb,bp,zLy,↓reduceIte,reduceCtorEq,Nat.reduceEqDiff,Nat.reduceLT,Nat.reduceLeDiff,Nat.reduceAdd,Nat.reduceMul,Nat.reduceSub,Nat.reduceBEq,Int.reduceToNat,cond_true,cond_false,eq_self,beq_self_eq_true,g0,g3,hl,hix,hld,fa,fb,fa',fb',zFx wf,zGy wf,zBw wf,zFy wf,zAy wf,zAx,tEvD15,zIx,zIy,zIz,zHv,zFv,zAv wf];first|(refine zCx (Q:=Q_) (fun hp_=>?_) (fun hp_=>?_) <;> first|(exfalso;omega)|(refine hQ_ _ _ ?_;clear hQ_ Q_))|(refine zBx (Q:=Q_) (fun hp_=>?_) (fun hp_=>?_) <;> first|(exfalso;omega)|(refine hQ_ _ _ ?_;clear hQ_ Q_))|(refine hQ_ _ _ ?_;clear hQ_ Q_)|(refine zRv ((great _ _ _ _ _ (hln.up _ _ (by simp only [List.length_append,List.length_cons,List.length_nil];omega))).trans (by rw [decide_eq_false hz])) ?_;refine hQ_ _ _ ?_;clear hQ_ Q_)))
  | (refine zHx fun K_ hK_=>?_;simp (disch:=omega) only [zGz,zAz,zHw,↓reduceIte,reduceCtorEq,Nat.reduceEqDiff,Nat.reduceLT];refine hK_ _ ?_;clear hK_ K_)))
          refine zLz (i+1) (by omega) ⟨hlt,fun j hj hji=>?_,by simp only [zAz,↓reduceIte,reduceCtorEq,Nat.reduceEqDiff];exact g0,by simp only [zAz,↓reduceIte,reduceCtorEq,Nat.reduceEqDiff];rfl,rfl,rfl⟩
          by_cases hje:j=i
          · subst hje;exact hz
          · exact hall j hj (by omega)
      · have hie:i=ls.length:=by omega
        have e:t=false:=by
          cases t with
          | false=>rfl
          | true=>
            rcases ht.1 rfl with q|⟨l,hl2,q⟩
            · exact absurd q hn
            · obtain ⟨j,hj,rfl⟩:=List.getElem_of_mem hl2
              exact absurd q (hall j hj (by omega))
        rw [e]
        (repeat' (first
  | (with_reducible first|refine zJw ?_|refine zHz ?_|refine zEv ?_|refine zEw ?_|refine zFz ?_|refine zJv ?_|refine zHy ?_|refine zBv ?_|refine zDx ?_|refine zCz ?_|refine zCw ?_|refine zEy ?_|refine zCv ?_|refine zCy ?_|refine zBy ?_|refine zDv ?_|refine zEz ?_|refine zAw ?_|refine zBz ?_)
  | refine zDz ?_|refine zEx rfl ?_|refine zJy ?_|refine zJx ?_
  | ((first|refine zGv rfl rfl rfl rfl rfl fun K_ hK_=>?_|refine zGw rfl rfl rfl rfl rfl fun K_ hK_=>?_);simp only [zAz,zDy,zGx,↓reduceIte,reduceCtorEq,Nat.reduceEqDiff,Bool.not_true,Bool.not_false];refine hK_ _ ?_;clear hK_ K_)
  | refine zDw (by decide) ?_
  | ((try first|refine zKy rfl rfl rfl ?_|refine zJz rfl rfl ?_|refine zKx rfl rfl rfl ?_|refine zIv rfl rfl ?_);(refine zIw fun Q_ hQ_=>?_;simp (disch:=first|omega|(simp only [List.length_cons,List.length_nil,List.length_append];omega)) only [bb,bp,zLy,↓reduceIte,reduceCtorEq,Nat.reduceEqDiff,Nat.reduceLT,Nat.reduceLeDiff,Nat.reduceAdd,Nat.reduceMul,Nat.reduceSub,Nat.reduceBEq,Int.reduceToNat,cond_true,cond_false,eq_self,beq_self_eq_true,g0,g3,hl,zFx wf,zGy wf,zBw wf,zFy wf,zAy wf,zAx,tEvD15,zIx,zIy,zIz,zHv,zFv,zAv wf];first|(refine zCx (Q:=Q_) (fun hp_=>?_) (fun hp_=>?_) <;> first|(exfalso;omega)|(refine hQ_ _ _ ?_;clear hQ_ Q_))|(refine zBx (Q:=Q_) (fun hp_=>?_) (fun hp_=>?_) <;> first|(exfalso;omega)|(refine hQ_ _ _ ?_;clear hQ_ Q_))|(refine hQ_ _ _ ?_;clear hQ_ Q_)))
  | (refine zHx fun K_ hK_=>?_;simp (disch:=omega) only [zGz,zAz,zHw,↓reduceIte,reduceCtorEq,Nat.reduceEqDiff,Nat.reduceLT];refine hK_ _ ?_;clear hK_ K_)))
        (refine zKz _ _ rfl (ret1 (by decide)) ?_;simp only [zAz,↓reduceIte,reduceCtorEq,Nat.reduceEqDiff];refine zKw rfl (by omega) ?_)
        exact ⟨rfl,rfl⟩
    · exact ⟨Nat.zero_le _,fun j _ hj=>absurd hj (Nat.not_lt_zero j),by simp only [zAz,↓reduceIte,reduceCtorEq,Nat.reduceEqDiff],by simp only [zAz,↓reduceIte,reduceCtorEq,Nat.reduceEqDiff];rfl,rfl,rfl⟩
end Go.Proofs.Ythaleckfgcgegaa
end

section
namespace Go.Proofs.Ythaleckfgcgegaa
open Go.Ev
set_option maxRecDepth 100000
set_option linter.unusedSimpArgs false
set_option linter.unusedVariables false
set_option maxHeartbeats 2000000
theorem tEvD8 :type_of% (And.intro (And.intro (And.intro (And.intro (And.intro (And.intro (And.intro (@yWz) (@yVv)) (And.intro (@yVw) (And.intro (@yVx) (@yVy)))) (And.intro (And.intro (@yVz) (And.intro (@yUv) (@yUw))) (And.intro (@zVy) (And.intro (@ia_2) (@sz_2))))) (And.intro (And.intro (And.intro (@ia_3) (@sz_3)) (And.intro (@ia_4) (And.intro (@sz_4) (@yUx)))) (And.intro (And.intro (@yDw) (And.intro (@yUy) (@yDx))) (And.intro (@yUz) (And.intro (@yDy) (@yTv)))))) (And.intro (And.intro (And.intro (And.intro (@zWw) (@yTw)) (And.intro (@yDz) (And.intro (@yTx) (@yCv)))) (And.intro (And.intro (@yTy) (And.intro (@yCw) (@yTz))) (And.intro (@yCx) (And.intro (@ySv) (@yCy))))) (And.intro (And.intro (And.intro (@ySw) (@yCz)) (And.intro (@ySx) (And.intro (@zXz) (@ySy)))) (And.intro (And.intro (@yBv) (And.intro (@ySz) (@yBw))) (And.intro (@yRv) (And.intro (@yBx) (@yRw))))))) (And.intro (And.intro (And.intro (And.intro (And.intro (@yBy) (@yRx)) (And.intro (@yBz) (And.intro (@yRy) (@yAv)))) (And.intro (And.intro (@yRz) (And.intro (@yAw) (@yQv))) (And.intro (@yAx) (And.intro (@yQw) (@yAy))))) (And.intro (And.intro (And.intro (@yQx) (@yAz)) (And.intro (@zVz) (And.intro (@zTw) (@zUv)))) (And.intro (And.intro (@zTx) (And.intro (@zUw) (@zTy))) (And.intro (@zUx) (And.intro (@zTz) (@zUy)))))) (And.intro (And.intro (And.intro (And.intro (@zSv) (@zUz)) (And.intro (@zSw) (And.intro (@zTv) (@zSx)))) (And.intro (And.intro (@ze_2) (And.intro (@ze_3) (@ze_4))) (And.intro (@zZv) (And.intro (@zZw) (@zZx))))) (And.intro (And.intro (And.intro (@zZy) (And.intro (@zZz) (@zYv))) (And.intro (@zYw) (And.intro (@zYx) (@zYy)))) (And.intro (And.intro (@zSy) (And.intro (@zRx) (@zRy))) (And.intro (@zRz) (And.intro (@zQv) (@zQw)))))))) (And.intro (And.intro (And.intro (And.intro (And.intro (And.intro (@zQx) (@zQy)) (And.intro (@zQz) (And.intro (@zPv) (@zPw)))) (And.intro (And.intro (@zPx) (And.intro (@zPy) (@zPz))) (And.intro (@zOv) (And.intro (@zOw) (@zOx))))) (And.intro (And.intro (And.intro (@zOy) (@zOz)) (And.intro (@zNv) (And.intro (@zNw) (@zNx)))) (And.intro (And.intro (@zNy) (And.intro (@zNz) (@zMv))) (And.intro (@zMw) (And.intro (@zMx) (@zMy)))))) (And.intro (And.intro (And.intro (And.intro (@zMz) (@yQy)) (And.intro (@yQz) (And.intro (@yPv) (@yPw)))) (And.intro (And.intro (@yPx) (And.intro (@yPy) (@yPz))) (And.intro (@yOv) (And.intro (@yOw) (@yOx))))) (And.intro (And.intro (And.intro (@yOy) (And.intro (@yOz) (@yNv))) (And.intro (@yNw) (And.intro (@yNx) (@yNy)))) (And.intro (And.intro (@yNz) (And.intro (@yMv) (@yMw))) (And.intro (@yMx) (And.intro (@yMy) (@yMz))))))) (And.intro (And.intro (And.intro (And.intro (And.intro (@yLv) (@yLw)) (And.intro (@yLx) (And.intro (@yLy) (@yLz)))) (And.intro (And.intro (@yKv) (And.intro (@yKw) (@yKx))) (And.intro (@yKy) (And.intro (@yKz) (@yJv))))) (And.intro (And.intro (And.intro (@yJw) (@yJx)) (And.intro (@yJy) (And.intro (@yJz) (@yIv)))) (And.intro (And.intro (@yIw) (And.intro (@yIx) (@yIy))) (And.intro (@yIz) (And.intro (@yHv) (@yHw)))))) (And.intro (And.intro (And.intro (And.intro (@yHx) (@yHy)) (And.intro (@yHz) (And.intro (@yGv) (@yGw)))) (And.intro (And.intro (@yGx) (And.intro (@zYz) (@zXv))) (And.intro (@yGy) (And.intro (@yGz) (@yFv))))) (And.intro (And.intro (And.intro (@yFw) (And.intro (@yFx) (@yFy))) (And.intro (@yFz) (And.intro (@yEv) (@yEw)))) (And.intro (And.intro (@yEx) (And.intro (@yEy) (@zXw))) (And.intro (@yEz) (And.intro (@yDv) (@zXx))))))))):=And.intro (And.intro (And.intro (And.intro (And.intro (And.intro (And.intro (@yWz) (@yVv)) (And.intro (@yVw) (And.intro (@yVx) (@yVy)))) (And.intro (And.intro (@yVz) (And.intro (@yUv) (@yUw))) (And.intro (@zVy) (And.intro (@ia_2) (@sz_2))))) (And.intro (And.intro (And.intro (@ia_3) (@sz_3)) (And.intro (@ia_4) (And.intro (@sz_4) (@yUx)))) (And.intro (And.intro (@yDw) (And.intro (@yUy) (@yDx))) (And.intro (@yUz) (And.intro (@yDy) (@yTv)))))) (And.intro (And.intro (And.intro (And.intro (@zWw) (@yTw)) (And.intro (@yDz) (And.intro (@yTx) (@yCv)))) (And.intro (And.intro (@yTy) (And.intro (@yCw) (@yTz))) (And.intro (@yCx) (And.intro (@ySv) (@yCy))))) (And.intro (And.intro (And.intro (@ySw) (@yCz)) (And.intro (@ySx) (And.intro (@zXz) (@ySy)))) (And.intro (And.intro (@yBv) (And.intro (@ySz) (@yBw))) (And.intro (@yRv) (And.intro (@yBx) (@yRw))))))) (And.intro (And.intro (And.intro (And.intro (And.intro (@yBy) (@yRx)) (And.intro (@yBz) (And.intro (@yRy) (@yAv)))) (And.intro (And.intro (@yRz) (And.intro (@yAw) (@yQv))) (And.intro (@yAx) (And.intro (@yQw) (@yAy))))) (And.intro (And.intro (And.intro (@yQx) (@yAz)) (And.intro (@zVz) (And.intro (@zTw) (@zUv)))) (And.intro (And.intro (@zTx) (And.intro (@zUw) (@zTy))) (And.intro (@zUx) (And.intro (@zTz) (@zUy)))))) (And.intro (And.intro (And.intro (And.intro (@zSv) (@zUz)) (And.intro (@zSw) (And.intro (@zTv) (@zSx)))) (And.intro (And.intro (@ze_2) (And.intro (@ze_3) (@ze_4))) (And.intro (@zZv) (And.intro (@zZw) (@zZx))))) (And.intro (And.intro (And.intro (@zZy) (And.intro (@zZz) (@zYv))) (And.intro (@zYw) (And.intro (@zYx) (@zYy)))) (And.intro (And.intro (@zSy) (And.intro (@zRx) (@zRy))) (And.intro (@zRz) (And.intro (@zQv) (@zQw)))))))) (And.intro (And.intro (And.intro (And.intro (And.intro (And.intro (@zQx) (@zQy)) (And.intro (@zQz) (And.intro (@zPv) (@zPw)))) (And.intro (And.intro (@zPx) (And.intro (@zPy) (@zPz))) (And.intro (@zOv) (And.intro (@zOw) (@zOx))))) (And.intro (And.intro (And.intro (@zOy) (@zOz)) (And.intro (@zNv) (And.intro (@zNw) (@zNx)))) (And.intro (And.intro (@zNy) (And.intro (@zNz) (@zMv))) (And.intro (@zMw) (And.intro (@zMx) (@zMy)))))) (And.intro (And.intro (And.intro (And.intro (@zMz) (@yQy)) (And.intro (@yQz) (And.intro (@yPv) (@yPw)))) (And.intro (And.intro (@yPx) (And.intro (@yPy) (@yPz))) (And.intro (@yOv) (And.intro (@yOw) (@yOx))))) (And.intro (And.intro (And.intro (@yOy) (And.intro (@yOz) (@yNv))) (And.intro (@yNw) (And.intro (@yNx) (@yNy)))) (And.intro (And.intro (@yNz) (And.intro (@yMv) (@yMw))) (And.intro (@yMx) (And.intro (@yMy) (@yMz))))))) (And.intro (And.intro (And.intro (And.intro (And.intro (@yLv) (@yLw)) (And.intro (@yLx) (And.intro (@yLy) (@yLz)))) (And.intro (And.intro (@yKv) (And.intro (@yKw) (@yKx))) (And.intro (@yKy) (And.intro (@yKz) (@yJv))))) (And.intro (And.intro (And.intro (@yJw) (@yJx)) (And.intro (@yJy) (And.intro (@yJz) (@yIv)))) (And.intro (And.intro (@yIw) (And.intro (@yIx) (@yIy))) (And.intro (@yIz) (And.intro (@yHv) (@yHw)))))) (And.intro (And.intro (And.intro (And.intro (@yHx) (@yHy)) (And.intro (@yHz) (And.intro (@yGv) (@yGw)))) (And.intro (And.intro (@yGx) (And.intro (@zYz) (@zXv))) (And.intro (@yGy) (And.intro (@yGz) (@yFv))))) (And.intro (And.intro (And.intro (@yFw) (And.intro (@yFx) (@yFy))) (And.intro (@yFz) (And.intro (@yEv) (@yEw)))) (And.intro (And.intro (@yEx) (And.intro (@yEy) (@zXw))) (And.intro (@yEz) (And.intro (@yDv) (@zXx))))))))
def testErr (T:Te):Int:=if okT T then 0 else 2
theorem zWx {T:Te} (k:okT T):testErr T=0:=if_pos k
theorem yYx {T:Te} (k : ¬ okT T):testErr T=2:=if_neg k
def tbs (T:Te):List Bd:=[(T.sp,T.sp,1,10000),(T.lo,T.lo,1,10000),(T.we,T.we,1,1000000),(T.al,T.al,1,10),(T.f0,T.f1,0,100000000),(T.t0,T.t1,500,3000),(T.s0,T.s1,500,3000),(T.o0,T.o1,0,1000),(T.b0,T.b1,0,200),(T.r0,T.r1,0,2000)]
theorem tbs_kept (T:Te):(∀ b ∈ tbs T,kept b) ↔ okT T:=by
  rw [okT_iff]
  simp only [tbs,List.mem_cons,List.not_mem_nil,or_false,forall_eq_or_imp,forall_eq,kept]
  omega
theorem CheckTest (T:Te) (h:H) (wf:Wf h):(om Try.prog KK).call (.fn 23 [.agg [ii T.sp,ii T.lo,ii T.we,ii T.al,ii T.f0,ii T.f1,ii T.t0,ii T.t1,ii T.s0,ii T.s1,ii T.o0,ii T.o1,ii T.b0,ii T.b1,ii T.r0,ii T.r1]]) h = .ok (ii (testErr T)) h:=by
  have c1 : ∀ n l w,w≤h.clock+l.length→(om Try.prog KK).call (.fn 52 [ii n]) (X h l w) = .ok (.agg [ii n,ii n]) (X h l w):=fun n l w hw=>one n _ (wf.X hw)
  have c2 : ∀ w,w≤h.clock+2→(om Try.prog KK).call (.fn 51 [.sl (nx h 1) 0 10 (some 10) 4]) (X h [.cells (zFw [ii T.sp,ii T.lo,ii T.we,ii T.al,ii T.f0,ii T.f1,ii T.t0,ii T.t1,ii T.s0,ii T.s1,ii T.o0,ii T.o1,ii T.b0,ii T.b1,ii T.r0,ii T.r1]) 35,.cells (zFw ((tbs T).flatMap bdC)) 87] w) = .ok (.bool (decide (okT T))) (X h [.cells (zFw [ii T.sp,ii T.lo,ii T.we,ii T.al,ii T.f0,ii T.f1,ii T.t0,ii T.t1,ii T.s0,ii T.s1,ii T.o0,ii T.o1,ii T.b0,ii T.b1,ii T.r0,ii T.r1]) 35,.cells (zFw ((tbs T).flatMap bdC)) 87] w):=fun w hw=>by
    refine (areKept _ (tbs T) (by simp [tbs]) _ (wf.X (by simp only [List.length_append,List.length_cons,List.length_nil];omega)) (Sl.new (cells:=(tbs T).flatMap bdC) wf (k:=1) rfl rfl)).trans ?_
    congr 2
    exact decide_eq_decide.2 (tbs_kept T)
  simp only [tbs,bdC,List.flatMap_cons,List.flatMap_nil,List.cons_append,List.nil_append,List.append_nil] at c2
  refine zWy (zLx (fn:=Try.f23) Try.func23 rfl rfl rfl rfl rfl ?_)
  simp only [zLy]
  (repeat' (first
  | (with_reducible first|refine zJw ?_|refine zHz ?_|refine zEv ?_|refine zEw ?_|refine zFz ?_|refine zJv ?_|refine zHy ?_|refine zBv ?_|refine zDx ?_|refine zCz ?_|refine zCw ?_|refine zEy ?_|refine zCv ?_|refine zCy ?_|refine zBy ?_|refine zDv ?_|refine zEz ?_|refine zAw ?_|refine zBz ?_)
  | refine zDz ?_|refine zEx rfl ?_|refine zJy ?_|refine zJx ?_
  | ((first|refine zGv rfl rfl rfl rfl rfl fun K_ hK_=>?_|refine zGw rfl rfl rfl rfl rfl fun K_ hK_=>?_);simp only [zAz,zDy,zGx,↓reduceIte,reduceCtorEq,Nat.reduceEqDiff,Bool.not_true,Bool.not_false];refine hK_ _ ?_;clear hK_ K_)
  | refine zDw (by decide) ?_
  | ((try first|refine zKy rfl rfl rfl ?_|refine zJz rfl rfl ?_|refine zKx rfl rfl rfl ?_|refine zIv rfl rfl ?_);(refine zIw fun Q_ hQ_=>?_;simp (disch:=first|omega|(simp only [List.length_cons,List.length_nil,List.length_append];omega)) only [bb,bp,zLy,↓reduceIte,reduceCtorEq,Nat.reduceEqDiff,Nat.reduceLT,Nat.reduceLeDiff,Nat.reduceAdd,Nat.reduceMul,Nat.reduceSub,Nat.reduceBEq,Int.reduceToNat,cond_true,cond_false,eq_self,beq_self_eq_true,zFx wf,zGy wf,zBw wf,zFy wf,zAy wf,zAx,tEvD8,zIx,zIy,zIz,zHv,zFv,zAv wf];first|(refine zCx (Q:=Q_) (fun hp_=>?_) (fun hp_=>?_) <;> first|(exfalso;omega)|(refine hQ_ _ _ ?_;clear hQ_ Q_))|(refine zBx (Q:=Q_) (fun hp_=>?_) (fun hp_=>?_) <;> first|(exfalso;omega)|(refine hQ_ _ _ ?_;clear hQ_ Q_))|(refine hQ_ _ _ ?_;clear hQ_ Q_)))
  | (refine zHx fun K_ hK_=>?_;simp (disch:=omega) only [zGz,zAz,zHw,↓reduceIte,reduceCtorEq,Nat.reduceEqDiff,Nat.reduceLT];refine hK_ _ ?_;clear hK_ K_)))
  refine zLv (List.replicate 34 .no++[.full,.full,.full]) (by kernel_rfl) ?_
  (repeat' (first
  | (with_reducible first|refine zJw ?_|refine zHz ?_|refine zEv ?_|refine zEw ?_|refine zFz ?_|refine zJv ?_|refine zHy ?_|refine zBv ?_|refine zDx ?_|refine zCz ?_|refine zCw ?_|refine zEy ?_|refine zCv ?_|refine zCy ?_|refine zBy ?_|refine zDv ?_|refine zEz ?_|refine zAw ?_|refine zBz ?_)
  | refine zDz ?_|refine zEx rfl ?_|refine zJy ?_|refine zJx ?_
  | ((first|refine zGv rfl rfl rfl rfl rfl fun K_ hK_=>?_|refine zGw rfl rfl rfl rfl rfl fun K_ hK_=>?_);simp only [zAz,zDy,zGx,↓reduceIte,reduceCtorEq,Nat.reduceEqDiff,Bool.not_true,Bool.not_false];refine hK_ _ ?_;clear hK_ K_)
  | refine zDw (by decide) ?_
  | ((try first|refine zKy rfl rfl rfl ?_|refine zJz rfl rfl ?_|refine zKx rfl rfl rfl ?_|refine zIv rfl rfl ?_);(refine zIw fun Q_ hQ_=>?_;simp (disch:=first|omega|(simp only [List.length_cons,List.length_nil,List.length_append];omega)) only [bb,bp,zLy,↓reduceIte,reduceCtorEq,Nat.reduceEqDiff,Nat.reduceLT,Nat.reduceLeDiff,Nat.reduceAdd,Nat.reduceMul,Nat.reduceSub,Nat.reduceBEq,Int.reduceToNat,cond_true,cond_false,eq_self,beq_self_eq_true,c1,c2,zFx wf,zGy wf,zBw wf,zFy wf,zAy wf,zAx,tEvD8,zIx,zIy,zIz,zHv,zFv,zAv wf];first|(refine zCx (Q:=Q_) (fun hp_=>?_) (fun hp_=>?_) <;> first|(exfalso;omega)|(refine hQ_ _ _ ?_;clear hQ_ Q_))|(refine zBx (Q:=Q_) (fun hp_=>?_) (fun hp_=>?_) <;> first|(exfalso;omega)|(refine hQ_ _ _ ?_;clear hQ_ Q_))|(refine hQ_ _ _ ?_;clear hQ_ Q_)))
  | (refine zHx fun K_ hK_=>?_;simp (disch:=omega) only [zGz,zAz,zHw,↓reduceIte,reduceCtorEq,Nat.reduceEqDiff,Nat.reduceLT];refine hK_ _ ?_;clear hK_ K_)))
  all_goals (refine zKz _ _ rfl (ret1 (by decide)) ?_;simp only [zAz,↓reduceIte,reduceCtorEq,Nat.reduceEqDiff];refine zKw rfl (by omega) ?_)
  · exact ⟨by rw [zWx (by assumption)],rfl⟩
  · exact ⟨by rw [yYx (by assumption)],rfl⟩
theorem refCheckTest (T:Te) (h:H) (wf:Wf h):(om Try.prog KK).call (.fn 24 [.agg [ii T.sp,ii T.lo,ii T.we,ii T.al,ii T.f0,ii T.f1,ii T.t0,ii T.t1,ii T.s0,ii T.s1,ii T.o0,ii T.o1,ii T.b0,ii T.b1,ii T.r0,ii T.r1]]) h = .ok (ii (testErr T)) h:=by
  have c1 : ∀ n u v l w,w≤h.clock+l.length→(om Try.prog KK).call (.fn 42 [ii n,ii u,ii v]) (X h l w) = .ok (.bool (decide (u≤n∧n≤v))) (X h l w):=fun n u v l w hw=>between n u v _ (wf.X hw)
  have c2 : ∀ n m u v l w,w≤h.clock+l.length→(om Try.prog KK).call (.fn 53 [.agg [ii n,ii m],ii u,ii v]) (X h l w) = .ok (.bool (decide (u≤n∧n≤m∧m≤v))) (X h l w):=fun n m u v l w hw=>within n m u v _ (wf.X hw)
  have hiff:=okT_iff T
  refine zWy (zLx (fn:=Try.f24) Try.func24 rfl rfl rfl rfl rfl ?_)
  simp only [zLy]
  (repeat' (first
  | (with_reducible first|refine zJw ?_|refine zHz ?_|refine zEv ?_|refine zEw ?_|refine zFz ?_|refine zJv ?_|refine zHy ?_|refine zBv ?_|refine zDx ?_|refine zCz ?_|refine zCw ?_|refine zEy ?_|refine zCv ?_|refine zCy ?_|refine zBy ?_|refine zDv ?_|refine zEz ?_|refine zAw ?_|refine zBz ?_)
  | refine zDz ?_|refine zEx rfl ?_|refine zJy ?_|refine zJx ?_
  | ((first|refine zGv rfl rfl rfl rfl rfl fun K_ hK_=>?_|refine zGw rfl rfl rfl rfl rfl fun K_ hK_=>?_);simp only [zAz,zDy,zGx,↓reduceIte,reduceCtorEq,Nat.reduceEqDiff,Bool.not_true,Bool.not_false];refine hK_ _ ?_;clear hK_ K_)
  | refine zDw (by decide) ?_
  | ((try first|refine zKy rfl rfl rfl ?_|refine zJz rfl rfl ?_|refine zKx rfl rfl rfl ?_|refine zIv rfl rfl ?_);(refine zIw fun Q_ hQ_=>?_;simp (disch:=first|omega|(simp only [List.length_cons,List.length_nil,List.length_append];omega)) only [bb,bp,zLy,↓reduceIte,reduceCtorEq,Nat.reduceEqDiff,Nat.reduceLT,Nat.reduceLeDiff,Nat.reduceAdd,Nat.reduceMul,Nat.reduceSub,Nat.reduceBEq,Int.reduceToNat,cond_true,cond_false,eq_self,beq_self_eq_true,c1,c2,zFx wf,zGy wf,zBw wf,zFy wf,zAy wf,zAx,tEvD8,zIx,zIy,zIz,zHv,zFv,zAv wf];first|(refine zCx (Q:=Q_) (fun hp_=>?_) (fun hp_=>?_) <;> first|(exfalso;omega)|(refine hQ_ _ _ ?_;clear hQ_ Q_))|(refine zBx (Q:=Q_) (fun hp_=>?_) (fun hp_=>?_) <;> first|(exfalso;omega)|(refine hQ_ _ _ ?_;clear hQ_ Q_))|(refine hQ_ _ _ ?_;clear hQ_ Q_)))
  | (refine zHx fun K_ hK_=>?_;simp (disch:=omega) only [zGz,zAz,zHw,↓reduceIte,reduceCtorEq,Nat.reduceEqDiff,Nat.reduceLT];refine hK_ _ ?_;clear hK_ K_)))
  all_goals (refine zKz _ _ rfl (ret1 (by decide)) ?_;simp only [zAz,↓reduceIte,reduceCtorEq,Nat.reduceEqDiff];refine zKw rfl (by omega) ?_)
  all_goals first
    | exact ⟨by rw [zWx (hiff.2 ⟨by assumption,by assumption,by assumption,by assumption,by assumption,by assumption,by assumption,by assumption,by assumption,by assumption⟩)],rfl⟩
    | exact ⟨by rw [yYx (fun k=>by have:=hiff.1 k;omega)],rfl⟩
end Go.Proofs.Ythaleckfgcgegaa
end

section
namespace Go.Proofs.Ythaleckfgcgegaa
open Go.Ev
set_option maxRecDepth 100000
set_option linter.unusedSimpArgs false
set_option linter.unusedVariables false
set_option maxHeartbeats 2000000
theorem tEvD9 :type_of% (And.intro (And.intro (And.intro (And.intro (And.intro (And.intro (And.intro (@yWz) (@yVv)) (And.intro (@yVw) (And.intro (@yVx) (@yVy)))) (And.intro (And.intro (@yVz) (And.intro (@yUv) (@yUw))) (And.intro (@zVy) (And.intro (@ia_2) (@sz_2))))) (And.intro (And.intro (And.intro (@ia_3) (@sz_3)) (And.intro (@ia_4) (And.intro (@sz_4) (@yUx)))) (And.intro (And.intro (@yDw) (And.intro (@yUy) (@yDx))) (And.intro (@yUz) (And.intro (@yDy) (@yTv)))))) (And.intro (And.intro (And.intro (And.intro (@zWw) (@yTw)) (And.intro (@yDz) (And.intro (@yTx) (@yCv)))) (And.intro (And.intro (@yTy) (And.intro (@yCw) (@yTz))) (And.intro (@yCx) (And.intro (@ySv) (@yCy))))) (And.intro (And.intro (And.intro (@ySw) (@yCz)) (And.intro (@ySx) (And.intro (@zXz) (@ySy)))) (And.intro (And.intro (@yBv) (And.intro (@ySz) (@yBw))) (And.intro (@yRv) (And.intro (@yBx) (@yRw))))))) (And.intro (And.intro (And.intro (And.intro (And.intro (@yBy) (@yRx)) (And.intro (@yBz) (And.intro (@yRy) (@yAv)))) (And.intro (And.intro (@yRz) (And.intro (@yAw) (@yQv))) (And.intro (@yAx) (And.intro (@yQw) (@yAy))))) (And.intro (And.intro (And.intro (@yQx) (@yAz)) (And.intro (@zVz) (And.intro (@zTw) (@zUv)))) (And.intro (And.intro (@zTx) (And.intro (@zUw) (@zTy))) (And.intro (@zUx) (And.intro (@zTz) (@zUy)))))) (And.intro (And.intro (And.intro (And.intro (@zSv) (@zUz)) (And.intro (@zSw) (And.intro (@zTv) (@zSx)))) (And.intro (And.intro (@ze_2) (And.intro (@ze_3) (@ze_4))) (And.intro (@zZv) (And.intro (@zZw) (@zZx))))) (And.intro (And.intro (And.intro (@zZy) (And.intro (@zZz) (@zYv))) (And.intro (@zYw) (And.intro (@zYx) (@zYy)))) (And.intro (And.intro (@zSy) (And.intro (@zRx) (@zRy))) (And.intro (@zRz) (And.intro (@zQv) (@zQw)))))))) (And.intro (And.intro (And.intro (And.intro (And.intro (And.intro (@zQx) (@zQy)) (And.intro (@zQz) (And.intro (@zPv) (@zPw)))) (And.intro (And.intro (@zPx) (And.intro (@zPy) (@zPz))) (And.intro (@zOv) (And.intro (@zOw) (@zOx))))) (And.intro (And.intro (And.intro (@zOy) (@zOz)) (And.intro (@zNv) (And.intro (@zNw) (@zNx)))) (And.intro (And.intro (@zNy) (And.intro (@zNz) (@zMv))) (And.intro (@zMw) (And.intro (@zMx) (@zMy)))))) (And.intro (And.intro (And.intro (And.intro (@zMz) (@yQy)) (And.intro (@yQz) (And.intro (@yPv) (@yPw)))) (And.intro (And.intro (@yPx) (And.intro (@yPy) (@yPz))) (And.intro (@yOv) (And.intro (@yOw) (@yOx))))) (And.intro (And.intro (And.intro (@yOy) (And.intro (@yOz) (@yNv))) (And.intro (@yNw) (And.intro (@yNx) (@yNy)))) (And.intro (And.intro (@yNz) (And.intro (@yMv) (@yMw))) (And.intro (@yMx) (And.intro (@yMy) (@yMz))))))) (And.intro (And.intro (And.intro (And.intro (And.intro (@yLv) (@yLw)) (And.intro (@yLx) (And.intro (@yLy) (@yLz)))) (And.intro (And.intro (@yKv) (And.intro (@yKw) (@yKx))) (And.intro (@yKy) (And.intro (@yKz) (@yJv))))) (And.intro (And.intro (And.intro (@yJw) (@yJx)) (And.intro (@yJy) (And.intro (@yJz) (@yIv)))) (And.intro (And.intro (@yIw) (And.intro (@yIx) (@yIy))) (And.intro (@yIz) (And.intro (@yHv) (@yHw)))))) (And.intro (And.intro (And.intro (And.intro (@yHx) (@yHy)) (And.intro (@yHz) (And.intro (@yGv) (@yGw)))) (And.intro (And.intro (@yGx) (And.intro (@zYz) (@zXv))) (And.intro (@yGy) (And.intro (@yGz) (@yFv))))) (And.intro (And.intro (And.intro (@yFw) (And.intro (@yFx) (@yFy))) (And.intro (@yFz) (And.intro (@yEv) (@yEw)))) (And.intro (And.intro (@yEx) (And.intro (@yEy) (@zXw))) (And.intro (@yEz) (And.intro (@yDv) (@zXx))))))))):=And.intro (And.intro (And.intro (And.intro (And.intro (And.intro (And.intro (@yWz) (@yVv)) (And.intro (@yVw) (And.intro (@yVx) (@yVy)))) (And.intro (And.intro (@yVz) (And.intro (@yUv) (@yUw))) (And.intro (@zVy) (And.intro (@ia_2) (@sz_2))))) (And.intro (And.intro (And.intro (@ia_3) (@sz_3)) (And.intro (@ia_4) (And.intro (@sz_4) (@yUx)))) (And.intro (And.intro (@yDw) (And.intro (@yUy) (@yDx))) (And.intro (@yUz) (And.intro (@yDy) (@yTv)))))) (And.intro (And.intro (And.intro (And.intro (@zWw) (@yTw)) (And.intro (@yDz) (And.intro (@yTx) (@yCv)))) (And.intro (And.intro (@yTy) (And.intro (@yCw) (@yTz))) (And.intro (@yCx) (And.intro (@ySv) (@yCy))))) (And.intro (And.intro (And.intro (@ySw) (@yCz)) (And.intro (@ySx) (And.intro (@zXz) (@ySy)))) (And.intro (And.intro (@yBv) (And.intro (@ySz) (@yBw))) (And.intro (@yRv) (And.intro (@yBx) (@yRw))))))) (And.intro (And.intro (And.intro (And.intro (And.intro (@yBy) (@yRx)) (And.intro (@yBz) (And.intro (@yRy) (@yAv)))) (And.intro (And.intro (@yRz) (And.intro (@yAw) (@yQv))) (And.intro (@yAx) (And.intro (@yQw) (@yAy))))) (And.intro (And.intro (And.intro (@yQx) (@yAz)) (And.intro (@zVz) (And.intro (@zTw) (@zUv)))) (And.intro (And.intro (@zTx) (And.intro (@zUw) (@zTy))) (And.intro (@zUx) (And.intro (@zTz) (@zUy)))))) (And.intro (And.intro (And.intro (And.intro (@zSv) (@zUz)) (And.intro (@zSw) (And.intro (@zTv) (@zSx)))) (And.intro (And.intro (@ze_2) (And.intro (@ze_3) (@ze_4))) (And.intro (@zZv) (And.intro (@zZw) (@zZx))))) (And.intro (And.intro (And.intro (@zZy) (And.intro (@zZz) (@zYv))) (And.intro (@zYw) (And.intro (@zYx) (@zYy)))) (And.intro (And.intro (@zSy) (And.intro (@zRx) (@zRy))) (And.intro (@zRz) (And.intro (@zQv) (@zQw)))))))) (And.intro (And.intro (And.intro (And.intro (And.intro (And.intro (@zQx) (@zQy)) (And.intro (@zQz) (And.intro (@zPv) (@zPw)))) (And.intro (And.intro (@zPx) (And.intro (@zPy) (@zPz))) (And.intro (@zOv) (And.intro (@zOw) (@zOx))))) (And.intro (And.intro (And.intro (@zOy) (@zOz)) (And.intro (@zNv) (And.intro (@zNw) (@zNx)))) (And.intro (And.intro (@zNy) (And.intro (@zNz) (@zMv))) (And.intro (@zMw) (And.intro (@zMx) (@zMy)))))) (And.intro (And.intro (And.intro (And.intro (@zMz) (@yQy)) (And.intro (@yQz) (And.intro (@yPv) (@yPw)))) (And.intro (And.intro (@yPx) (And.intro (@yPy) (@yPz))) (And.intro (@yOv) (And.intro (@yOw) (@yOx))))) (And.intro (And.intro (And.intro (@yOy) (And.intro (@yOz) (@yNv))) (And.intro (@yNw) (And.intro (@yNx) (@yNy)))) (And.intro (And.intro (@yNz) (And.intro (@yMv) (@yMw))) (And.intro (@yMx) (And.intro (@yMy) (@yMz))))))) (And.intro (And.intro (And.intro (And.intro (And.intro (@yLv) (@yLw)) (And.intro (@yLx) (And.intro (@yLy) (@yLz)))) (And.intro (And.intro (@yKv) (And.intro (@yKw) (@yKx))) (And.intro (@yKy) (And.intro (@yKz) (@yJv))))) (And.intro (And.intro (And.intro (@yJw) (@yJx)) (And.intro (@yJy) (And.intro (@yJz) (@yIv)))) (And.intro (And.intro (@yIw) (And.intro (@yIx) (@yIy))) (And.intro (@yIz) (And.intro (@yHv) (@yHw)))))) (And.intro (And.intro (And.intro (And.intro (@yHx) (@yHy)) (And.intro (@yHz) (And.intro (@yGv) (@yGw)))) (And.intro (And.intro (@yGx) (And.intro (@zYz) (@zXv))) (And.intro (@yGy) (And.intro (@yGz) (@yFv))))) (And.intro (And.intro (And.intro (@yFw) (And.intro (@yFx) (@yFy))) (And.intro (@yFz) (And.intro (@yEv) (@yEw)))) (And.intro (And.intro (@yEx) (And.intro (@yEy) (@zXw))) (And.intro (@yEz) (And.intro (@yDv) (@zXx))))))))
theorem retcc0 {P:Program} {h:H} {a t b u:Nat} {f:TF} {x y:AV} (ha:a<384) (hb:b<384) (hl:loadE P t (f a) h=some x) (hm:loadE P u (f b) h=some y):retE P [.cell a t,.cell b u] (mkM f) h = .ok (.tup [x,y]) h:=by
  simp only [retE,resultsE,resultE,yXw _ _ ha,yXw _ _ hb,hl,hm]
theorem retcc1 {P:Program} {h:H} {a t b u v:Nat} {f:TF} {x y:AV} (ha:a<384) (hb:b<384) (hv:v<384) (hl:loadE P t (f a) h=some x) (hm:loadE P u (f b) h=some y):retE P [.cell a t,.cell b u,.tmp v] (mkM f) h = .ok (.tup [x,y,f v]) h:=by
  simp only [retE,resultsE,resultE,yXw _ _ ha,yXw _ _ hb,yXw _ _ hv,hl,hm]
theorem reynolds (T:Te) (k:okT T) (lv:AV) (hf:AV.cells lv=[lv]∧oneB lv=true) (h:H) (wf:Wf h):(om Try.prog KK).call (.fn 43 [.agg [ii T.sp,ii T.lo,ii T.we,ii T.al,ii T.f0,ii T.f1,ii T.t0,ii T.t1,ii T.s0,ii T.s1,ii T.o0,ii T.o1,ii T.b0,ii T.b1,ii T.r0,ii T.r1,lv]]) h = .ok (.tup [.agg [ii (mo T T.t1),ii (mo T T.t0)],.agg [ii (sh T T.s1),ii (sh T T.s0)]]) h:=by
  obtain ⟨f1,f2⟩:=hf
  have kt:=k.t
  have ks:=k.s
  have c1 : ∀ n l w,0<n→w≤h.clock+l.length→(om Try.prog KK).call (.fn 46 [.agg [ii T.sp,ii T.lo,ii T.we,ii T.al,ii T.f0,ii T.f1,ii T.t0,ii T.t1,ii T.s0,ii T.s1,ii T.o0,ii T.o1,ii T.b0,ii T.b1,ii T.r0,ii T.r1,lv],ii n]) (X h l w) = .ok (ii (mo T n)) (X h l w):=fun n l w h0 hw=>model T k lv n h0 _ (wf.X hw)
  have c2 : ∀ n l w,0<n→w≤h.clock+l.length→(om Try.prog KK).call (.fn 47 [.agg [ii T.sp,ii T.lo,ii T.we,ii T.al,ii T.f0,ii T.f1,ii T.t0,ii T.t1,ii T.s0,ii T.s1,ii T.o0,ii T.o1,ii T.b0,ii T.b1,ii T.r0,ii T.r1,lv],ii n]) (X h l w) = .ok (ii (sh T n)) (X h l w):=fun n l w h0 hw=>shipN T k lv n h0 _ (wf.X hw)
  refine zWy (zLx (fn:=Try.f43) Try.func43 rfl rfl rfl rfl rfl ?_)
  simp only [zLy]
  (repeat' (first
  | (with_reducible first|refine zJw ?_|refine zHz ?_|refine zEv ?_|refine zEw ?_|refine zFz ?_|refine zJv ?_|refine zHy ?_|refine zBv ?_|refine zDx ?_|refine zCz ?_|refine zCw ?_|refine zEy ?_|refine zCv ?_|refine zCy ?_|refine zBy ?_|refine zDv ?_|refine zEz ?_|refine zAw ?_|refine zBz ?_)
  | refine zDz ?_|refine zEx rfl ?_|refine zJy ?_|refine zJx ?_
  | ((first|refine zGv rfl rfl rfl rfl rfl fun K_ hK_=>?_|refine zGw rfl rfl rfl rfl rfl fun K_ hK_=>?_);simp only [zAz,zDy,zGx,↓reduceIte,reduceCtorEq,Nat.reduceEqDiff,Bool.not_true,Bool.not_false];refine hK_ _ ?_;clear hK_ K_)
  | refine zDw (by decide) ?_
  | ((try first|refine zKy rfl rfl rfl ?_|refine zJz rfl rfl ?_|refine zKx rfl rfl rfl ?_|refine zIv rfl rfl ?_);(refine zIw fun Q_ hQ_=>?_;simp (disch:=first|omega|(simp only [List.length_cons,List.length_nil,List.length_append];omega)) only [bb,bp,zLy,↓reduceIte,reduceCtorEq,Nat.reduceEqDiff,Nat.reduceLT,Nat.reduceLeDiff,Nat.reduceAdd,Nat.reduceMul,Nat.reduceSub,Nat.reduceBEq,Int.reduceToNat,cond_true,cond_false,eq_self,beq_self_eq_true,f1,f2,zFx wf,zGy wf,zBw wf,zFy wf,zAy wf,zAx,tEvD9,zIx,zIy,zIz,zHv,zFv,zAv wf];first|(refine zCx (Q:=Q_) (fun hp_=>?_) (fun hp_=>?_) <;> first|(exfalso;omega)|(refine hQ_ _ _ ?_;clear hQ_ Q_))|(refine zBx (Q:=Q_) (fun hp_=>?_) (fun hp_=>?_) <;> first|(exfalso;omega)|(refine hQ_ _ _ ?_;clear hQ_ Q_))|(refine hQ_ _ _ ?_;clear hQ_ Q_)))
  | (refine zHx fun K_ hK_=>?_;simp (disch:=omega) only [zGz,zAz,zHw,↓reduceIte,reduceCtorEq,Nat.reduceEqDiff,Nat.reduceLT];refine hK_ _ ?_;clear hK_ K_)))
  refine zLv (List.replicate 14 .no++[.full]) (by kernel_rfl) ?_
  (repeat' (first
  | (with_reducible first|refine zJw ?_|refine zHz ?_|refine zEv ?_|refine zEw ?_|refine zFz ?_|refine zJv ?_|refine zHy ?_|refine zBv ?_|refine zDx ?_|refine zCz ?_|refine zCw ?_|refine zEy ?_|refine zCv ?_|refine zCy ?_|refine zBy ?_|refine zDv ?_|refine zEz ?_|refine zAw ?_|refine zBz ?_)
  | refine zDz ?_|refine zEx rfl ?_|refine zJy ?_|refine zJx ?_
  | ((first|refine zGv rfl rfl rfl rfl rfl fun K_ hK_=>?_|refine zGw rfl rfl rfl rfl rfl fun K_ hK_=>?_);simp only [zAz,zDy,zGx,↓reduceIte,reduceCtorEq,Nat.reduceEqDiff,Bool.not_true,Bool.not_false];refine hK_ _ ?_;clear hK_ K_)
  | refine zDw (by decide) ?_
  | ((try first|refine zKy rfl rfl rfl ?_|refine zJz rfl rfl ?_|refine zKx rfl rfl rfl ?_|refine zIv rfl rfl ?_);(refine zIw fun Q_ hQ_=>?_;simp (disch:=first|omega|(simp only [List.length_cons,List.length_nil,List.length_append];omega)) only [bb,bp,zLy,↓reduceIte,reduceCtorEq,Nat.reduceEqDiff,Nat.reduceLT,Nat.reduceLeDiff,Nat.reduceAdd,Nat.reduceMul,Nat.reduceSub,Nat.reduceBEq,Int.reduceToNat,cond_true,cond_false,eq_self,beq_self_eq_true,f1,f2,c1,zFx wf,zGy wf,zBw wf,zFy wf,zAy wf,zAx,tEvD9,zIx,zIy,zIz,zHv,zFv,zAv wf];first|(refine zCx (Q:=Q_) (fun hp_=>?_) (fun hp_=>?_) <;> first|(exfalso;omega)|(refine hQ_ _ _ ?_;clear hQ_ Q_))|(refine zBx (Q:=Q_) (fun hp_=>?_) (fun hp_=>?_) <;> first|(exfalso;omega)|(refine hQ_ _ _ ?_;clear hQ_ Q_))|(refine hQ_ _ _ ?_;clear hQ_ Q_)))
  | (refine zHx fun K_ hK_=>?_;simp (disch:=omega) only [zGz,zAz,zHw,↓reduceIte,reduceCtorEq,Nat.reduceEqDiff,Nat.reduceLT];refine hK_ _ ?_;clear hK_ K_)))
  refine zLv (List.replicate 14 .no++[.full]) (by kernel_rfl) ?_
  (repeat' (first
  | (with_reducible first|refine zJw ?_|refine zHz ?_|refine zEv ?_|refine zEw ?_|refine zFz ?_|refine zJv ?_|refine zHy ?_|refine zBv ?_|refine zDx ?_|refine zCz ?_|refine zCw ?_|refine zEy ?_|refine zCv ?_|refine zCy ?_|refine zBy ?_|refine zDv ?_|refine zEz ?_|refine zAw ?_|refine zBz ?_)
  | refine zDz ?_|refine zEx rfl ?_|refine zJy ?_|refine zJx ?_
  | ((first|refine zGv rfl rfl rfl rfl rfl fun K_ hK_=>?_|refine zGw rfl rfl rfl rfl rfl fun K_ hK_=>?_);simp only [zAz,zDy,zGx,↓reduceIte,reduceCtorEq,Nat.reduceEqDiff,Bool.not_true,Bool.not_false];refine hK_ _ ?_;clear hK_ K_)
  | refine zDw (by decide) ?_
  | ((try first|refine zKy rfl rfl rfl ?_|refine zJz rfl rfl ?_|refine zKx rfl rfl rfl ?_|refine zIv rfl rfl ?_);(refine zIw fun Q_ hQ_=>?_;simp (disch:=first|omega|(simp only [List.length_cons,List.length_nil,List.length_append];omega)) only [bb,bp,zLy,↓reduceIte,reduceCtorEq,Nat.reduceEqDiff,Nat.reduceLT,Nat.reduceLeDiff,Nat.reduceAdd,Nat.reduceMul,Nat.reduceSub,Nat.reduceBEq,Int.reduceToNat,cond_true,cond_false,eq_self,beq_self_eq_true,f1,f2,c2,zFx wf,zGy wf,zBw wf,zFy wf,zAy wf,zAx,tEvD9,zIx,zIy,zIz,zHv,zFv,zAv wf];first|(refine zCx (Q:=Q_) (fun hp_=>?_) (fun hp_=>?_) <;> first|(exfalso;omega)|(refine hQ_ _ _ ?_;clear hQ_ Q_))|(refine zBx (Q:=Q_) (fun hp_=>?_) (fun hp_=>?_) <;> first|(exfalso;omega)|(refine hQ_ _ _ ?_;clear hQ_ Q_))|(refine hQ_ _ _ ?_;clear hQ_ Q_)))
  | (refine zHx fun K_ hK_=>?_;simp (disch:=omega) only [zGz,zAz,zHw,↓reduceIte,reduceCtorEq,Nat.reduceEqDiff,Nat.reduceLT];refine hK_ _ ?_;clear hK_ K_)))
  refine zLv [.no,.no,.soft [5],.full] (by kernel_rfl) ?_
  (repeat' (first
  | (with_reducible first|refine zJw ?_|refine zHz ?_|refine zEv ?_|refine zEw ?_|refine zFz ?_|refine zJv ?_|refine zHy ?_|refine zBv ?_|refine zDx ?_|refine zCz ?_|refine zCw ?_|refine zEy ?_|refine zCv ?_|refine zCy ?_|refine zBy ?_|refine zDv ?_|refine zEz ?_|refine zAw ?_|refine zBz ?_)
  | refine zDz ?_|refine zEx rfl ?_|refine zJy ?_|refine zJx ?_
  | ((first|refine zGv rfl rfl rfl rfl rfl fun K_ hK_=>?_|refine zGw rfl rfl rfl rfl rfl fun K_ hK_=>?_);simp only [zAz,zDy,zGx,↓reduceIte,reduceCtorEq,Nat.reduceEqDiff,Bool.not_true,Bool.not_false];refine hK_ _ ?_;clear hK_ K_)
  | refine zDw (by decide) ?_
  | ((try first|refine zKy rfl rfl rfl ?_|refine zJz rfl rfl ?_|refine zKx rfl rfl rfl ?_|refine zIv rfl rfl ?_);(refine zIw fun Q_ hQ_=>?_;simp (disch:=first|omega|(simp only [List.length_cons,List.length_nil,List.length_append];omega)) only [bb,bp,zLy,↓reduceIte,reduceCtorEq,Nat.reduceEqDiff,Nat.reduceLT,Nat.reduceLeDiff,Nat.reduceAdd,Nat.reduceMul,Nat.reduceSub,Nat.reduceBEq,Int.reduceToNat,cond_true,cond_false,eq_self,beq_self_eq_true,f1,f2,zFx wf,zGy wf,zBw wf,zFy wf,zAy wf,zAx,tEvD9,zIx,zIy,zIz,zHv,zFv,zAv wf];first|(refine zCx (Q:=Q_) (fun hp_=>?_) (fun hp_=>?_) <;> first|(exfalso;omega)|(refine hQ_ _ _ ?_;clear hQ_ Q_))|(refine zBx (Q:=Q_) (fun hp_=>?_) (fun hp_=>?_) <;> first|(exfalso;omega)|(refine hQ_ _ _ ?_;clear hQ_ Q_))|(refine hQ_ _ _ ?_;clear hQ_ Q_)))
  | (refine zHx fun K_ hK_=>?_;simp (disch:=omega) only [zGz,zAz,zHw,↓reduceIte,reduceCtorEq,Nat.reduceEqDiff,Nat.reduceLT];refine hK_ _ ?_;clear hK_ K_)))
  (refine zIv rfl rfl (WV_soft (v:=.tup []) (by simp (disch:=first|omega|(simp only [List.length_cons,List.length_nil,List.length_append];omega)) only [bb,bp,zLy,↓reduceIte,reduceCtorEq,Nat.reduceEqDiff,Nat.reduceLT,Nat.reduceLeDiff,Nat.reduceAdd,Nat.reduceMul,Nat.reduceSub,Nat.reduceBEq,Int.reduceToNat,cond_true,cond_false,eq_self,beq_self_eq_true,zFx wf,zGy wf,zBw wf,zFy wf,zAy wf,zAx,tEvD9,zIx,zIy,zIz,zHv,zFv,zAv wf];rfl) (wBz rfl rfl (nx_ne (by decide)) (by decide) (by decide)) ?_))
  (repeat' (first
  | (with_reducible first|refine zJw ?_|refine zHz ?_|refine zEv ?_|refine zEw ?_|refine zFz ?_|refine zJv ?_|refine zHy ?_|refine zBv ?_|refine zDx ?_|refine zCz ?_|refine zCw ?_|refine zEy ?_|refine zCv ?_|refine zCy ?_|refine zBy ?_|refine zDv ?_|refine zEz ?_|refine zAw ?_|refine zBz ?_)
  | refine zDz ?_|refine zEx rfl ?_|refine zJy ?_|refine zJx ?_
  | ((first|refine zGv rfl rfl rfl rfl rfl fun K_ hK_=>?_|refine zGw rfl rfl rfl rfl rfl fun K_ hK_=>?_);simp only [zAz,zDy,zGx,↓reduceIte,reduceCtorEq,Nat.reduceEqDiff,Bool.not_true,Bool.not_false];refine hK_ _ ?_;clear hK_ K_)
  | refine zDw (by decide) ?_
  | ((try first|refine zKy rfl rfl rfl ?_|refine zJz rfl rfl ?_|refine zKx rfl rfl rfl ?_|refine zIv rfl rfl ?_);(refine zIw fun Q_ hQ_=>?_;simp (disch:=first|omega|(simp only [List.length_cons,List.length_nil,List.length_append];omega)) only [bb,bp,zLy,↓reduceIte,reduceCtorEq,Nat.reduceEqDiff,Nat.reduceLT,Nat.reduceLeDiff,Nat.reduceAdd,Nat.reduceMul,Nat.reduceSub,Nat.reduceBEq,Int.reduceToNat,cond_true,cond_false,eq_self,beq_self_eq_true,f1,f2,zFx wf,zGy wf,zBw wf,zFy wf,zAy wf,zAx,tEvD9,zIx,zIy,zIz,zHv,zFv,zAv wf];first|(refine zCx (Q:=Q_) (fun hp_=>?_) (fun hp_=>?_) <;> first|(exfalso;omega)|(refine hQ_ _ _ ?_;clear hQ_ Q_))|(refine zBx (Q:=Q_) (fun hp_=>?_) (fun hp_=>?_) <;> first|(exfalso;omega)|(refine hQ_ _ _ ?_;clear hQ_ Q_))|(refine hQ_ _ _ ?_;clear hQ_ Q_)))
  | (refine zHx fun K_ hK_=>?_;simp (disch:=omega) only [zGz,zAz,zHw,↓reduceIte,reduceCtorEq,Nat.reduceEqDiff,Nat.reduceLT];refine hK_ _ ?_;clear hK_ K_)))
  refine zKz _ _ rfl (retcc0 (by decide) (by decide) (by simp (disch:=first|omega|(simp only [List.length_cons,List.length_nil,List.length_append];omega)) only [bb,bp,zLy,↓reduceIte,reduceCtorEq,Nat.reduceEqDiff,Nat.reduceLT,Nat.reduceLeDiff,Nat.reduceAdd,Nat.reduceMul,Nat.reduceSub,Nat.reduceBEq,Int.reduceToNat,cond_true,cond_false,eq_self,beq_self_eq_true,zBw wf,tEvD9,zIx,zIy,zIz,zHv,zFv,zAv wf];rfl) (by simp (disch:=first|omega|(simp only [List.length_cons,List.length_nil,List.length_append];omega)) only [bb,bp,zLy,↓reduceIte,reduceCtorEq,Nat.reduceEqDiff,Nat.reduceLT,Nat.reduceLeDiff,Nat.reduceAdd,Nat.reduceMul,Nat.reduceSub,Nat.reduceBEq,Int.reduceToNat,cond_true,cond_false,eq_self,beq_self_eq_true,zBw wf,tEvD9,zIx,zIy,zIz,zHv,zFv,zAv wf];rfl)) ?_
  refine zKw rfl (by omega) ?_
  exact ⟨rfl,rfl⟩

def RR (a b:Int):AV:=.agg [ii a,ii b]
def reyA (T:Te):AV:=if okT T then .agg [ii (mo T T.t1),ii (mo T T.t0)] else .agg [ii 0,ii 0]
def reyB (T:Te):AV:=if okT T then .agg [ii (sh T T.s1),ii (sh T T.s0)] else .agg [ii 0,ii 0]
theorem Reynolds (T:Te) (h:H) (wf:Wf h):(om Try.prog KK).call (.fn 19 [.agg [ii T.sp,ii T.lo,ii T.we,ii T.al,ii T.f0,ii T.f1,ii T.t0,ii T.t1,ii T.s0,ii T.s1,ii T.o0,ii T.o1,ii T.b0,ii T.b1,ii T.r0,ii T.r1]]) h = .ok (.tup [reyA T,reyB T,ii (testErr T)]) h:=by
  refine zWy (zLx (fn:=Try.f19) Try.func19 rfl rfl rfl rfl rfl ?_)
  simp only [zLy]
  by_cases k:okT T
  · have e0:=zWx k
    rw [e0,show reyA T=_ from if_pos k,show reyB T=_ from if_pos k]
    (repeat' (first
  | (with_reducible first|refine zJw ?_|refine zHz ?_|refine zEv ?_|refine zEw ?_|refine zFz ?_|refine zJv ?_|refine zHy ?_|refine zBv ?_|refine zDx ?_|refine zCz ?_|refine zCw ?_|refine zEy ?_|refine zCv ?_|refine zCy ?_|refine zBy ?_|refine zDv ?_|refine zEz ?_|refine zAw ?_|refine zBz ?_)
  | refine zDz ?_|refine zEx rfl ?_|refine zJy ?_|refine zJx ?_
  | ((first|refine zGv rfl rfl rfl rfl rfl fun K_ hK_=>?_|refine zGw rfl rfl rfl rfl rfl fun K_ hK_=>?_);simp only [zAz,zDy,zGx,↓reduceIte,reduceCtorEq,Nat.reduceEqDiff,Bool.not_true,Bool.not_false];refine hK_ _ ?_;clear hK_ K_)
  | refine zDw (by decide) ?_
  | ((try first|refine zKy rfl rfl rfl ?_|refine zJz rfl rfl ?_|refine zKx rfl rfl rfl ?_|refine zIv rfl rfl ?_);(refine zIw fun Q_ hQ_=>?_;simp (disch:=first|omega|(simp only [List.length_cons,List.length_nil,List.length_append];omega)) only [bb,bp,zLy,↓reduceIte,reduceCtorEq,Nat.reduceEqDiff,Nat.reduceLT,Nat.reduceLeDiff,Nat.reduceAdd,Nat.reduceMul,Nat.reduceSub,Nat.reduceBEq,Int.reduceToNat,cond_true,cond_false,eq_self,beq_self_eq_true,zFx wf,zGy wf,zBw wf,zFy wf,zAy wf,zAx,tEvD9,zIx,zIy,zIz,zHv,zFv,zAv wf];first|(refine zCx (Q:=Q_) (fun hp_=>?_) (fun hp_=>?_) <;> first|(exfalso;omega)|(refine hQ_ _ _ ?_;clear hQ_ Q_))|(refine zBx (Q:=Q_) (fun hp_=>?_) (fun hp_=>?_) <;> first|(exfalso;omega)|(refine hQ_ _ _ ?_;clear hQ_ Q_))|(refine hQ_ _ _ ?_;clear hQ_ Q_)|(refine zRv ((CheckTest T _ (wf.X (Nat.le_add_right _ _))).trans (by rw [e0])) ?_;refine hQ_ _ _ ?_;clear hQ_ Q_)|(refine zRv (reynolds T k .nils ⟨rfl,rfl⟩ _ (wf.X (Nat.le_add_right _ _))) ?_;refine hQ_ _ _ ?_;clear hQ_ Q_)))
  | (refine zHx fun K_ hK_=>?_;simp (disch:=omega) only [zGz,zAz,zHw,↓reduceIte,reduceCtorEq,Nat.reduceEqDiff,Nat.reduceLT];refine hK_ _ ?_;clear hK_ K_)))
    refine zLv [.no,.no,.soft [7],.full,.full] (by kernel_rfl) ?_
    (repeat' (first
  | (with_reducible first|refine zJw ?_|refine zHz ?_|refine zEv ?_|refine zEw ?_|refine zFz ?_|refine zJv ?_|refine zHy ?_|refine zBv ?_|refine zDx ?_|refine zCz ?_|refine zCw ?_|refine zEy ?_|refine zCv ?_|refine zCy ?_|refine zBy ?_|refine zDv ?_|refine zEz ?_|refine zAw ?_|refine zBz ?_)
  | refine zDz ?_|refine zEx rfl ?_|refine zJy ?_|refine zJx ?_
  | ((first|refine zGv rfl rfl rfl rfl rfl fun K_ hK_=>?_|refine zGw rfl rfl rfl rfl rfl fun K_ hK_=>?_);simp only [zAz,zDy,zGx,↓reduceIte,reduceCtorEq,Nat.reduceEqDiff,Bool.not_true,Bool.not_false];refine hK_ _ ?_;clear hK_ K_)
  | refine zDw (by decide) ?_
  | ((try first|refine zKy rfl rfl rfl ?_|refine zJz rfl rfl ?_|refine zKx rfl rfl rfl ?_|refine zIv rfl rfl ?_);(refine zIw fun Q_ hQ_=>?_;simp (disch:=first|omega|(simp only [List.length_cons,List.length_nil,List.length_append];omega)) only [bb,bp,zLy,↓reduceIte,reduceCtorEq,Nat.reduceEqDiff,Nat.reduceLT,Nat.reduceLeDiff,Nat.reduceAdd,Nat.reduceMul,Nat.reduceSub,Nat.reduceBEq,Int.reduceToNat,cond_true,cond_false,eq_self,beq_self_eq_true,zFx wf,zGy wf,zBw wf,zFy wf,zAy wf,zAx,tEvD9,zIx,zIy,zIz,zHv,zFv,zAv wf];first|(refine zCx (Q:=Q_) (fun hp_=>?_) (fun hp_=>?_) <;> first|(exfalso;omega)|(refine hQ_ _ _ ?_;clear hQ_ Q_))|(refine zBx (Q:=Q_) (fun hp_=>?_) (fun hp_=>?_) <;> first|(exfalso;omega)|(refine hQ_ _ _ ?_;clear hQ_ Q_))|(refine hQ_ _ _ ?_;clear hQ_ Q_)))
  | (refine zHx fun K_ hK_=>?_;simp (disch:=omega) only [zGz,zAz,zHw,↓reduceIte,reduceCtorEq,Nat.reduceEqDiff,Nat.reduceLT];refine hK_ _ ?_;clear hK_ K_)))
    (refine zIv rfl rfl (WV_soft (v:=.tup []) (by simp (disch:=first|omega|(simp only [List.length_cons,List.length_nil,List.length_append];omega)) only [bb,bp,zLy,↓reduceIte,reduceCtorEq,Nat.reduceEqDiff,Nat.reduceLT,Nat.reduceLeDiff,Nat.reduceAdd,Nat.reduceMul,Nat.reduceSub,Nat.reduceBEq,Int.reduceToNat,cond_true,cond_false,eq_self,beq_self_eq_true,zFx wf,zGy wf,zBw wf,zFy wf,zAy wf,zAx,tEvD9,zIx,zIy,zIz,zHv,zFv,zAv wf];rfl) (wBz rfl rfl (nx_ne (by decide)) (by decide) (by decide)) ?_))
    (repeat' (first
  | (with_reducible first|refine zJw ?_|refine zHz ?_|refine zEv ?_|refine zEw ?_|refine zFz ?_|refine zJv ?_|refine zHy ?_|refine zBv ?_|refine zDx ?_|refine zCz ?_|refine zCw ?_|refine zEy ?_|refine zCv ?_|refine zCy ?_|refine zBy ?_|refine zDv ?_|refine zEz ?_|refine zAw ?_|refine zBz ?_)
  | refine zDz ?_|refine zEx rfl ?_|refine zJy ?_|refine zJx ?_
  | ((first|refine zGv rfl rfl rfl rfl rfl fun K_ hK_=>?_|refine zGw rfl rfl rfl rfl rfl fun K_ hK_=>?_);simp only [zAz,zDy,zGx,↓reduceIte,reduceCtorEq,Nat.reduceEqDiff,Bool.not_true,Bool.not_false];refine hK_ _ ?_;clear hK_ K_)
  | refine zDw (by decide) ?_
  | ((try first|refine zKy rfl rfl rfl ?_|refine zJz rfl rfl ?_|refine zKx rfl rfl rfl ?_|refine zIv rfl rfl ?_);(refine zIw fun Q_ hQ_=>?_;simp (disch:=first|omega|(simp only [List.length_cons,List.length_nil,List.length_append];omega)) only [bb,bp,zLy,↓reduceIte,reduceCtorEq,Nat.reduceEqDiff,Nat.reduceLT,Nat.reduceLeDiff,Nat.reduceAdd,Nat.reduceMul,Nat.reduceSub,Nat.reduceBEq,Int.reduceToNat,cond_true,cond_false,eq_self,beq_self_eq_true,zFx wf,zGy wf,zBw wf,zFy wf,zAy wf,zAx,tEvD9,zIx,zIy,zIz,zHv,zFv,zAv wf];first|(refine zCx (Q:=Q_) (fun hp_=>?_) (fun hp_=>?_) <;> first|(exfalso;omega)|(refine hQ_ _ _ ?_;clear hQ_ Q_))|(refine zBx (Q:=Q_) (fun hp_=>?_) (fun hp_=>?_) <;> first|(exfalso;omega)|(refine hQ_ _ _ ?_;clear hQ_ Q_))|(refine hQ_ _ _ ?_;clear hQ_ Q_)))
  | (refine zHx fun K_ hK_=>?_;simp (disch:=omega) only [zGz,zAz,zHw,↓reduceIte,reduceCtorEq,Nat.reduceEqDiff,Nat.reduceLT];refine hK_ _ ?_;clear hK_ K_)))
    refine zKz _ _ rfl (retcc1 (by decide) (by decide) (by decide) (by simp (disch:=first|omega|(simp only [List.length_cons,List.length_nil,List.length_append];omega)) only [bb,bp,zLy,↓reduceIte,reduceCtorEq,Nat.reduceEqDiff,Nat.reduceLT,Nat.reduceLeDiff,Nat.reduceAdd,Nat.reduceMul,Nat.reduceSub,Nat.reduceBEq,Int.reduceToNat,cond_true,cond_false,eq_self,beq_self_eq_true,zBw wf,tEvD9,zIx,zIy,zIz,zHv,zFv,zAv wf];rfl) (by simp (disch:=first|omega|(simp only [List.length_cons,List.length_nil,List.length_append];omega)) only [bb,bp,zLy,↓reduceIte,reduceCtorEq,Nat.reduceEqDiff,Nat.reduceLT,Nat.reduceLeDiff,Nat.reduceAdd,Nat.reduceMul,Nat.reduceSub,Nat.reduceBEq,Int.reduceToNat,cond_true,cond_false,eq_self,beq_self_eq_true,zBw wf,tEvD9,zIx,zIy,zIz,zHv,zFv,zAv wf];rfl)) ?_
    refine zKw rfl (by omega) ?_
    exact ⟨rfl,rfl⟩
  · have e0:=yYx k
    rw [e0,show reyA T=_ from if_neg k,show reyB T=_ from if_neg k]
    (repeat' (first
  | (with_reducible first|refine zJw ?_|refine zHz ?_|refine zEv ?_|refine zEw ?_|refine zFz ?_|refine zJv ?_|refine zHy ?_|refine zBv ?_|refine zDx ?_|refine zCz ?_|refine zCw ?_|refine zEy ?_|refine zCv ?_|refine zCy ?_|refine zBy ?_|refine zDv ?_|refine zEz ?_|refine zAw ?_|refine zBz ?_)
  | refine zDz ?_|refine zEx rfl ?_|refine zJy ?_|refine zJx ?_
  | ((first|refine zGv rfl rfl rfl rfl rfl fun K_ hK_=>?_|refine zGw rfl rfl rfl rfl rfl fun K_ hK_=>?_);simp only [zAz,zDy,zGx,↓reduceIte,reduceCtorEq,Nat.reduceEqDiff,Bool.not_true,Bool.not_false];refine hK_ _ ?_;clear hK_ K_)
  | refine zDw (by decide) ?_
  | ((try first|refine zKy rfl rfl rfl ?_|refine zJz rfl rfl ?_|refine zKx rfl rfl rfl ?_|refine zIv rfl rfl ?_);(refine zIw fun Q_ hQ_=>?_;simp (disch:=first|omega|(simp only [List.length_cons,List.length_nil,List.length_append];omega)) only [bb,bp,zLy,↓reduceIte,reduceCtorEq,Nat.reduceEqDiff,Nat.reduceLT,Nat.reduceLeDiff,Nat.reduceAdd,Nat.reduceMul,Nat.reduceSub,Nat.reduceBEq,Int.reduceToNat,cond_true,cond_false,eq_self,beq_self_eq_true,zFx wf,zGy wf,zBw wf,zFy wf,zAy wf,zAx,tEvD9,zIx,zIy,zIz,zHv,zFv,zAv wf];first|(refine zCx (Q:=Q_) (fun hp_=>?_) (fun hp_=>?_) <;> first|(exfalso;omega)|(refine hQ_ _ _ ?_;clear hQ_ Q_))|(refine zBx (Q:=Q_) (fun hp_=>?_) (fun hp_=>?_) <;> first|(exfalso;omega)|(refine hQ_ _ _ ?_;clear hQ_ Q_))|(refine hQ_ _ _ ?_;clear hQ_ Q_)|(refine zRv ((CheckTest T _ (wf.X (Nat.le_add_right _ _))).trans (by rw [e0])) ?_;refine hQ_ _ _ ?_;clear hQ_ Q_)))
  | (refine zHx fun K_ hK_=>?_;simp (disch:=omega) only [zGz,zAz,zHw,↓reduceIte,reduceCtorEq,Nat.reduceEqDiff,Nat.reduceLT];refine hK_ _ ?_;clear hK_ K_)))
    refine zKz _ _ rfl (retcc1 (by decide) (by decide) (by decide) (by simp (disch:=first|omega|(simp only [List.length_cons,List.length_nil,List.length_append];omega)) only [bb,bp,zLy,↓reduceIte,reduceCtorEq,Nat.reduceEqDiff,Nat.reduceLT,Nat.reduceLeDiff,Nat.reduceAdd,Nat.reduceMul,Nat.reduceSub,Nat.reduceBEq,Int.reduceToNat,cond_true,cond_false,eq_self,beq_self_eq_true,zBw wf,tEvD9,zIx,zIy,zIz,zHv,zFv,zAv wf];rfl) (by simp (disch:=first|omega|(simp only [List.length_cons,List.length_nil,List.length_append];omega)) only [bb,bp,zLy,↓reduceIte,reduceCtorEq,Nat.reduceEqDiff,Nat.reduceLT,Nat.reduceLeDiff,Nat.reduceAdd,Nat.reduceMul,Nat.reduceSub,Nat.reduceBEq,Int.reduceToNat,cond_true,cond_false,eq_self,beq_self_eq_true,zBw wf,tEvD9,zIx,zIy,zIz,zHv,zFv,zAv wf];rfl)) ?_
    refine zKw rfl (by omega) ?_
    exact ⟨rfl,rfl⟩
theorem refReynolds (T:Te) (h:H) (wf:Wf h):(om Try.prog KK).call (.fn 20 [.agg [ii T.sp,ii T.lo,ii T.we,ii T.al,ii T.f0,ii T.f1,ii T.t0,ii T.t1,ii T.s0,ii T.s1,ii T.o0,ii T.o1,ii T.b0,ii T.b1,ii T.r0,ii T.r1]]) h = .ok (.tup [reyA T,reyB T,ii (testErr T)]) h:=by
  refine zWy (zLx (fn:=Try.f20) Try.func20 rfl rfl rfl rfl rfl ?_)
  simp only [zLy]
  by_cases k:okT T
  · have e0:=zWx k
    have kt:=k.t
    have ks:=k.s
    rw [e0,show reyA T=_ from if_pos k,show reyB T=_ from if_pos k]
    (repeat' (first
  | (with_reducible first|refine zJw ?_|refine zHz ?_|refine zEv ?_|refine zEw ?_|refine zFz ?_|refine zJv ?_|refine zHy ?_|refine zBv ?_|refine zDx ?_|refine zCz ?_|refine zCw ?_|refine zEy ?_|refine zCv ?_|refine zCy ?_|refine zBy ?_|refine zDv ?_|refine zEz ?_|refine zAw ?_|refine zBz ?_)
  | refine zDz ?_|refine zEx rfl ?_|refine zJy ?_|refine zJx ?_
  | ((first|refine zGv rfl rfl rfl rfl rfl fun K_ hK_=>?_|refine zGw rfl rfl rfl rfl rfl fun K_ hK_=>?_);simp only [zAz,zDy,zGx,↓reduceIte,reduceCtorEq,Nat.reduceEqDiff,Bool.not_true,Bool.not_false];refine hK_ _ ?_;clear hK_ K_)
  | refine zDw (by decide) ?_
  | ((try first|refine zKy rfl rfl rfl ?_|refine zJz rfl rfl ?_|refine zKx rfl rfl rfl ?_|refine zIv rfl rfl ?_);(refine zIw fun Q_ hQ_=>?_;simp (disch:=first|omega|(simp only [List.length_cons,List.length_nil,List.length_append];omega)) only [bb,bp,zLy,↓reduceIte,reduceCtorEq,Nat.reduceEqDiff,Nat.reduceLT,Nat.reduceLeDiff,Nat.reduceAdd,Nat.reduceMul,Nat.reduceSub,Nat.reduceBEq,Int.reduceToNat,cond_true,cond_false,eq_self,beq_self_eq_true,zFx wf,zGy wf,zBw wf,zFy wf,zAy wf,zAx,tEvD9,zIx,zIy,zIz,zHv,zFv,zAv wf];first|(refine zCx (Q:=Q_) (fun hp_=>?_) (fun hp_=>?_) <;> first|(exfalso;omega)|(refine hQ_ _ _ ?_;clear hQ_ Q_))|(refine zBx (Q:=Q_) (fun hp_=>?_) (fun hp_=>?_) <;> first|(exfalso;omega)|(refine hQ_ _ _ ?_;clear hQ_ Q_))|(refine hQ_ _ _ ?_;clear hQ_ Q_)|(refine zRv ((refCheckTest T _ (wf.X (Nat.le_add_right _ _))).trans (by rw [e0])) ?_;refine hQ_ _ _ ?_;clear hQ_ Q_)|(refine zRv (numbers T k T.t1 T.s1 (by omega) (by omega) _ (wf.X (Nat.le_add_right _ _))) ?_;refine hQ_ _ _ ?_;clear hQ_ Q_)|(refine zRv (numbers T k T.t0 T.s0 (by omega) (by omega) _ (wf.X (Nat.le_add_right _ _))) ?_;refine hQ_ _ _ ?_;clear hQ_ Q_)))
  | (refine zHx fun K_ hK_=>?_;simp (disch:=omega) only [zGz,zAz,zHw,↓reduceIte,reduceCtorEq,Nat.reduceEqDiff,Nat.reduceLT];refine hK_ _ ?_;clear hK_ K_)))
    refine zKz _ _ rfl (retcc1 (by decide) (by decide) (by decide) (by simp (disch:=first|omega|(simp only [List.length_cons,List.length_nil,List.length_append];omega)) only [bb,bp,zLy,↓reduceIte,reduceCtorEq,Nat.reduceEqDiff,Nat.reduceLT,Nat.reduceLeDiff,Nat.reduceAdd,Nat.reduceMul,Nat.reduceSub,Nat.reduceBEq,Int.reduceToNat,cond_true,cond_false,eq_self,beq_self_eq_true,zBw wf,tEvD9,zIx,zIy,zIz,zHv,zFv,zAv wf];rfl) (by simp (disch:=first|omega|(simp only [List.length_cons,List.length_nil,List.length_append];omega)) only [bb,bp,zLy,↓reduceIte,reduceCtorEq,Nat.reduceEqDiff,Nat.reduceLT,Nat.reduceLeDiff,Nat.reduceAdd,Nat.reduceMul,Nat.reduceSub,Nat.reduceBEq,Int.reduceToNat,cond_true,cond_false,eq_self,beq_self_eq_true,zBw wf,tEvD9,zIx,zIy,zIz,zHv,zFv,zAv wf];rfl)) ?_
    refine zKw rfl (by omega) ?_
    exact ⟨rfl,rfl⟩
  · have e0:=yYx k
    rw [e0,show reyA T=_ from if_neg k,show reyB T=_ from if_neg k]
    (repeat' (first
  | (with_reducible first|refine zJw ?_|refine zHz ?_|refine zEv ?_|refine zEw ?_|refine zFz ?_|refine zJv ?_|refine zHy ?_|refine zBv ?_|refine zDx ?_|refine zCz ?_|refine zCw ?_|refine zEy ?_|refine zCv ?_|refine zCy ?_|refine zBy ?_|refine zDv ?_|refine zEz ?_|refine zAw ?_|refine zBz ?_)
  | refine zDz ?_|refine zEx rfl ?_|refine zJy ?_|refine zJx ?_
  | ((first|refine zGv rfl rfl rfl rfl rfl fun K_ hK_=>?_|refine zGw rfl rfl rfl rfl rfl fun K_ hK_=>?_);simp only [zAz,zDy,zGx,↓reduceIte,reduceCtorEq,Nat.reduceEqDiff,Bool.not_true,Bool.not_false];refine hK_ _ ?_;clear hK_ K_)
  | refine zDw (by decide) ?_
  | ((try first|refine zKy rfl rfl rfl ?_|refine zJz rfl rfl ?_|refine zKx rfl rfl rfl ?_|refine zIv rfl rfl ?_);(refine zIw fun Q_ hQ_=>?_;simp (disch:=first|omega|(simp only [List.length_cons,List.length_nil,List.length_append];omega)) only [bb,bp,zLy,↓reduceIte,reduceCtorEq,Nat.reduceEqDiff,Nat.reduceLT,Nat.reduceLeDiff,Nat.reduceAdd,Nat.reduceMul,Nat.reduceSub,Nat.reduceBEq,Int.reduceToNat,cond_true,cond_false,eq_self,beq_self_eq_true,zFx wf,zGy wf,zBw wf,zFy wf,zAy wf,zAx,tEvD9,zIx,zIy,zIz,zHv,zFv,zAv wf];first|(refine zCx (Q:=Q_) (fun hp_=>?_) (fun hp_=>?_) <;> first|(exfalso;omega)|(refine hQ_ _ _ ?_;clear hQ_ Q_))|(refine zBx (Q:=Q_) (fun hp_=>?_) (fun hp_=>?_) <;> first|(exfalso;omega)|(refine hQ_ _ _ ?_;clear hQ_ Q_))|(refine hQ_ _ _ ?_;clear hQ_ Q_)|(refine zRv ((refCheckTest T _ (wf.X (Nat.le_add_right _ _))).trans (by rw [e0])) ?_;refine hQ_ _ _ ?_;clear hQ_ Q_)))
  | (refine zHx fun K_ hK_=>?_;simp (disch:=omega) only [zGz,zAz,zHw,↓reduceIte,reduceCtorEq,Nat.reduceEqDiff,Nat.reduceLT];refine hK_ _ ?_;clear hK_ K_)))
    refine zKz _ _ rfl (retcc1 (by decide) (by decide) (by decide) (by simp (disch:=first|omega|(simp only [List.length_cons,List.length_nil,List.length_append];omega)) only [bb,bp,zLy,↓reduceIte,reduceCtorEq,Nat.reduceEqDiff,Nat.reduceLT,Nat.reduceLeDiff,Nat.reduceAdd,Nat.reduceMul,Nat.reduceSub,Nat.reduceBEq,Int.reduceToNat,cond_true,cond_false,eq_self,beq_self_eq_true,zBw wf,tEvD9,zIx,zIy,zIz,zHv,zFv,zAv wf];rfl) (by simp (disch:=first|omega|(simp only [List.length_cons,List.length_nil,List.length_append];omega)) only [bb,bp,zLy,↓reduceIte,reduceCtorEq,Nat.reduceEqDiff,Nat.reduceLT,Nat.reduceLeDiff,Nat.reduceAdd,Nat.reduceMul,Nat.reduceSub,Nat.reduceBEq,Int.reduceToNat,cond_true,cond_false,eq_self,beq_self_eq_true,zBw wf,tEvD9,zIx,zIy,zIz,zHv,zFv,zAv wf];rfl)) ?_
    refine zKw rfl (by omega) ?_
    exact ⟨rfl,rfl⟩
end Go.Proofs.Ythaleckfgcgegaa
end

section
namespace Go.Ev
section
variable {P:Program}
set_option maxHeartbeats 2000000
end
end Go.Ev
end

section
namespace Go.Proofs.Ythaleckfgcgegaa
open Go.Ev
set_option maxRecDepth 100000
set_option linter.unusedSimpArgs false
set_option linter.unusedVariables false
set_option maxHeartbeats 2000000
theorem tEvD10 :type_of% (And.intro (And.intro (And.intro (And.intro (And.intro (And.intro (And.intro (@yWz) (@yVv)) (And.intro (@yVw) (And.intro (@yVx) (@yVy)))) (And.intro (And.intro (@yVz) (And.intro (@yUv) (@yUw))) (And.intro (@zVy) (And.intro (@ia_2) (@sz_2))))) (And.intro (And.intro (And.intro (@ia_3) (@sz_3)) (And.intro (@ia_4) (And.intro (@sz_4) (@yUx)))) (And.intro (And.intro (@yDw) (And.intro (@yUy) (@yDx))) (And.intro (@yUz) (And.intro (@yDy) (@yTv)))))) (And.intro (And.intro (And.intro (And.intro (@zWw) (@yTw)) (And.intro (@yDz) (And.intro (@yTx) (@yCv)))) (And.intro (And.intro (@yTy) (And.intro (@yCw) (@yTz))) (And.intro (@yCx) (And.intro (@ySv) (@yCy))))) (And.intro (And.intro (And.intro (@ySw) (@yCz)) (And.intro (@ySx) (And.intro (@zXz) (@ySy)))) (And.intro (And.intro (@yBv) (And.intro (@ySz) (@yBw))) (And.intro (@yRv) (And.intro (@yBx) (@yRw))))))) (And.intro (And.intro (And.intro (And.intro (And.intro (@yBy) (@yRx)) (And.intro (@yBz) (And.intro (@yRy) (@yAv)))) (And.intro (And.intro (@yRz) (And.intro (@yAw) (@yQv))) (And.intro (@yAx) (And.intro (@yQw) (@yAy))))) (And.intro (And.intro (And.intro (@yQx) (@yAz)) (And.intro (@zVz) (And.intro (@zTw) (@zUv)))) (And.intro (And.intro (@zTx) (And.intro (@zUw) (@zTy))) (And.intro (@zUx) (And.intro (@zTz) (@zUy)))))) (And.intro (And.intro (And.intro (And.intro (@zSv) (@zUz)) (And.intro (@zSw) (And.intro (@zTv) (@zSx)))) (And.intro (And.intro (@ze_2) (And.intro (@ze_3) (@ze_4))) (And.intro (@zZv) (And.intro (@zZw) (@zZx))))) (And.intro (And.intro (And.intro (@zZy) (And.intro (@zZz) (@zYv))) (And.intro (@zYw) (And.intro (@zYx) (@zYy)))) (And.intro (And.intro (@zSy) (And.intro (@zRx) (@zRy))) (And.intro (@zRz) (And.intro (@zQv) (@zQw)))))))) (And.intro (And.intro (And.intro (And.intro (And.intro (And.intro (@zQx) (@zQy)) (And.intro (@zQz) (And.intro (@zPv) (@zPw)))) (And.intro (And.intro (@zPx) (And.intro (@zPy) (@zPz))) (And.intro (@zOv) (And.intro (@zOw) (@zOx))))) (And.intro (And.intro (And.intro (@zOy) (@zOz)) (And.intro (@zNv) (And.intro (@zNw) (@zNx)))) (And.intro (And.intro (@zNy) (And.intro (@zNz) (@zMv))) (And.intro (@zMw) (And.intro (@zMx) (@zMy)))))) (And.intro (And.intro (And.intro (And.intro (@zMz) (@yQy)) (And.intro (@yQz) (And.intro (@yPv) (@yPw)))) (And.intro (And.intro (@yPx) (And.intro (@yPy) (@yPz))) (And.intro (@yOv) (And.intro (@yOw) (@yOx))))) (And.intro (And.intro (And.intro (@yOy) (And.intro (@yOz) (@yNv))) (And.intro (@yNw) (And.intro (@yNx) (@yNy)))) (And.intro (And.intro (@yNz) (And.intro (@yMv) (@yMw))) (And.intro (@yMx) (And.intro (@yMy) (@yMz))))))) (And.intro (And.intro (And.intro (And.intro (And.intro (@yLv) (@yLw)) (And.intro (@yLx) (And.intro (@yLy) (@yLz)))) (And.intro (And.intro (@yKv) (And.intro (@yKw) (@yKx))) (And.intro (@yKy) (And.intro (@yKz) (@yJv))))) (And.intro (And.intro (And.intro (@yJw) (@yJx)) (And.intro (@yJy) (And.intro (@yJz) (@yIv)))) (And.intro (And.intro (@yIw) (And.intro (@yIx) (@yIy))) (And.intro (@yIz) (And.intro (@yHv) (@yHw)))))) (And.intro (And.intro (And.intro (And.intro (@yHx) (@yHy)) (And.intro (@yHz) (And.intro (@yGv) (@yGw)))) (And.intro (And.intro (@yGx) (And.intro (@zYz) (@zXv))) (And.intro (@yGy) (And.intro (@yGz) (@yFv))))) (And.intro (And.intro (And.intro (@yFw) (And.intro (@yFx) (@yFy))) (And.intro (@yFz) (And.intro (@yEv) (@yEw)))) (And.intro (And.intro (@yEx) (And.intro (@yEy) (@zXw))) (And.intro (@yEz) (And.intro (@yDv) (@zXx))))))))):=And.intro (And.intro (And.intro (And.intro (And.intro (And.intro (And.intro (@yWz) (@yVv)) (And.intro (@yVw) (And.intro (@yVx) (@yVy)))) (And.intro (And.intro (@yVz) (And.intro (@yUv) (@yUw))) (And.intro (@zVy) (And.intro (@ia_2) (@sz_2))))) (And.intro (And.intro (And.intro (@ia_3) (@sz_3)) (And.intro (@ia_4) (And.intro (@sz_4) (@yUx)))) (And.intro (And.intro (@yDw) (And.intro (@yUy) (@yDx))) (And.intro (@yUz) (And.intro (@yDy) (@yTv)))))) (And.intro (And.intro (And.intro (And.intro (@zWw) (@yTw)) (And.intro (@yDz) (And.intro (@yTx) (@yCv)))) (And.intro (And.intro (@yTy) (And.intro (@yCw) (@yTz))) (And.intro (@yCx) (And.intro (@ySv) (@yCy))))) (And.intro (And.intro (And.intro (@ySw) (@yCz)) (And.intro (@ySx) (And.intro (@zXz) (@ySy)))) (And.intro (And.intro (@yBv) (And.intro (@ySz) (@yBw))) (And.intro (@yRv) (And.intro (@yBx) (@yRw))))))) (And.intro (And.intro (And.intro (And.intro (And.intro (@yBy) (@yRx)) (And.intro (@yBz) (And.intro (@yRy) (@yAv)))) (And.intro (And.intro (@yRz) (And.intro (@yAw) (@yQv))) (And.intro (@yAx) (And.intro (@yQw) (@yAy))))) (And.intro (And.intro (And.intro (@yQx) (@yAz)) (And.intro (@zVz) (And.intro (@zTw) (@zUv)))) (And.intro (And.intro (@zTx) (And.intro (@zUw) (@zTy))) (And.intro (@zUx) (And.intro (@zTz) (@zUy)))))) (And.intro (And.intro (And.intro (And.intro (@zSv) (@zUz)) (And.intro (@zSw) (And.intro (@zTv) (@zSx)))) (And.intro (And.intro (@ze_2) (And.intro (@ze_3) (@ze_4))) (And.intro (@zZv) (And.intro (@zZw) (@zZx))))) (And.intro (And.intro (And.intro (@zZy) (And.intro (@zZz) (@zYv))) (And.intro (@zYw) (And.intro (@zYx) (@zYy)))) (And.intro (And.intro (@zSy) (And.intro (@zRx) (@zRy))) (And.intro (@zRz) (And.intro (@zQv) (@zQw)))))))) (And.intro (And.intro (And.intro (And.intro (And.intro (And.intro (@zQx) (@zQy)) (And.intro (@zQz) (And.intro (@zPv) (@zPw)))) (And.intro (And.intro (@zPx) (And.intro (@zPy) (@zPz))) (And.intro (@zOv) (And.intro (@zOw) (@zOx))))) (And.intro (And.intro (And.intro (@zOy) (@zOz)) (And.intro (@zNv) (And.intro (@zNw) (@zNx)))) (And.intro (And.intro (@zNy) (And.intro (@zNz) (@zMv))) (And.intro (@zMw) (And.intro (@zMx) (@zMy)))))) (And.intro (And.intro (And.intro (And.intro (@zMz) (@yQy)) (And.intro (@yQz) (And.intro (@yPv) (@yPw)))) (And.intro (And.intro (@yPx) (And.intro (@yPy) (@yPz))) (And.intro (@yOv) (And.intro (@yOw) (@yOx))))) (And.intro (And.intro (And.intro (@yOy) (And.intro (@yOz) (@yNv))) (And.intro (@yNw) (And.intro (@yNx) (@yNy)))) (And.intro (And.intro (@yNz) (And.intro (@yMv) (@yMw))) (And.intro (@yMx) (And.intro (@yMy) (@yMz))))))) (And.intro (And.intro (And.intro (And.intro (And.intro (@yLv) (@yLw)) (And.intro (@yLx) (And.intro (@yLy) (@yLz)))) (And.intro (And.intro (@yKv) (And.intro (@yKw) (@yKx))) (And.intro (@yKy) (And.intro (@yKz) (@yJv))))) (And.intro (And.intro (And.intro (@yJw) (@yJx)) (And.intro (@yJy) (And.intro (@yJz) (@yIv)))) (And.intro (And.intro (@yIw) (And.intro (@yIx) (@yIy))) (And.intro (@yIz) (And.intro (@yHv) (@yHw)))))) (And.intro (And.intro (And.intro (And.intro (@yHx) (@yHy)) (And.intro (@yHz) (And.intro (@yGv) (@yGw)))) (And.intro (And.intro (@yGx) (And.intro (@zYz) (@zXv))) (And.intro (@yGy) (And.intro (@yGz) (@yFv))))) (And.intro (And.intro (And.intro (@yFw) (And.intro (@yFx) (@yFy))) (And.intro (@yFz) (And.intro (@yEv) (@yEw)))) (And.intro (And.intro (@yEx) (And.intro (@yEy) (@zXw))) (And.intro (@yEz) (And.intro (@yDv) (@zXx))))))))
structure isT (T:Te) (x:Tr):Prop where
  f:T.f0≤x.f∧x.f≤T.f1
  t:T.t0≤x.t∧x.t≤T.t1
  s:T.s0≤x.s∧x.s≤T.s1
  o:T.o0≤x.o∧x.o≤T.o1
  b:T.b0≤x.b∧x.b≤T.b1
  r:T.r0≤x.r∧x.r≤T.r1
theorem isT_iff (T:Te) (x:Tr):isT T x ↔ ((T.f0≤x.f∧x.f≤T.f1)∧(T.t0≤x.t∧x.t≤T.t1)∧(T.s0≤x.s∧x.s≤T.s1)∧(T.o0≤x.o∧x.o≤T.o1)∧(T.b0≤x.b∧x.b≤T.b1)∧(T.r0≤x.r∧x.r≤T.r1)):=
  ⟨fun ⟨a,b,c,d,e,f⟩=>⟨a,b,c,d,e,f⟩,fun ⟨a,b,c,d,e,f⟩=>⟨a,b,c,d,e,f⟩⟩
instance (T:Te) (x:Tr):Decidable (isT T x):=decidable_of_iff _ (isT_iff T x).symm
def meas (T:Te) (f:Int):Int:=min 1000000000 (20000000000 * f / (T.we * T.sp * T.sp))
def formed (x:Tr) (f:Int):Int:=(1000+x.o) * f / 1000
def coef (T:Te) (re cf:List Int) (x:Tr):Int:=meas T x.f * (1000 - x.b) / 1000 - formed x (fr re cf (mo T x.t))+formed x (fr re cf (sh T x.s))+x.r
theorem meas_in {T:Te} (k:okT T) {f:Int} (hf:0≤f):0≤meas T f∧meas T f≤1000000000:=by
  obtain ⟨-,-,-,-,p2,p3⟩:=k.prods
  have:=Int.ediv_nonneg (show 0≤20000000000 * f by omega) (show 0≤T.we * T.sp * T.sp by omega)
  unfold meas;omega

theorem formedC (a b:AV) (re cf:List Int) (k:okL re cf) (x:Tr) (ho:0≤x.o∧x.o≤1000) (n:Int) (hh:has re n) {h:H} (y:LineR h a b re cf) {L:List AO} {w' A B:Nat} (hw':w'≤h.clock+L.length)
    (hA:L[A]? = some (.cells (zFw [ii x.f,ii x.t,ii x.s,ii x.o,ii x.b,ii x.r]) 37)) (hB:L[B]? = some (.cells (zFw [.fn 39 [.agg [a,b]] []]) 69)) :
    (om Try.prog KK).call (.fn 68 [ii n,.ptr (nx h A) 0,.ptr (nx h B) 0]) (X h L w') = .ok (ii (formed x (fr re cf n))) (X h L w'):=by
  have wf0:=y.wf
  have get : ∀ {q o},L[q]? = some o → ∀ l:List AO,(L++l)[q]? = some o:=fun {q o} hq l=>by rw [List.getElem?_append_left (zXy hq),hq]
  have hlA : ∀ l w,load1 (nx h A) 3 (X (X h L w') l w)=some (ii x.o):=fun l w=>by rw [X_X,zGy wf0,get hA];rfl
  have hlB : ∀ l u,load1 (nx h B) 0 (X (X h L w') l u)=some (.fn 39 [.agg [a,b]] []):=fun l u=>by rw [X_X,zGy wf0,get hB];rfl
  have y':=y.up L w' hw'
  have c1 : ∀ l w,w≤(X h L w').clock+l.length→(om Try.prog KK).call (.fn 39 [.agg [a,b],ii n]) (X (X h L w') l w) = .ok (ii (fr re cf n)) (X (X h L w') l w):=fun l w hw=>friction a b re cf n _ (y'.up _ _ hw) k hh
  have wf:=y'.wf
  have hfb:=fr_in k hh
  clear hA hB get
  generalize X h L w'=hb at *
  generalize nx h A=pA at *
  generalize nx h B=pB at *
  have h2:=yZv (a:=1000+x.o) (x:=2000) ⟨by omega,by omega⟩ hfb
  unfold formed
  refine zWy (zLx (fn:=Try.f68) Try.func68 rfl rfl rfl rfl rfl ?_)
  simp only [zLy]
  (repeat' (first
  | (with_reducible first|refine zJw ?_|refine zHz ?_|refine zEv ?_|refine zEw ?_|refine zFz ?_|refine zJv ?_|refine zHy ?_|refine zBv ?_|refine zDx ?_|refine zCz ?_|refine zCw ?_|refine zEy ?_|refine zCv ?_|refine zCy ?_|refine zBy ?_|refine zDv ?_|refine zEz ?_|refine zAw ?_|refine zBz ?_)
  | refine zDz ?_|refine zEx rfl ?_|refine zJy ?_|refine zJx ?_
  | ((first|refine zGv rfl rfl rfl rfl rfl fun K_ hK_=>?_|refine zGw rfl rfl rfl rfl rfl fun K_ hK_=>?_);simp only [zAz,zDy,zGx,↓reduceIte,reduceCtorEq,Nat.reduceEqDiff,Bool.not_true,Bool.not_false];refine hK_ _ ?_;clear hK_ K_)
  | refine zDw (by decide) ?_
  | ((try first|refine zKy rfl rfl rfl ?_|refine zJz rfl rfl ?_|refine zKx rfl rfl rfl ?_|refine zIv rfl rfl ?_);(refine zIw fun Q_ hQ_=>?_;simp (disch:=first|omega|(simp only [List.length_cons,List.length_nil,List.length_append];omega)) only [bb,bp,zLy,↓reduceIte,reduceCtorEq,Nat.reduceEqDiff,Nat.reduceLT,Nat.reduceLeDiff,Nat.reduceAdd,Nat.reduceMul,Nat.reduceSub,Nat.reduceBEq,Int.reduceToNat,cond_true,cond_false,eq_self,beq_self_eq_true,zFx wf,zGy wf,zBw wf,zFy wf,zAy wf,zAx,tEvD10,zIx,zIy,zIz,zHv,zFv,zAv wf];first|(refine zCx (Q:=Q_) (fun hp_=>?_) (fun hp_=>?_) <;> first|(exfalso;omega)|(refine hQ_ _ _ ?_;clear hQ_ Q_))|(refine zBx (Q:=Q_) (fun hp_=>?_) (fun hp_=>?_) <;> first|(exfalso;omega)|(refine hQ_ _ _ ?_;clear hQ_ Q_))|(refine hQ_ _ _ ?_;clear hQ_ Q_)))
  | (refine zHx fun K_ hK_=>?_;simp (disch:=omega) only [zGz,zAz,zHw,↓reduceIte,reduceCtorEq,Nat.reduceEqDiff,Nat.reduceLT];refine hK_ _ ?_;clear hK_ K_)))
  refine zLv [.no,.no,.no,.no,.no,.no,.full,.full,.full] (by kernel_rfl) ?_
  (repeat' (first
  | (with_reducible first|refine zJw ?_|refine zHz ?_|refine zEv ?_|refine zEw ?_|refine zFz ?_|refine zJv ?_|refine zHy ?_|refine zBv ?_|refine zDx ?_|refine zCz ?_|refine zCw ?_|refine zEy ?_|refine zCv ?_|refine zCy ?_|refine zBy ?_|refine zDv ?_|refine zEz ?_|refine zAw ?_|refine zBz ?_)
  | refine zDz ?_|refine zEx rfl ?_|refine zJy ?_|refine zJx ?_
  | ((first|refine zGv rfl rfl rfl rfl rfl fun K_ hK_=>?_|refine zGw rfl rfl rfl rfl rfl fun K_ hK_=>?_);simp only [zAz,zDy,zGx,↓reduceIte,reduceCtorEq,Nat.reduceEqDiff,Bool.not_true,Bool.not_false];refine hK_ _ ?_;clear hK_ K_)
  | refine zDw (by decide) ?_
  | ((try first|refine zKy rfl rfl rfl ?_|refine zJz rfl rfl ?_|refine zKx rfl rfl rfl ?_|refine zIv rfl rfl ?_);(refine zIw fun Q_ hQ_=>?_;simp (disch:=first|omega|(simp only [List.length_cons,List.length_nil,List.length_append];omega)) only [bb,bp,zLy,↓reduceIte,reduceCtorEq,Nat.reduceEqDiff,Nat.reduceLT,Nat.reduceLeDiff,Nat.reduceAdd,Nat.reduceMul,Nat.reduceSub,Nat.reduceBEq,Int.reduceToNat,cond_true,cond_false,eq_self,beq_self_eq_true,hlA,hlB,c1,xGx,b_quo (show (1000:Int)≠0 by decide),xEy (n:=(1000+x.o) * fr re cf n) (g:=1000) ⟨h2.1,by omega⟩ (by decide),zFx wf,zGy wf,zBw wf,zFy wf,zAy wf,zAx,tEvD10,zIx,zIy,zIz,zHv,zFv,zAv wf];first|(refine zCx (Q:=Q_) (fun hp_=>?_) (fun hp_=>?_) <;> first|(exfalso;omega)|(refine hQ_ _ _ ?_;clear hQ_ Q_))|(refine zBx (Q:=Q_) (fun hp_=>?_) (fun hp_=>?_) <;> first|(exfalso;omega)|(refine hQ_ _ _ ?_;clear hQ_ Q_))|(refine hQ_ _ _ ?_;clear hQ_ Q_)))
  | (refine zHx fun K_ hK_=>?_;simp (disch:=omega) only [zGz,zAz,zHw,↓reduceIte,reduceCtorEq,Nat.reduceEqDiff,Nat.reduceLT];refine hK_ _ ?_;clear hK_ K_)))
  (refine zKz _ _ rfl (ret1 (by decide)) ?_;simp only [zAz,↓reduceIte,reduceCtorEq,Nat.reduceEqDiff];refine zKw rfl (by omega) ?_)
  exact ⟨rfl,rfl⟩

theorem coefficient (T:Te) (kT:okT T) (lv:AV) (hf:AV.cells lv=[lv]∧oneB lv=true) (a b:AV) (re cf:List Int) (k:okL re cf) (x:Tr) (kx:isT T x) (h1:has re (mo T x.t)) (h2:has re (sh T x.s)) (h:H) (y:LineR h a b re cf) :
    (om Try.prog KK).call (.fn 48 [.agg [ii T.sp,ii T.lo,ii T.we,ii T.al,ii T.f0,ii T.f1,ii T.t0,ii T.t1,ii T.s0,ii T.s1,ii T.o0,ii T.o1,ii T.b0,ii T.b1,ii T.r0,ii T.r1,lv],.agg [ii x.f,ii x.t,ii x.s,ii x.o,ii x.b,ii x.r],.fn 39 [.agg [a,b]] []]) h = .ok (ii (coef T re cf x)) h:=by
  have wf:=y.wf
  obtain ⟨f1,f2⟩:=hf
  obtain ⟨-,-,-,-,p2,p3⟩:=kT.prods
  have hz:T.we * T.sp * T.sp≠0:=by omega
  have kf:=kT.f
  have kt:=kT.t
  have ks:=kT.s
  have ko:=kT.o
  have kb:=kT.b
  have kr:=kT.r
  have xf:=kx.f
  have xt:=kx.t
  have xs:=kx.s
  have xo:=kx.o
  have xb:=kx.b
  have xr:=kx.r
  have c1 : ∀ l w,w≤h.clock+l.length→(om Try.prog KK).call (.fn 46 [.agg [ii T.sp,ii T.lo,ii T.we,ii T.al,ii T.f0,ii T.f1,ii T.t0,ii T.t1,ii T.s0,ii T.s1,ii T.o0,ii T.o1,ii T.b0,ii T.b1,ii T.r0,ii T.r1,lv],ii x.t]) (X h l w) = .ok (ii (mo T x.t)) (X h l w):=fun l w hw=>model T kT lv x.t (by omega) _ (wf.X hw)
  have c2 : ∀ l w,w≤h.clock+l.length→(om Try.prog KK).call (.fn 47 [.agg [ii T.sp,ii T.lo,ii T.we,ii T.al,ii T.f0,ii T.f1,ii T.t0,ii T.t1,ii T.s0,ii T.s1,ii T.o0,ii T.o1,ii T.b0,ii T.b1,ii T.r0,ii T.r1,lv],ii x.s]) (X h l w) = .ok (ii (sh T x.s)) (X h l w):=fun l w hw=>shipN T kT lv x.s (by omega) _ (wf.X hw)
  have c3 : ∀ n,has re n → ∀ w,w≤h.clock+3→(om Try.prog KK).call (.fn 68 [ii n,.ptr (nx h 1) 0,.ptr (nx h 2) 0]) (X h [.cells (zFw [ii T.sp,ii T.lo,ii T.we,ii T.al,ii T.f0,ii T.f1,ii T.t0,ii T.t1,ii T.s0,ii T.s1,ii T.o0,ii T.o1,ii T.b0,ii T.b1,ii T.r0,ii T.r1,lv]) 76,.cells (zFw [ii x.f,ii x.t,ii x.s,ii x.o,ii x.b,ii x.r]) 37,.cells (zFw [.fn 39 [.agg [a,b]] []]) 69] w) = .ok (ii (formed x (fr re cf n))) (X h [.cells (zFw [ii T.sp,ii T.lo,ii T.we,ii T.al,ii T.f0,ii T.f1,ii T.t0,ii T.t1,ii T.s0,ii T.s1,ii T.o0,ii T.o1,ii T.b0,ii T.b1,ii T.r0,ii T.r1,lv]) 76,.cells (zFw [ii x.f,ii x.t,ii x.s,ii x.o,ii x.b,ii x.r]) 37,.cells (zFw [.fn 39 [.agg [a,b]] []]) 69] w):=
    fun n hn w hw=>formedC a b re cf k x (by omega) n hn y (A:=1) (B:=2) hw rfl rfl
  have c4:=c3 _ h1
  have c5:=c3 _ h2
  have hm:=meas_in kT (f:=x.f) (by omega)
  have hm2:=yZv hm (b:=1000 - x.b) (y:=1000) ⟨by omega,by omega⟩
  have hme:min (20000000000 * x.f / (T.we * T.sp * T.sp)) 1000000000=meas T x.f:=by unfold meas;omega
  have hd2:=Int.ediv_nonneg hm2.1 (show (0:Int)≤1000 by decide)
  have hd3:meas T x.f * (1000 - x.b) / 1000≤meas T x.f * (1000 - x.b):=Int.ediv_le_self _ hm2.1
  have fb : ∀ n,has re n→0≤formed x (fr re cf n)∧formed x (fr re cf n)≤200000000:=fun n hn=>by
    have:=yZv (a:=1000+x.o) (x:=2000) ⟨by omega,by omega⟩ (fr_in k hn)
    unfold formed
    have h3:=Int.ediv_nonneg this.1 (show (0:Int)≤1000 by decide)
    have h4:(1000+x.o) * fr re cf n / 1000≤_:=Int.ediv_le_self _ this.1
    omega
  have fb1:=fb _ h1
  have fb2:=fb _ h2
  unfold coef
  refine zWy (zLx (fn:=Try.f48) Try.func48 rfl rfl rfl rfl rfl ?_)
  simp only [zLy]
  (repeat' (first
  | (with_reducible first|refine zJw ?_|refine zHz ?_|refine zEv ?_|refine zEw ?_|refine zFz ?_|refine zJv ?_|refine zHy ?_|refine zBv ?_|refine zDx ?_|refine zCz ?_|refine zCw ?_|refine zEy ?_|refine zCv ?_|refine zCy ?_|refine zBy ?_|refine zDv ?_|refine zEz ?_|refine zAw ?_|refine zBz ?_)
  | refine zDz ?_|refine zEx rfl ?_|refine zJy ?_|refine zJx ?_
  | ((first|refine zGv rfl rfl rfl rfl rfl fun K_ hK_=>?_|refine zGw rfl rfl rfl rfl rfl fun K_ hK_=>?_);simp only [zAz,zDy,zGx,↓reduceIte,reduceCtorEq,Nat.reduceEqDiff,Bool.not_true,Bool.not_false];refine hK_ _ ?_;clear hK_ K_)
  | refine zDw (by decide) ?_
  | ((try first|refine zKy rfl rfl rfl ?_|refine zJz rfl rfl ?_|refine zKx rfl rfl rfl ?_|refine zIv rfl rfl ?_);(refine zIw fun Q_ hQ_=>?_;simp (disch:=first|omega|(simp only [List.length_cons,List.length_nil,List.length_append];omega)) only [bb,bp,zLy,↓reduceIte,reduceCtorEq,Nat.reduceEqDiff,Nat.reduceLT,Nat.reduceLeDiff,Nat.reduceAdd,Nat.reduceMul,Nat.reduceSub,Nat.reduceBEq,Int.reduceToNat,cond_true,cond_false,eq_self,beq_self_eq_true,f1,f2,hme,bi_min,b_quo hz,b_quo (show (1000:Int)≠0 by decide),xEy (n:=20000000000 * x.f) (g:=T.we * T.sp * T.sp) ⟨by omega,by omega⟩ (by omega),xEy (n:=meas T x.f * (1000 - x.b)) (g:=1000) ⟨hm2.1,by omega⟩ (by decide),zFx wf,zGy wf,zBw wf,zFy wf,zAy wf,zAx,tEvD10,zIx,zIy,zIz,zHv,zFv,zAv wf];first|(refine zCx (Q:=Q_) (fun hp_=>?_) (fun hp_=>?_) <;> first|(exfalso;omega)|(refine hQ_ _ _ ?_;clear hQ_ Q_))|(refine zBx (Q:=Q_) (fun hp_=>?_) (fun hp_=>?_) <;> first|(exfalso;omega)|(refine hQ_ _ _ ?_;clear hQ_ Q_))|(refine hQ_ _ _ ?_;clear hQ_ Q_)))
  | (refine zHx fun K_ hK_=>?_;simp (disch:=omega) only [zGz,zAz,zHw,↓reduceIte,reduceCtorEq,Nat.reduceEqDiff,Nat.reduceLT];refine hK_ _ ?_;clear hK_ K_)))
  refine zLv (List.replicate 17 .no++[.full,.full]) (by kernel_rfl) ?_
  clear c3 fb
  generalize meas T x.f * (1000 - x.b) / 1000=M at *
  generalize formed x (fr re cf (mo T x.t))=F1 at *
  generalize formed x (fr re cf (sh T x.s))=F2 at *
  (repeat' (first
  | (with_reducible first|refine zJw ?_|refine zHz ?_|refine zEv ?_|refine zEw ?_|refine zFz ?_|refine zJv ?_|refine zHy ?_|refine zBv ?_|refine zDx ?_|refine zCz ?_|refine zCw ?_|refine zEy ?_|refine zCv ?_|refine zCy ?_|refine zBy ?_|refine zDv ?_|refine zEz ?_|refine zAw ?_|refine zBz ?_)
  | refine zDz ?_|refine zEx rfl ?_|refine zJy ?_|refine zJx ?_
  | ((first|refine zGv rfl rfl rfl rfl rfl fun K_ hK_=>?_|refine zGw rfl rfl rfl rfl rfl fun K_ hK_=>?_);simp only [zAz,zDy,zGx,↓reduceIte,reduceCtorEq,Nat.reduceEqDiff,Bool.not_true,Bool.not_false];refine hK_ _ ?_;clear hK_ K_)
  | refine zDw (by decide) ?_
  | ((try first|refine zKy rfl rfl rfl ?_|refine zJz rfl rfl ?_|refine zKx rfl rfl rfl ?_|refine zIv rfl rfl ?_);(refine zIw fun Q_ hQ_=>?_;simp (disch:=first|omega|(simp only [List.length_cons,List.length_nil,List.length_append];omega)) only [bb,bp,zLy,↓reduceIte,reduceCtorEq,Nat.reduceEqDiff,Nat.reduceLT,Nat.reduceLeDiff,Nat.reduceAdd,Nat.reduceMul,Nat.reduceSub,Nat.reduceBEq,Int.reduceToNat,cond_true,cond_false,eq_self,beq_self_eq_true,f1,f2,c1,c2,c4,c5,xGx,zFx wf,zGy wf,zBw wf,zFy wf,zAy wf,zAx,tEvD10,zIx,zIy,zIz,zHv,zFv,zAv wf];first|(refine zCx (Q:=Q_) (fun hp_=>?_) (fun hp_=>?_) <;> first|(exfalso;omega)|(refine hQ_ _ _ ?_;clear hQ_ Q_))|(refine zBx (Q:=Q_) (fun hp_=>?_) (fun hp_=>?_) <;> first|(exfalso;omega)|(refine hQ_ _ _ ?_;clear hQ_ Q_))|(refine hQ_ _ _ ?_;clear hQ_ Q_)))
  | (refine zHx fun K_ hK_=>?_;simp (disch:=omega) only [zGz,zAz,zHw,↓reduceIte,reduceCtorEq,Nat.reduceEqDiff,Nat.reduceLT];refine hK_ _ ?_;clear hK_ K_)))
  (refine zKz _ _ rfl (ret1 (by decide)) ?_;simp only [zAz,↓reduceIte,reduceCtorEq,Nat.reduceEqDiff];refine zKw rfl (by omega) ?_)
  exact ⟨rfl,rfl⟩
end Go.Proofs.Ythaleckfgcgegaa
end

section
namespace Go.Proofs.Ythaleckfgcgegaa
open Go.Ev
set_option maxRecDepth 100000
set_option linter.unusedSimpArgs false
set_option linter.unusedVariables false
set_option maxHeartbeats 2000000
def inR (T:Te) (re:List Int) (x:Tr):Prop:=has re (mo T x.t)∧has re (sh T x.s)
instance (T:Te) (re:List Int) (x:Tr):Decidable (inR T re x):=by unfold inR;infer_instance
def shipErr (T:Te) (re cf:List Int) (x:Tr):Int:=if ¬ okT T then 2 else if lineErr re cf≠0 then lineErr re cf else if ¬ isT T x then 3 else if ¬ inR T re x then 19 else 0
def shipVal (T:Te) (re cf:List Int) (x:Tr):Int:=if okT T∧lineErr re cf=0∧isT T x∧inR T re x then coef T re cf x else 0
end Go.Proofs.Ythaleckfgcgegaa
end

section
namespace Go.Ev
section
variable {P:Program} {K:List Con}
def YRC (lo c d:Nat) (hb:H) (J:List AO) (w:Nat) (I D:H→Prop):AV→H→Prop:=fun v h'=>∃ hb' J' w',h'=X hb' (J++J') w'∧Same hb hb'∧lo≤w'∧w'≤w∧(v = .bool true∧w'<c∧I hb'∨v = .bool false∧w'<d∧D hb')
def HandsC (P:Program) (K:List Con) (B:H→Prop) (fv:AV) (xs:List (List AV)):Prop:=
  ∀ (l:Pos) (hb0:H) (I:Nat→H→Prop) (D:H→Prop) (lo:Nat) (c:Nat→Nat) (d:Nat),lo≤hb0.w→hb0.w≤hb0.clock→(∀ k,c k≤hb0.clock)→d≤hb0.clock→(∀ i h,I i h→B h∧Same hb0 h)→(∀ h,D h→Wf h) →
    (∀ i x,xs[i]? = some x → ∀ hb J w,I i hb→lo≤w→w≤hb.clock+J.length→WV ((om P K).call (.yld l x) (X hb J w)) (YRC lo (c i) d hb J w (I (i+1)) D)) →
    I 0 hb0→WV (callV P (om P K) fv [.yld l] hb0) fun _ h'=>∃ hb J w,h'=X hb J w∧Same hb0 hb∧lo≤w∧w≤hb0.w∧(I xs.length hb∧(∀ k,k<xs.length→w<c k)∨D hb∧w<d)
theorem HandsC.mono {B B':H→Prop} {fv:AV} {xs:List (List AV)} (hd:HandsC P K B fv xs) (k : ∀ h,B' h→B h):HandsC P K B' fv xs:=
  fun l hb0 I D lo c d hlo hlw hc hdc hI hD hy h0=>hd l hb0 I D lo c d hlo hlw hc hdc (fun i h hi=>⟨k h (hI i h hi).1,(hI i h hi).2⟩) hD hy h0
def cmin (c:Nat→Nat) (b:Nat):Nat→Nat
  | 0=>c b
  | n+1=>min (cmin c b n) (c (b+(n+1)))
end
end Go.Ev
namespace Go.Ev
end Go.Ev
end

section
namespace Go.Ev
def NotT (t:TypeId) (o:AO):Prop:=∀ m,o ≠ .cells m t
def Chg (t:TypeId) (J J2:List AO):Prop:=J2.length=J.length ∧ ∀ (k:Nat) (o:AO),J[k]? = some o→NotT t o→J2[k]? = some o
def Keep (t:TypeId) (J J2:List AO):Prop:=∀ (k:Nat) m,J[k]? = some (.cells m t)→J2[k]? = some (.cells m t)
theorem Chg.rfl' {t:TypeId} (J:List AO):Chg t J J:=⟨rfl,fun _ _ h _=>h⟩
theorem Chg.trans {t:TypeId} {A B C:List AO} (x:Chg t A B) (y:Chg t B C):Chg t A C:=⟨y.1.trans x.1,fun k o h n=>y.2 k o (x.2 k o h n) n⟩
theorem Keep.rfl' {t:TypeId} (J:List AO):Keep t J J:=fun _ _ h=>h
theorem Keep.trans {t:TypeId} {A B C:List AO} (x:Keep t A B) (y:Keep t B C):Keep t A C:=fun k m h=>y k m (x k m h)
theorem Chg.cons {t:TypeId} {o:AO} {L Z:List AO} (x:Chg t (o :: L) Z) (hn:NotT t o) : ∃ Z',Z=o :: Z'∧Chg t L Z':=by
  obtain ⟨hl,hk⟩:=x
  have h0:=hk 0 o rfl hn
  match Z,h0,hl,hk with
  | z :: Z,h0,hl,hk=>
    simp only [List.getElem?_cons_zero,Option.some.injEq] at h0
    subst h0
    exact ⟨Z,rfl,by simpa using hl,fun k o' h n=>by have:=hk (k+1) o' (by simpa using h) n;simpa using this⟩
theorem Keep.cons {t:TypeId} {o o':AO} {L L':List AO} (x:Keep t L L') (hn:NotT t o):Keep t (o :: L) (o' :: L'):=fun k m h=>by
  cases k with
  | zero=>simp only [List.getElem?_cons_zero,Option.some.injEq] at h;exact absurd h (hn m)
  | succ k=>simp only [List.getElem?_cons_succ] at h ⊢;exact x k m h
theorem Keep.more {t:TypeId} (J A:List AO):Keep t J (J++A):=fun k m h=>by rw [List.getElem?_append_left (zXy h)];exact h
theorem Keep.nil {t:TypeId} (A:List AO):Keep t [] A:=fun k m h=>by simp at h
theorem Keep.set {t:TypeId} {L:List AO} {k:Nat} {o o':AO} (h:L[k]? = some o) (hn:NotT t o):Keep t L (L.set k o'):=fun j m hj=>by
  by_cases e:k=j
  · subst e;rw [h] at hj;cases hj;exact absurd rfl (hn m)
  · rw [List.getElem?_set_ne e];exact hj
section
variable {P:Program} {K:List Con}
def YRJ (t:TypeId) (lo c d:Nat) (hb:H) (J:List AO) (w:Nat) (I D:H→List AO→Prop):AV→H→Prop:=fun v h'=>∃ hb' J2 J' w',h'=X hb' (J2++J') w'∧Same hb hb'∧Chg t J J2∧lo≤w'∧w'≤w∧(v = .bool true∧w'<c∧I hb' (J2++J')∨v = .bool false∧w'<d∧D hb' (J2++J'))
def HandsJ (P:Program) (K:List Con) (t:TypeId) (B:H→Prop) (fv:AV) (xs:List (List AV)):Prop:=
  ∀ (l:Pos) (hb0:H) (I:Nat→H→List AO→Prop) (D:H→List AO→Prop) (lo:Nat) (c:Nat→Nat) (d:Nat),lo≤hb0.w→hb0.w≤hb0.clock→(∀ k,c k≤hb0.clock)→d≤hb0.clock→(∀ i h J,I i h J→B h∧Same hb0 h)→(∀ h J,D h J→Wf h) →
    (∀ i h J J2,I i h J→Keep t J J2→I i h J2)→(∀ h J J2,D h J→Keep t J J2→D h J2) →
    (∀ i x,xs[i]? = some x → ∀ hb J w,I i hb J→lo≤w→w≤hb.clock+J.length→WV ((om P K).call (.yld l x) (X hb J w)) (YRJ t lo (c i) d hb J w (I (i+1)) D)) →
    I 0 hb0 []→WV (callV P (om P K) fv [.yld l] hb0) fun _ h'=>∃ hb J w,h'=X hb J w∧Same hb0 hb∧lo≤w∧w≤hb0.w∧(I xs.length hb J∧(∀ k,k<xs.length→w<c k)∨D hb J∧w<d)
theorem HandsJ.mono {t:TypeId} {B B':H→Prop} {fv:AV} {xs:List (List AV)} (hd:HandsJ P K t B fv xs) (k : ∀ h,B' h→B h):HandsJ P K t B' fv xs:=
  fun l hb0 I D lo c d hlo hlw hc hdc hI hD mI mD hy h0=>hd l hb0 I D lo c d hlo hlw hc hdc (fun i h J hi=>⟨k h (hI i h J hi).1,(hI i h J hi).2⟩) hD mI mD hy h0
theorem HandsJ.plain {t:TypeId} {B:H→Prop} {fv:AV} {xs:List (List AV)} (hd:HandsJ P K t B fv xs):HandsC P K B fv xs:=
  fun l hb0 I D lo c d hlo hlw hc hdc hI hD hy h0=>hd l hb0 (fun i h _=>I i h) (fun h _=>D h) lo c d hlo hlw hc hdc (fun i h _ hi=>hI i h hi) (fun h _=>hD h) (fun _ _ _ _ h _=>h) (fun _ _ _ h _=>h)
    (fun i x hx hb J w hi hlo hw=>(hy i x hx hb J w hi hlo hw).mono fun v h' ⟨hb',J',w',e,s,h1,h2,hv⟩=>⟨hb',J,J',w',e,s,Chg.rfl' _,h1,h2,hv⟩) h0
end
end Go.Ev
namespace Go.Ev
section
variable {P:Program}
end
end Go.Ev
namespace Go.Ev
theorem Grow.front {h:H} {L0 L1 G:List AO} {v:AV} {sz e len:Nat} {cs:List AV} (g:Grow h L0 G v sz e len cs) (hl:L1.length=L0.length):Grow h L1 G v sz e len cs:=by
  obtain ⟨hc,⟨h0,rfl⟩|⟨idx,rfl,hg⟩⟩:=g
  · exact ⟨hc,.inl ⟨h0,rfl⟩⟩
  · exact ⟨hc,.inr ⟨idx,by rw [hl],hg⟩⟩
end Go.Ev
end

section
namespace Go.Ev
section
variable {P:Program}
theorem zerosE_rep (z:AV) (s:Nat) : ∀ n,zerosE (List.replicate s z) n=List.replicate (n * s) z
  | 0=>by rw [Nat.zero_mul];rfl
  | n+1=>by
    show List.replicate s z++zerosE (List.replicate s z) n=_
    rw [zerosE_rep z s n,List.replicate_append_replicate]
    congr 1
    rw [Nat.succ_mul];omega
theorem makeSlice_wide {h0:H} (wf:Wf h0) {t e size bytes n s:Nat} {z z0:AV} {l:List AO} {w:Nat} (hu:P.underlying t=some (.slice e)) (hz:sizeE P e=some size) (E:El P e size bytes z) (hn:n≤1000) (hb:bytes≤100000) (h1:z.cells=List.replicate s z0) :
    makeSliceE P t (.int .i64 (n:Int)) (.int .i64 (n:Int)) (X h0 l w) = .ok (.sl (nx h0 l.length) 0 n (some n) size) (X h0 (l++[.cells (zFw (List.replicate (n * s) z0)) e]) w):=by
  obtain ⟨i,hi,rfl⟩:=Option.map_eq_some_iff.1 E.info
  have hs:i.size=size:=by
    unfold sizeE at hz
    rw [hi] at hz
    dsimp only at hz
    rw [zLw] at hz
    exact Option.some.inj hz
  unfold makeSliceE
  rw [hu]
  dsimp only
  rw [hi,E.zero]
  dsimp only
  rw [xAx]
  dsimp only
  have hc:(Nat.ble n n && Nat.ble n 1048576 && Nat.ble (i.bytes * n) 281474976710656 && Nat.beq z.cells.length i.size)=true:=by
    have h2:i.bytes * n≤100000 * 1000:=Nat.mul_le_mul hb hn
    rw [E.cells,hs,Nat.ble_eq_true_of_le (Nat.le_refl n),Nat.ble_eq_true_of_le (show n≤1048576 by omega),Nat.ble_eq_true_of_le (show i.bytes * n≤281474976710656 by omega)]
    simp
  rw [hc]
  dsimp only [cond]
  rw [zAv wf,h1,zerosE_rep,hs]
end
end Go.Ev
end

section
namespace Go.Proofs.Ythaleckfgcgegaa
open Go.Ev
set_option maxRecDepth 100000
set_option linter.unusedSimpArgs false
set_option linter.unusedVariables false
set_option maxHeartbeats 2000000
theorem tEvD16 :type_of% (And.intro (And.intro (And.intro (And.intro (And.intro (And.intro (And.intro (@yWz) (@yVv)) (And.intro (@yVw) (And.intro (@yVx) (@yVy)))) (And.intro (And.intro (@yVz) (And.intro (@yUv) (@yUw))) (And.intro (@zVy) (And.intro (@ia_2) (@sz_2))))) (And.intro (And.intro (And.intro (@ia_3) (@sz_3)) (And.intro (@ia_4) (And.intro (@sz_4) (@yUx)))) (And.intro (And.intro (@yDw) (And.intro (@yUy) (@yDx))) (And.intro (@yUz) (And.intro (@yDy) (@yTv)))))) (And.intro (And.intro (And.intro (And.intro (@zWw) (@yTw)) (And.intro (@yDz) (And.intro (@yTx) (@yCv)))) (And.intro (And.intro (@yTy) (And.intro (@yCw) (@yTz))) (And.intro (@yCx) (And.intro (@ySv) (@yCy))))) (And.intro (And.intro (And.intro (@ySw) (@yCz)) (And.intro (@ySx) (And.intro (@zXz) (@ySy)))) (And.intro (And.intro (@yBv) (And.intro (@ySz) (@yBw))) (And.intro (@yRv) (And.intro (@yBx) (@yRw))))))) (And.intro (And.intro (And.intro (And.intro (And.intro (@yBy) (@yRx)) (And.intro (@yBz) (And.intro (@yRy) (@yAv)))) (And.intro (And.intro (@yRz) (And.intro (@yAw) (@yQv))) (And.intro (@yAx) (And.intro (@yQw) (@yAy))))) (And.intro (And.intro (And.intro (@yQx) (@yAz)) (And.intro (@zVz) (And.intro (@zTw) (@zUv)))) (And.intro (And.intro (@zTx) (And.intro (@zUw) (@zTy))) (And.intro (@zUx) (And.intro (@zTz) (@zUy)))))) (And.intro (And.intro (And.intro (And.intro (@zSv) (@zUz)) (And.intro (@zSw) (And.intro (@zTv) (@zSx)))) (And.intro (And.intro (@ze_2) (And.intro (@ze_3) (@ze_4))) (And.intro (@zZv) (And.intro (@zZw) (@zZx))))) (And.intro (And.intro (And.intro (@zZy) (And.intro (@zZz) (@zYv))) (And.intro (@zYw) (And.intro (@zYx) (@zYy)))) (And.intro (And.intro (@zSy) (And.intro (@zRx) (@zRy))) (And.intro (@zRz) (And.intro (@zQv) (@zQw)))))))) (And.intro (And.intro (And.intro (And.intro (And.intro (And.intro (@zQx) (@zQy)) (And.intro (@zQz) (And.intro (@zPv) (@zPw)))) (And.intro (And.intro (@zPx) (And.intro (@zPy) (@zPz))) (And.intro (@zOv) (And.intro (@zOw) (@zOx))))) (And.intro (And.intro (And.intro (@zOy) (@zOz)) (And.intro (@zNv) (And.intro (@zNw) (@zNx)))) (And.intro (And.intro (@zNy) (And.intro (@zNz) (@zMv))) (And.intro (@zMw) (And.intro (@zMx) (@zMy)))))) (And.intro (And.intro (And.intro (And.intro (@zMz) (@yQy)) (And.intro (@yQz) (And.intro (@yPv) (@yPw)))) (And.intro (And.intro (@yPx) (And.intro (@yPy) (@yPz))) (And.intro (@yOv) (And.intro (@yOw) (@yOx))))) (And.intro (And.intro (And.intro (@yOy) (And.intro (@yOz) (@yNv))) (And.intro (@yNw) (And.intro (@yNx) (@yNy)))) (And.intro (And.intro (@yNz) (And.intro (@yMv) (@yMw))) (And.intro (@yMx) (And.intro (@yMy) (@yMz))))))) (And.intro (And.intro (And.intro (And.intro (And.intro (@yLv) (@yLw)) (And.intro (@yLx) (And.intro (@yLy) (@yLz)))) (And.intro (And.intro (@yKv) (And.intro (@yKw) (@yKx))) (And.intro (@yKy) (And.intro (@yKz) (@yJv))))) (And.intro (And.intro (And.intro (@yJw) (@yJx)) (And.intro (@yJy) (And.intro (@yJz) (@yIv)))) (And.intro (And.intro (@yIw) (And.intro (@yIx) (@yIy))) (And.intro (@yIz) (And.intro (@yHv) (@yHw)))))) (And.intro (And.intro (And.intro (And.intro (@yHx) (@yHy)) (And.intro (@yHz) (And.intro (@yGv) (@yGw)))) (And.intro (And.intro (@yGx) (And.intro (@zYz) (@zXv))) (And.intro (@yGy) (And.intro (@yGz) (@yFv))))) (And.intro (And.intro (And.intro (@yFw) (And.intro (@yFx) (@yFy))) (And.intro (@yFz) (And.intro (@yEv) (@yEw)))) (And.intro (And.intro (@yEx) (And.intro (@yEy) (@zXw))) (And.intro (@yEz) (And.intro (@yDv) (@zXx))))))))):=And.intro (And.intro (And.intro (And.intro (And.intro (And.intro (And.intro (@yWz) (@yVv)) (And.intro (@yVw) (And.intro (@yVx) (@yVy)))) (And.intro (And.intro (@yVz) (And.intro (@yUv) (@yUw))) (And.intro (@zVy) (And.intro (@ia_2) (@sz_2))))) (And.intro (And.intro (And.intro (@ia_3) (@sz_3)) (And.intro (@ia_4) (And.intro (@sz_4) (@yUx)))) (And.intro (And.intro (@yDw) (And.intro (@yUy) (@yDx))) (And.intro (@yUz) (And.intro (@yDy) (@yTv)))))) (And.intro (And.intro (And.intro (And.intro (@zWw) (@yTw)) (And.intro (@yDz) (And.intro (@yTx) (@yCv)))) (And.intro (And.intro (@yTy) (And.intro (@yCw) (@yTz))) (And.intro (@yCx) (And.intro (@ySv) (@yCy))))) (And.intro (And.intro (And.intro (@ySw) (@yCz)) (And.intro (@ySx) (And.intro (@zXz) (@ySy)))) (And.intro (And.intro (@yBv) (And.intro (@ySz) (@yBw))) (And.intro (@yRv) (And.intro (@yBx) (@yRw))))))) (And.intro (And.intro (And.intro (And.intro (And.intro (@yBy) (@yRx)) (And.intro (@yBz) (And.intro (@yRy) (@yAv)))) (And.intro (And.intro (@yRz) (And.intro (@yAw) (@yQv))) (And.intro (@yAx) (And.intro (@yQw) (@yAy))))) (And.intro (And.intro (And.intro (@yQx) (@yAz)) (And.intro (@zVz) (And.intro (@zTw) (@zUv)))) (And.intro (And.intro (@zTx) (And.intro (@zUw) (@zTy))) (And.intro (@zUx) (And.intro (@zTz) (@zUy)))))) (And.intro (And.intro (And.intro (And.intro (@zSv) (@zUz)) (And.intro (@zSw) (And.intro (@zTv) (@zSx)))) (And.intro (And.intro (@ze_2) (And.intro (@ze_3) (@ze_4))) (And.intro (@zZv) (And.intro (@zZw) (@zZx))))) (And.intro (And.intro (And.intro (@zZy) (And.intro (@zZz) (@zYv))) (And.intro (@zYw) (And.intro (@zYx) (@zYy)))) (And.intro (And.intro (@zSy) (And.intro (@zRx) (@zRy))) (And.intro (@zRz) (And.intro (@zQv) (@zQw)))))))) (And.intro (And.intro (And.intro (And.intro (And.intro (And.intro (@zQx) (@zQy)) (And.intro (@zQz) (And.intro (@zPv) (@zPw)))) (And.intro (And.intro (@zPx) (And.intro (@zPy) (@zPz))) (And.intro (@zOv) (And.intro (@zOw) (@zOx))))) (And.intro (And.intro (And.intro (@zOy) (@zOz)) (And.intro (@zNv) (And.intro (@zNw) (@zNx)))) (And.intro (And.intro (@zNy) (And.intro (@zNz) (@zMv))) (And.intro (@zMw) (And.intro (@zMx) (@zMy)))))) (And.intro (And.intro (And.intro (And.intro (@zMz) (@yQy)) (And.intro (@yQz) (And.intro (@yPv) (@yPw)))) (And.intro (And.intro (@yPx) (And.intro (@yPy) (@yPz))) (And.intro (@yOv) (And.intro (@yOw) (@yOx))))) (And.intro (And.intro (And.intro (@yOy) (And.intro (@yOz) (@yNv))) (And.intro (@yNw) (And.intro (@yNx) (@yNy)))) (And.intro (And.intro (@yNz) (And.intro (@yMv) (@yMw))) (And.intro (@yMx) (And.intro (@yMy) (@yMz))))))) (And.intro (And.intro (And.intro (And.intro (And.intro (@yLv) (@yLw)) (And.intro (@yLx) (And.intro (@yLy) (@yLz)))) (And.intro (And.intro (@yKv) (And.intro (@yKw) (@yKx))) (And.intro (@yKy) (And.intro (@yKz) (@yJv))))) (And.intro (And.intro (And.intro (@yJw) (@yJx)) (And.intro (@yJy) (And.intro (@yJz) (@yIv)))) (And.intro (And.intro (@yIw) (And.intro (@yIx) (@yIy))) (And.intro (@yIz) (And.intro (@yHv) (@yHw)))))) (And.intro (And.intro (And.intro (And.intro (@yHx) (@yHy)) (And.intro (@yHz) (And.intro (@yGv) (@yGw)))) (And.intro (And.intro (@yGx) (And.intro (@zYz) (@zXv))) (And.intro (@yGy) (And.intro (@yGz) (@yFv))))) (And.intro (And.intro (And.intro (@yFw) (And.intro (@yFx) (@yFy))) (And.intro (@yFz) (And.intro (@yEv) (@yEw)))) (And.intro (And.intro (@yEx) (And.intro (@yEy) (@zXw))) (And.intro (@yEz) (And.intro (@yDv) (@zXx))))))))
theorem div_anti {a b c:Int} (ha:0≤a) (hb:0<b) (h:b≤c):a / c≤a / b:=by
  have h1:=Int.ediv_nonneg ha (show 0≤c by omega)
  have h2:=Int.ediv_mul_le a (show c≠0 by omega)
  have h3:=Int.mul_le_mul_of_nonneg_left h h1
  exact Int.le_ediv_of_mul_le hb (by omega)
theorem mo_anti {T:Te} (k:okT T) {t t':Int} (h0:0<t) (h:t≤t'):mo T t'≤mo T t:=div_anti k.prods.p2.1 h0 h
theorem sh_anti {T:Te} (k:okT T) {t t':Int} (h0:0<t) (h:t≤t'):sh T t'≤sh T t:=div_anti k.prods.p5.1 h0 h
def inAll (T:Te) (re:List Int):Prop:=(has re (mo T T.t1)∧has re (sh T T.s1))∧(has re (mo T T.t0)∧has re (sh T T.s0))
instance (T:Te) (re:List Int):Decidable (inAll T re):=by unfold inAll;infer_instance
def rk (T:Te) (ls:List Ln):Prop:=∀ l ∈ ls,inAll T l.re
instance (T:Te) (ls:List Ln):Decidable (rk T ls):=by unfold rk;infer_instance
theorem xQx {T:Te} (k:okT T) {re:List Int} (q:inAll T re) {x:Tr} (kx:isT T x):inR T re x:=by
  have kt:=k.t
  have ks:=k.s
  have h1:=mo_anti k (t:=T.t0) (t':=x.t) (by omega) kx.t.1
  have h2:=mo_anti k (t:=x.t) (t':=T.t1) (by have:=kx.t;omega) kx.t.2
  have h3:=sh_anti k (t:=T.s0) (t':=x.s) (by omega) kx.s.1
  have h4:=sh_anti k (t:=x.s) (t':=T.s1) (by have:=kx.s;omega) kx.s.2
  have q1:=q.1.1.1
  have q2:=q.1.2.1
  have q3:=q.2.1.2
  have q4:=q.2.2.2
  exact ⟨⟨by omega,by omega⟩,by omega,by omega⟩

noncomputable def lnO (l:Ln):AO:=.cells (zFw [l.a,l.b]) 24
theorem curvesOf (s:AV) (ls:List Ln) (hn:1≤ls.length∧ls.length≤4) (h:H) (x:LinesR h s ls) (L:List AO) (w:Nat) (hw:w≤h.clock+L.length) :
    (om Try.prog KK).call (.fn 70 [s]) (X h L w) = .ok (.sl (nx h L.length) 0 ls.length (some ls.length) 2) (X h (L++(.cells (zFw (ls.flatMap lnC)) 67 :: ls.map lnO)) w):=by
  have key : ∀ hb,LinesR hb s ls→(om Try.prog KK).call (.fn 70 [s]) hb = .ok (.sl (nx hb 0) 0 ls.length (some ls.length) 2) (X hb (.cells (zFw (ls.flatMap lnC)) 67 :: ls.map lnO) hb.w):=by
    clear hw x
    intro h x
    have wf:=x.wf
    have hl : ∀ h',lenE Try.prog 43 s h'=some (ii (ls.length:Int)):=fun h'=>x.sl.len un_43
    have hmk : ∀ l w,makeSliceE Try.prog 74 (.int .i64 (ls.length:Int)) (.int .i64 (ls.length:Int)) (X h l w) = .ok (.sl (nx h l.length) 0 ls.length (some ls.length) 2) (X h (l++[.cells (zFw (List.replicate (ls.length * 2) .nils)) 67]) w):=
      fun l w=>makeSlice_wide (s:=2) (z0:=.nils) wf un_74 zXz el_67 (by omega) (by decide) rfl
    refine zWy (zLx (fn:=Try.f70) Try.func70 rfl rfl rfl rfl rfl ?_)
    simp only [zLy]
    (repeat' (first
  | (with_reducible first|refine zJw ?_|refine zHz ?_|refine zEv ?_|refine zEw ?_|refine zFz ?_|refine zJv ?_|refine zHy ?_|refine zBv ?_|refine zDx ?_|refine zCz ?_|refine zCw ?_|refine zEy ?_|refine zCv ?_|refine zCy ?_|refine zBy ?_|refine zDv ?_|refine zEz ?_|refine zAw ?_|refine zBz ?_)
  | refine zDz ?_|refine zEx rfl ?_|refine zJy ?_|refine zJx ?_
  | ((first|refine zGv rfl rfl rfl rfl rfl fun K_ hK_=>?_|refine zGw rfl rfl rfl rfl rfl fun K_ hK_=>?_);simp only [zAz,zDy,zGx,↓reduceIte,reduceCtorEq,Nat.reduceEqDiff,Bool.not_true,Bool.not_false];refine hK_ _ ?_;clear hK_ K_)
  | refine zDw (by decide) ?_
  | ((try first|refine zKy rfl rfl rfl ?_|refine zJz rfl rfl ?_|refine zKx rfl rfl rfl ?_|refine zIv rfl rfl ?_);(refine zIw fun Q_ hQ_=>?_;simp (disch:=first|omega|(simp only [List.length_cons,List.length_nil,List.length_append];omega)) only [bb,bp,zLy,↓reduceIte,reduceCtorEq,Nat.reduceEqDiff,Nat.reduceLT,Nat.reduceLeDiff,Nat.reduceAdd,Nat.reduceMul,Nat.reduceSub,Nat.reduceBEq,Int.reduceToNat,cond_true,cond_false,eq_self,beq_self_eq_true,hl,hmk,zFx wf,zGy wf,zBw wf,zFy wf,zAy wf,zAx,tEvD16,zIx,zIy,zIz,zHv,zFv,zAv wf];first|(refine zCx (Q:=Q_) (fun hp_=>?_) (fun hp_=>?_) <;> first|(exfalso;omega)|(refine hQ_ _ _ ?_;clear hQ_ Q_))|(refine zBx (Q:=Q_) (fun hp_=>?_) (fun hp_=>?_) <;> first|(exfalso;omega)|(refine hQ_ _ _ ?_;clear hQ_ Q_))|(refine hQ_ _ _ ?_;clear hQ_ Q_)))
  | (refine zHx fun K_ hK_=>?_;simp (disch:=omega) only [zGz,zAz,zHw,↓reduceIte,reduceCtorEq,Nat.reduceEqDiff,Nat.reduceLT];refine hK_ _ ?_;clear hK_ K_)))
    refine zVw (fun (i:Nat) f d h'=>i≤ls.length∧f 3 = .sl (nx h 0) 0 ls.length (some ls.length) 2∧f 9=s∧f 10=ii (ls.length:Int)∧f 11=ii (i:Int)∧d=[] ∧
      h'=X h (.cells (zFw ((ls.take i).flatMap lnC++List.replicate ((ls.length - i) * 2) .nils)) 67 :: (ls.take i).map lnO) h.clock) (fun i=>ls.length - i) ?_ (ls.length+1) 0 (by omega) ?_
    · rintro i f d h' ⟨hi,g3,g9,g10,g11,rfl,rfl⟩
      by_cases hlt:i<ls.length
      · obtain ⟨id,off,hix,hld,hln⟩:=x.at ik_43 hlt
        obtain ⟨⟨fa,fa'⟩,⟨fb,fb'⟩⟩:=hln.flats
        have e1:((ls.take i).map lnO).length=i:=by rw [List.length_map,List.length_take];omega
        have e2:((ls.take i).flatMap lnC).length=i * 2:=by rw [flat_length xJv,List.length_take,Nat.min_eq_left (by omega)]
        have e3:(ls.take (i+1)).map lnO=(ls.take i).map lnO++[.cells (zFw [ls[i].a,ls[i].b]) 24]:=by rw [List.take_succ_eq_append_getElem hlt,List.map_append];rfl
        have e4:(ls.take (i+1)).flatMap lnC=(ls.take i).flatMap lnC++[ls[i].a,ls[i].b]:=by rw [List.take_succ_eq_append_getElem hlt,List.flatMap_append];simp [lnC]
        have e5:List.replicate ((ls.length - i) * 2) AV.nils=AV.nils :: AV.nils :: List.replicate ((ls.length - (i+1)) * 2) AV.nils:=by
          rw [show (ls.length - i) * 2=(ls.length - (i+1)) * 2+1+1 by omega,List.replicate_succ,List.replicate_succ]
        have hia:indexAddrE Try.prog 74 (.sl (nx h 0) 0 ls.length (some ls.length) 2) (.int .i64 (i:Int))=some (.ptr (nx h 0) (i * 2)):=by
          have ht:toNatE (.int .i64 (i:Int))=some i:=by rw [xSz (by omega),Int.toNat_natCast]
          simp only [xLv,ht,ik_74,xKz hlt,Nat.zero_add]
        rw [e5]
        generalize hG:(ls.take i).map lnO=G at *
        generalize hC:(ls.take i).flatMap lnC=C at *
        generalize hR:List.replicate ((ls.length - (i+1)) * 2) AV.nils=R at *
        have hwr : ∀ M w,writeCells (nx h 0) (i * 2) [ls[i].a,ls[i].b] (X h (.cells (zFw (C ++ .nils :: .nils :: R)) 67 :: M) w)=some (X h (.cells (zFw ((C++[ls[i].a,ls[i].b])++R)) 67 :: M) (min h.clock w)):=fun M w=>by
          rw [zAy wf,List.getElem?_cons_zero,xEv]
          have ho:allOne [ls[i].a,ls[i].b]=true:=by rw [xCz,fa',xCz,fb',xVx];rfl
          rw [ho,cond_true,if_pos (by simp only [List.length_append,List.length_cons,List.length_nil];omega)]
          have es:splice (C ++ .nils :: .nils :: R) (i * 2) [ls[i].a,ls[i].b]=(C++[ls[i].a,ls[i].b])++R:=by
            rw [xSx,← e2,List.take_left,show C.length+[ls[i].a,ls[i].b].length=C.length+2 from rfl,← List.drop_drop,List.drop_left]
            rfl
          rw [es]
          rfl
        (repeat' (first
  | (with_reducible first|refine zJw ?_|refine zHz ?_|refine zEv ?_|refine zEw ?_|refine zFz ?_|refine zJv ?_|refine zHy ?_|refine zBv ?_|refine zDx ?_|refine zCz ?_|refine zCw ?_|refine zEy ?_|refine zCv ?_|refine zCy ?_|refine zBy ?_|refine zDv ?_|refine zEz ?_|refine zAw ?_|refine zBz ?_)
  | refine zDz ?_|refine zEx rfl ?_|refine zJy ?_|refine zJx ?_
  | ((first|refine zGv rfl rfl rfl rfl rfl fun K_ hK_=>?_|refine zGw rfl rfl rfl rfl rfl fun K_ hK_=>?_);simp only [zAz,zDy,zGx,↓reduceIte,reduceCtorEq,Nat.reduceEqDiff,Bool.not_true,Bool.not_false];refine hK_ _ ?_;clear hK_ K_)
  | refine zDw (by decide) ?_
  | ((try first|refine zKy rfl rfl rfl ?_|refine zJz rfl rfl ?_|refine zKx rfl rfl rfl ?_|refine zIv rfl rfl ?_);(refine zIw fun Q_ hQ_=>?_;simp (disch:=first|omega|(simp only [List.length_cons,List.length_nil,List.length_append];omega)) only [bb,bp,zLy,↓reduceIte,reduceCtorEq,Nat.reduceEqDiff,Nat.reduceLT,Nat.reduceLeDiff,Nat.reduceAdd,Nat.reduceMul,Nat.reduceSub,Nat.reduceBEq,Int.reduceToNat,cond_true,cond_false,eq_self,beq_self_eq_true,g3,g9,g10,g11,hix,hld,fa,fb,fa',fb',hia,zFx wf,zGy wf,zBw wf,zFy wf,zAy wf,zAx,tEvD16,zIx,zIy,zIz,zHv,zFv,zAv wf];first|(refine zCx (Q:=Q_) (fun hp_=>?_) (fun hp_=>?_) <;> first|(exfalso;omega)|(refine hQ_ _ _ ?_;clear hQ_ Q_))|(refine zBx (Q:=Q_) (fun hp_=>?_) (fun hp_=>?_) <;> first|(exfalso;omega)|(refine hQ_ _ _ ?_;clear hQ_ Q_))|(refine hQ_ _ _ ?_;clear hQ_ Q_)))
  | (refine zHx fun K_ hK_=>?_;simp (disch:=omega) only [zGz,zAz,zHw,↓reduceIte,reduceCtorEq,Nat.reduceEqDiff,Nat.reduceLT];refine hK_ _ ?_;clear hK_ K_)))
        (repeat' (first
  | (with_reducible first|refine zJw ?_|refine zHz ?_|refine zEv ?_|refine zEw ?_|refine zFz ?_|refine zJv ?_|refine zHy ?_|refine zBv ?_|refine zDx ?_|refine zCz ?_|refine zCw ?_|refine zEy ?_|refine zCv ?_|refine zCy ?_|refine zBy ?_|refine zDv ?_|refine zEz ?_|refine zAw ?_|refine zBz ?_)
  | refine zDz ?_|refine zEx rfl ?_|refine zJy ?_|refine zJx ?_
  | ((first|refine zGv rfl rfl rfl rfl rfl fun K_ hK_=>?_|refine zGw rfl rfl rfl rfl rfl fun K_ hK_=>?_);simp only [zAz,zDy,zGx,↓reduceIte,reduceCtorEq,Nat.reduceEqDiff,Bool.not_true,Bool.not_false];refine hK_ _ ?_;clear hK_ K_)
  | refine zDw (by decide) ?_
  | ((try first|refine zKy rfl rfl rfl ?_|refine zJz rfl rfl ?_|refine zKx rfl rfl rfl ?_|refine zIv rfl rfl ?_);(refine zIw fun Q_ hQ_=>?_;simp (disch:=first|omega|(simp only [List.length_cons,List.length_nil,List.length_append];omega)) only [bb,bp,zLy,↓reduceIte,reduceCtorEq,Nat.reduceEqDiff,Nat.reduceLT,Nat.reduceLeDiff,Nat.reduceAdd,Nat.reduceMul,Nat.reduceSub,Nat.reduceBEq,Int.reduceToNat,cond_true,cond_false,eq_self,beq_self_eq_true,hwr,fa,fb,fa',fb',g11,zFx wf,zGy wf,zBw wf,tEvD16,zIx,zIy,zIz,zHv,zFv,zAv wf];first|(refine zCx (Q:=Q_) (fun hp_=>?_) (fun hp_=>?_) <;> first|(exfalso;omega)|(refine hQ_ _ _ ?_;clear hQ_ Q_))|(refine zBx (Q:=Q_) (fun hp_=>?_) (fun hp_=>?_) <;> first|(exfalso;omega)|(refine hQ_ _ _ ?_;clear hQ_ Q_))|(refine hQ_ _ _ ?_;clear hQ_ Q_)))
  | (refine zHx fun K_ hK_=>?_;simp (disch:=omega) only [zGz,zAz,zHw,↓reduceIte,reduceCtorEq,Nat.reduceEqDiff,Nat.reduceLT];refine hK_ _ ?_;clear hK_ K_)))
        refine zLz (i+1) (by omega) ⟨hlt,by simp only [zAz,↓reduceIte,reduceCtorEq,Nat.reduceEqDiff];exact g3,by simp only [zAz,↓reduceIte,reduceCtorEq,Nat.reduceEqDiff];exact g9,by simp only [zAz,↓reduceIte,reduceCtorEq,Nat.reduceEqDiff];exact g10,by simp only [zAz,↓reduceIte,reduceCtorEq,Nat.reduceEqDiff];rfl,rfl,?_⟩
        rw [e3,e4,hR,List.append_assoc]
        rfl
      · have hie:i=ls.length:=by omega
        subst hie
        (repeat' (first
  | (with_reducible first|refine zJw ?_|refine zHz ?_|refine zEv ?_|refine zEw ?_|refine zFz ?_|refine zJv ?_|refine zHy ?_|refine zBv ?_|refine zDx ?_|refine zCz ?_|refine zCw ?_|refine zEy ?_|refine zCv ?_|refine zCy ?_|refine zBy ?_|refine zDv ?_|refine zEz ?_|refine zAw ?_|refine zBz ?_)
  | refine zDz ?_|refine zEx rfl ?_|refine zJy ?_|refine zJx ?_
  | ((first|refine zGv rfl rfl rfl rfl rfl fun K_ hK_=>?_|refine zGw rfl rfl rfl rfl rfl fun K_ hK_=>?_);simp only [zAz,zDy,zGx,↓reduceIte,reduceCtorEq,Nat.reduceEqDiff,Bool.not_true,Bool.not_false];refine hK_ _ ?_;clear hK_ K_)
  | refine zDw (by decide) ?_
  | ((try first|refine zKy rfl rfl rfl ?_|refine zJz rfl rfl ?_|refine zKx rfl rfl rfl ?_|refine zIv rfl rfl ?_);(refine zIw fun Q_ hQ_=>?_;simp (disch:=first|omega|(simp only [List.length_cons,List.length_nil,List.length_append];omega)) only [bb,bp,zLy,↓reduceIte,reduceCtorEq,Nat.reduceEqDiff,Nat.reduceLT,Nat.reduceLeDiff,Nat.reduceAdd,Nat.reduceMul,Nat.reduceSub,Nat.reduceBEq,Int.reduceToNat,cond_true,cond_false,eq_self,beq_self_eq_true,g3,g9,g10,g11,zFx wf,zGy wf,zBw wf,zFy wf,zAy wf,zAx,tEvD16,zIx,zIy,zIz,zHv,zFv,zAv wf];first|(refine zCx (Q:=Q_) (fun hp_=>?_) (fun hp_=>?_) <;> first|(exfalso;omega)|(refine hQ_ _ _ ?_;clear hQ_ Q_))|(refine zBx (Q:=Q_) (fun hp_=>?_) (fun hp_=>?_) <;> first|(exfalso;omega)|(refine hQ_ _ _ ?_;clear hQ_ Q_))|(refine hQ_ _ _ ?_;clear hQ_ Q_)))
  | (refine zHx fun K_ hK_=>?_;simp (disch:=omega) only [zGz,zAz,zHw,↓reduceIte,reduceCtorEq,Nat.reduceEqDiff,Nat.reduceLT];refine hK_ _ ?_;clear hK_ K_)))
        refine zKz _ _ rfl (ret1 (by decide)) ?_
        simp only [zAz,↓reduceIte,reduceCtorEq,Nat.reduceEqDiff]
        refine WV_ext (by exact Bool.and_false _) ?_
        rw [List.take_of_length_le (Nat.le_refl _),Nat.sub_self,Nat.zero_mul,List.replicate_zero,List.append_nil]
        refine ⟨rfl,?_⟩
        rw [Nat.min_eq_left wf.wle]
    · refine ⟨Nat.zero_le _,by simp only [zAz,↓reduceIte,reduceCtorEq,Nat.reduceEqDiff],by simp only [zAz,↓reduceIte,reduceCtorEq,Nat.reduceEqDiff],by simp only [zAz,↓reduceIte,reduceCtorEq,Nat.reduceEqDiff],by simp only [zAz,↓reduceIte,reduceCtorEq,Nat.reduceEqDiff];rfl,rfl,?_⟩
      rw [List.take_zero,List.flatMap_nil,List.map_nil,List.nil_append,Nat.sub_zero]
  have x':=x.up L w hw
  rw [key _ x',X_X,nx_X,X_w]
  rfl

theorem mo_le {T:Te} (k:okT T):mo T T.t1≤mo T T.t0∧sh T T.s1≤sh T T.s0:=by
  have kt:=k.t
  have ks:=k.s
  exact ⟨mo_anti k (by omega) (by omega),sh_anti k (by omega) (by omega)⟩
theorem inside (a b:AV) (re cf:List Int) (u v:Int) (h:H) (x:LineR h a b re cf) (hn:2≤re.length∧re.length≤12):(om Try.prog KK).call (.fn 73 [.agg [a,b],.agg [ii u,ii v]]) h = .ok (.bool (decide (re.getD 0 0≤u∧v≤re.getD (re.length - 1) 0))) h:=by
  have wf:=x.wf
  obtain ⟨⟨fa,fa'⟩,⟨fb,fb'⟩⟩:=x.flats
  have ha : ∀ h',lenE Try.prog 22 a h'=some (ii (re.length:Int)):=fun h'=>x.re.len yZw
  obtain ⟨ia,oa,hxa,hla⟩:=yWx wf x.re (i:=0) (by omega)
  obtain ⟨ib,ob,hxb,hlb⟩:=yWx wf x.re (i:=re.length - 1) (by omega)
  rw [show ((re.length - 1:Nat):Int)=(re.length:Int) - 1 from by omega] at hxb
  have hxa':indexAddrE Try.prog 22 a (.int .i64 0)=some (.ptr ia oa):=hxa
  generalize re.getD 0 0=p at *
  generalize re.getD (re.length - 1) 0=q at *
  refine zWy (zLx (fn:=Try.f73) Try.func73 rfl rfl rfl rfl rfl ?_)
  simp only [zLy]
  (repeat' (first
  | (with_reducible first|refine zJw ?_|refine zHz ?_|refine zEv ?_|refine zEw ?_|refine zFz ?_|refine zJv ?_|refine zHy ?_|refine zBv ?_|refine zDx ?_|refine zCz ?_|refine zCw ?_|refine zEy ?_|refine zCv ?_|refine zCy ?_|refine zBy ?_|refine zDv ?_|refine zEz ?_|refine zAw ?_|refine zBz ?_)
  | refine zDz ?_|refine zEx rfl ?_|refine zJy ?_|refine zJx ?_
  | ((first|refine zGv rfl rfl rfl rfl rfl fun K_ hK_=>?_|refine zGw rfl rfl rfl rfl rfl fun K_ hK_=>?_);simp only [zAz,zDy,zGx,↓reduceIte,reduceCtorEq,Nat.reduceEqDiff,Bool.not_true,Bool.not_false];refine hK_ _ ?_;clear hK_ K_)
  | refine zDw (by decide) ?_
  | ((try first|refine zKy rfl rfl rfl ?_|refine zJz rfl rfl ?_|refine zKx rfl rfl rfl ?_|refine zIv rfl rfl ?_);(refine zIw fun Q_ hQ_=>?_;simp (disch:=first|omega|(simp only [List.length_cons,List.length_nil,List.length_append];omega)) only [bb,bp,zLy,↓reduceIte,reduceCtorEq,Nat.reduceEqDiff,Nat.reduceLT,Nat.reduceLeDiff,Nat.reduceAdd,Nat.reduceMul,Nat.reduceSub,Nat.reduceBEq,Int.reduceToNat,cond_true,cond_false,eq_self,beq_self_eq_true,fa,fb,fa',fb',zFx wf,zGy wf,zBw wf,zFy wf,zAy wf,zAx,tEvD16,zIx,zIy,zIz,zHv,zFv,zAv wf];first|(refine zCx (Q:=Q_) (fun hp_=>?_) (fun hp_=>?_) <;> first|(exfalso;omega)|(refine hQ_ _ _ ?_;clear hQ_ Q_))|(refine zBx (Q:=Q_) (fun hp_=>?_) (fun hp_=>?_) <;> first|(exfalso;omega)|(refine hQ_ _ _ ?_;clear hQ_ Q_))|(refine hQ_ _ _ ?_;clear hQ_ Q_)))
  | (refine zHx fun K_ hK_=>?_;simp (disch:=omega) only [zGz,zAz,zHw,↓reduceIte,reduceCtorEq,Nat.reduceEqDiff,Nat.reduceLT];refine hK_ _ ?_;clear hK_ K_)))
  refine zLv [.no,.no,.no,.no,.no,.no,.full,.full,.no,.no,.no,.no,.no,.no,.no,.no,.no,.no,.full,.full,.full] (by kernel_rfl) ?_
  (repeat' (first
  | (with_reducible first|refine zJw ?_|refine zHz ?_|refine zEv ?_|refine zEw ?_|refine zFz ?_|refine zJv ?_|refine zHy ?_|refine zBv ?_|refine zDx ?_|refine zCz ?_|refine zCw ?_|refine zEy ?_|refine zCv ?_|refine zCy ?_|refine zBy ?_|refine zDv ?_|refine zEz ?_|refine zAw ?_|refine zBz ?_)
  | refine zDz ?_|refine zEx rfl ?_|refine zJy ?_|refine zJx ?_
  | ((first|refine zGv rfl rfl rfl rfl rfl fun K_ hK_=>?_|refine zGw rfl rfl rfl rfl rfl fun K_ hK_=>?_);simp only [zAz,zDy,zGx,↓reduceIte,reduceCtorEq,Nat.reduceEqDiff,Bool.not_true,Bool.not_false];refine hK_ _ ?_;clear hK_ K_)
  | refine zDw (by decide) ?_
  | ((try first|refine zKy rfl rfl rfl ?_|refine zJz rfl rfl ?_|refine zKx rfl rfl rfl ?_|refine zIv rfl rfl ?_);(refine zIw fun Q_ hQ_=>?_;simp (disch:=first|omega|(simp only [List.length_cons,List.length_nil,List.length_append];omega)) only [bb,bp,zLy,↓reduceIte,reduceCtorEq,Nat.reduceEqDiff,Nat.reduceLT,Nat.reduceLeDiff,Nat.reduceAdd,Nat.reduceMul,Nat.reduceSub,Nat.reduceBEq,Int.reduceToNat,cond_true,cond_false,eq_self,beq_self_eq_true,ha,fa,fb,fa',fb',hxa',hla,hxb,hlb,zFx wf,zGy wf,zBw wf,zFy wf,zAy wf,zAx,tEvD16,zIx,zIy,zIz,zHv,zFv,zAv wf];first|(refine zCx (Q:=Q_) (fun hp_=>?_) (fun hp_=>?_) <;> first|(exfalso;omega)|(refine hQ_ _ _ ?_;clear hQ_ Q_))|(refine zBx (Q:=Q_) (fun hp_=>?_) (fun hp_=>?_) <;> first|(exfalso;omega)|(refine hQ_ _ _ ?_;clear hQ_ Q_))|(refine hQ_ _ _ ?_;clear hQ_ Q_)))
  | (refine zHx fun K_ hK_=>?_;simp (disch:=omega) only [zGz,zAz,zHw,↓reduceIte,reduceCtorEq,Nat.reduceEqDiff,Nat.reduceLT];refine hK_ _ ?_;clear hK_ K_)))
  all_goals (refine zKz _ _ rfl (ret1 (by decide)) ?_;simp only [zAz,↓reduceIte,reduceCtorEq,Nat.reduceEqDiff];refine zKw rfl (by omega) ?_)
  all_goals exact ⟨by congr 1;first|(rw [decide_eq_true];omega)|(rw [decide_eq_false];omega),rfl⟩

theorem Reckoned (T:Te) (k:okT T) (s:AV) (ls:List Ln) (hk:okLs ls) (h:H) (x:LinesR h s ls):(om Try.prog KK).call (.fn 57 [.agg [ii T.sp,ii T.lo,ii T.we,ii T.al,ii T.f0,ii T.f1,ii T.t0,ii T.t1,ii T.s0,ii T.s1,ii T.o0,ii T.o1,ii T.b0,ii T.b1,ii T.r0,ii T.r1],s]) h = .ok (.bool (decide (rk T ls))) h:=by
  have wf:=x.wf
  obtain ⟨fs,fs'⟩:=x.flat
  have hl : ∀ h',lenE Try.prog 43 s h'=some (ii (ls.length:Int)):=fun h'=>x.sl.len un_43
  have hle:=mo_le k
  have hn4:=hk.n
  have er:(om Try.prog KK).call (.fn 20 [.agg [ii T.sp,ii T.lo,ii T.we,ii T.al,ii T.f0,ii T.f1,ii T.t0,ii T.t1,ii T.s0,ii T.s1,ii T.o0,ii T.o1,ii T.b0,ii T.b1,ii T.r0,ii T.r1]]) (X h [.cells (zFw [ii T.sp,ii T.lo,ii T.we,ii T.al,ii T.f0,ii T.f1,ii T.t0,ii T.t1,ii T.s0,ii T.s1,ii T.o0,ii T.o1,ii T.b0,ii T.b1,ii T.r0,ii T.r1]) 35] h.clock) = .ok (.tup [.agg [ii (mo T T.t1),ii (mo T T.t0)],.agg [ii (sh T T.s1),ii (sh T T.s0)],ii 0]) (X h [.cells (zFw [ii T.sp,ii T.lo,ii T.we,ii T.al,ii T.f0,ii T.f1,ii T.t0,ii T.t1,ii T.s0,ii T.s1,ii T.o0,ii T.o1,ii T.b0,ii T.b1,ii T.r0,ii T.r1]) 35] h.clock):=by
    rw [refReynolds T _ (wf.X (Nat.le_add_right _ _)),zWx k,show reyA T=_ from if_pos k,show reyB T=_ from if_pos k]
  refine zWy (zLx (fn:=Try.f57) Try.func57 rfl rfl rfl rfl rfl ?_)
  simp only [zLy]
  (repeat' (first
  | (with_reducible first|refine zJw ?_|refine zHz ?_|refine zEv ?_|refine zEw ?_|refine zFz ?_|refine zJv ?_|refine zHy ?_|refine zBv ?_|refine zDx ?_|refine zCz ?_|refine zCw ?_|refine zEy ?_|refine zCv ?_|refine zCy ?_|refine zBy ?_|refine zDv ?_|refine zEz ?_|refine zAw ?_|refine zBz ?_)
  | refine zDz ?_|refine zEx rfl ?_|refine zJy ?_|refine zJx ?_
  | ((first|refine zGv rfl rfl rfl rfl rfl fun K_ hK_=>?_|refine zGw rfl rfl rfl rfl rfl fun K_ hK_=>?_);simp only [zAz,zDy,zGx,↓reduceIte,reduceCtorEq,Nat.reduceEqDiff,Bool.not_true,Bool.not_false];refine hK_ _ ?_;clear hK_ K_)
  | refine zDw (by decide) ?_
  | ((try first|refine zKy rfl rfl rfl ?_|refine zJz rfl rfl ?_|refine zKx rfl rfl rfl ?_|refine zIv rfl rfl ?_);(refine zIw fun Q_ hQ_=>?_;simp (disch:=first|omega|(simp only [List.length_cons,List.length_nil,List.length_append];omega)) only [bb,bp,zLy,↓reduceIte,reduceCtorEq,Nat.reduceEqDiff,Nat.reduceLT,Nat.reduceLeDiff,Nat.reduceAdd,Nat.reduceMul,Nat.reduceSub,Nat.reduceBEq,Int.reduceToNat,cond_true,cond_false,eq_self,beq_self_eq_true,zFx wf,zGy wf,zBw wf,zFy wf,zAy wf,zAx,tEvD16,zIx,zIy,zIz,zHv,zFv,zAv wf];first|(refine zCx (Q:=Q_) (fun hp_=>?_) (fun hp_=>?_) <;> first|(exfalso;omega)|(refine hQ_ _ _ ?_;clear hQ_ Q_))|(refine zBx (Q:=Q_) (fun hp_=>?_) (fun hp_=>?_) <;> first|(exfalso;omega)|(refine hQ_ _ _ ?_;clear hQ_ Q_))|(refine hQ_ _ _ ?_;clear hQ_ Q_)|(refine zRv (er) ?_;refine hQ_ _ _ ?_;clear hQ_ Q_)))
  | (refine zHx fun K_ hK_=>?_;simp (disch:=omega) only [zGz,zAz,zHw,↓reduceIte,reduceCtorEq,Nat.reduceEqDiff,Nat.reduceLT];refine hK_ _ ?_;clear hK_ K_)))
  refine zVw (fun (i:Nat) f d h'=>i≤ls.length∧(∀ j (hj:j<ls.length),j<i→inAll T ls[j].re)∧f 1=s∧f 5 = .ptr (nx h 1) 0∧f 6 = .ptr (nx h 2) 0∧f 8=ii (i:Int)∧d=[] ∧
      h'=X h [.cells (zFw [ii T.sp,ii T.lo,ii T.we,ii T.al,ii T.f0,ii T.f1,ii T.t0,ii T.t1,ii T.s0,ii T.s1,ii T.o0,ii T.o1,ii T.b0,ii T.b1,ii T.r0,ii T.r1]) 35,.cells (zFw [ii (mo T T.t1),ii (mo T T.t0)]) 33,.cells (zFw [ii (sh T T.s1),ii (sh T T.s0)]) 33] h.clock) (fun i=>ls.length - i) ?_ (ls.length+1) 0 (by omega) ?_
  · rintro i f d h' ⟨hi,hall,g1,g5,g6,g8,rfl,rfl⟩
    by_cases hlt:i<ls.length
    · obtain ⟨id,off,hix,hld,hln⟩:=x.at ik_43 hlt
      obtain ⟨⟨fa,fa'⟩,⟨fb,fb'⟩⟩:=hln.flats
      have kl:=hk.ok _ (List.getElem_mem hlt)
      have c1 : ∀ u v l w,w≤h.clock+l.length→(om Try.prog KK).call (.fn 73 [.agg [ls[i].a,ls[i].b],.agg [ii u,ii v]]) (X h l w) = .ok (.bool (decide (ls[i].re.getD 0 0≤u∧v≤ls[i].re.getD (ls[i].re.length - 1) 0))) (X h l w):=fun u v l w hw=>inside _ _ _ _ u v _ (hln.up _ _ hw) kl.n
      have hid:inAll T ls[i].re ↔ ((ls[i].re.getD 0 0≤mo T T.t1∧mo T T.t0≤ls[i].re.getD (ls[i].re.length - 1) 0)∧(ls[i].re.getD 0 0≤sh T T.s1∧sh T T.s0≤ls[i].re.getD (ls[i].re.length - 1) 0)):=by
        unfold inAll has;omega
      (repeat' (first
  | (with_reducible first|refine zJw ?_|refine zHz ?_|refine zEv ?_|refine zEw ?_|refine zFz ?_|refine zJv ?_|refine zHy ?_|refine zBv ?_|refine zDx ?_|refine zCz ?_|refine zCw ?_|refine zEy ?_|refine zCv ?_|refine zCy ?_|refine zBy ?_|refine zDv ?_|refine zEz ?_|refine zAw ?_|refine zBz ?_)
  | refine zDz ?_|refine zEx rfl ?_|refine zJy ?_|refine zJx ?_
  | ((first|refine zGv rfl rfl rfl rfl rfl fun K_ hK_=>?_|refine zGw rfl rfl rfl rfl rfl fun K_ hK_=>?_);simp only [zAz,zDy,zGx,↓reduceIte,reduceCtorEq,Nat.reduceEqDiff,Bool.not_true,Bool.not_false];refine hK_ _ ?_;clear hK_ K_)
  | refine zDw (by decide) ?_
  | ((try first|refine zKy rfl rfl rfl ?_|refine zJz rfl rfl ?_|refine zKx rfl rfl rfl ?_|refine zIv rfl rfl ?_);(refine zIw fun Q_ hQ_=>?_;simp (disch:=first|omega|(simp only [List.length_cons,List.length_nil,List.length_append];omega)) only [bb,bp,zLy,↓reduceIte,reduceCtorEq,Nat.reduceEqDiff,Nat.reduceLT,Nat.reduceLeDiff,Nat.reduceAdd,Nat.reduceMul,Nat.reduceSub,Nat.reduceBEq,Int.reduceToNat,cond_true,cond_false,eq_self,beq_self_eq_true,g1,g5,g6,g8,hl,zFx wf,zGy wf,zBw wf,zFy wf,zAy wf,zAx,tEvD16,zIx,zIy,zIz,zHv,zFv,zAv wf];first|(refine zCx (Q:=Q_) (fun hp_=>?_) (fun hp_=>?_) <;> first|(exfalso;omega)|(refine hQ_ _ _ ?_;clear hQ_ Q_))|(refine zBx (Q:=Q_) (fun hp_=>?_) (fun hp_=>?_) <;> first|(exfalso;omega)|(refine hQ_ _ _ ?_;clear hQ_ Q_))|(refine hQ_ _ _ ?_;clear hQ_ Q_)))
  | (refine zHx fun K_ hK_=>?_;simp (disch:=omega) only [zGz,zAz,zHw,↓reduceIte,reduceCtorEq,Nat.reduceEqDiff,Nat.reduceLT];refine hK_ _ ?_;clear hK_ K_)))
      refine zLv [.no,.no,.no,.no,.no,.full,.full,.full,.no,.no,.no,.no,.no,.full,.full,.full] (by kernel_rfl) ?_
      (repeat' (first
  | (with_reducible first|refine zJw ?_|refine zHz ?_|refine zEv ?_|refine zEw ?_|refine zFz ?_|refine zJv ?_|refine zHy ?_|refine zBv ?_|refine zDx ?_|refine zCz ?_|refine zCw ?_|refine zEy ?_|refine zCv ?_|refine zCy ?_|refine zBy ?_|refine zDv ?_|refine zEz ?_|refine zAw ?_|refine zBz ?_)
  | refine zDz ?_|refine zEx rfl ?_|refine zJy ?_|refine zJx ?_
  | ((first|refine zGv rfl rfl rfl rfl rfl fun K_ hK_=>?_|refine zGw rfl rfl rfl rfl rfl fun K_ hK_=>?_);simp only [zAz,zDy,zGx,↓reduceIte,reduceCtorEq,Nat.reduceEqDiff,Bool.not_true,Bool.not_false];refine hK_ _ ?_;clear hK_ K_)
  | refine zDw (by decide) ?_
  | ((try first|refine zKy rfl rfl rfl ?_|refine zJz rfl rfl ?_|refine zKx rfl rfl rfl ?_|refine zIv rfl rfl ?_);(refine zIw fun Q_ hQ_=>?_;simp (disch:=first|omega|(simp only [List.length_cons,List.length_nil,List.length_append];omega)) only [bb,bp,zLy,↓reduceIte,reduceCtorEq,Nat.reduceEqDiff,Nat.reduceLT,Nat.reduceLeDiff,Nat.reduceAdd,Nat.reduceMul,Nat.reduceSub,Nat.reduceBEq,Int.reduceToNat,cond_true,cond_false,eq_self,beq_self_eq_true,g1,g5,g6,g8,hix,hld,fa,fb,fa',fb',c1,zFx wf,zGy wf,zBw wf,zFy wf,zAy wf,zAx,tEvD16,zIx,zIy,zIz,zHv,zFv,zAv wf];first|(refine zCx (Q:=Q_) (fun hp_=>?_) (fun hp_=>?_) <;> first|(exfalso;omega)|(refine hQ_ _ _ ?_;clear hQ_ Q_))|(refine zBx (Q:=Q_) (fun hp_=>?_) (fun hp_=>?_) <;> first|(exfalso;omega)|(refine hQ_ _ _ ?_;clear hQ_ Q_))|(refine hQ_ _ _ ?_;clear hQ_ Q_)))
  | (refine zHx fun K_ hK_=>?_;simp (disch:=omega) only [zGz,zAz,zHw,↓reduceIte,reduceCtorEq,Nat.reduceEqDiff,Nat.reduceLT];refine hK_ _ ?_;clear hK_ K_)))
      all_goals first
        | (refine zLz (i+1) (by omega) ⟨hlt,fun j hj hji=>?_,by simp only [zAz,↓reduceIte,reduceCtorEq,Nat.reduceEqDiff];exact g1,by simp only [zAz,↓reduceIte,reduceCtorEq,Nat.reduceEqDiff];exact g5,by simp only [zAz,↓reduceIte,reduceCtorEq,Nat.reduceEqDiff];exact g6,by simp only [zAz,↓reduceIte,reduceCtorEq,Nat.reduceEqDiff];rfl,rfl,rfl⟩
           by_cases hje:j=i
           · subst hje;exact hid.2 ⟨by assumption,by assumption⟩
           · exact hall j hj (by omega))
        | ((refine zKz _ _ rfl (ret1 (by decide)) ?_;simp only [zAz,↓reduceIte,reduceCtorEq,Nat.reduceEqDiff];refine zKw rfl (by omega) ?_)
           exact ⟨by rw [decide_eq_false];intro q;have:=hid.1 (q _ (List.getElem_mem hlt));omega,rfl⟩)
    · have hie:i=ls.length:=by omega
      have hr:rk T ls:=fun l hl2=>by
        obtain ⟨j,hj,rfl⟩:=List.getElem_of_mem hl2
        exact hall j hj (by omega)
      (repeat' (first
  | (with_reducible first|refine zJw ?_|refine zHz ?_|refine zEv ?_|refine zEw ?_|refine zFz ?_|refine zJv ?_|refine zHy ?_|refine zBv ?_|refine zDx ?_|refine zCz ?_|refine zCw ?_|refine zEy ?_|refine zCv ?_|refine zCy ?_|refine zBy ?_|refine zDv ?_|refine zEz ?_|refine zAw ?_|refine zBz ?_)
  | refine zDz ?_|refine zEx rfl ?_|refine zJy ?_|refine zJx ?_
  | ((first|refine zGv rfl rfl rfl rfl rfl fun K_ hK_=>?_|refine zGw rfl rfl rfl rfl rfl fun K_ hK_=>?_);simp only [zAz,zDy,zGx,↓reduceIte,reduceCtorEq,Nat.reduceEqDiff,Bool.not_true,Bool.not_false];refine hK_ _ ?_;clear hK_ K_)
  | refine zDw (by decide) ?_
  | ((try first|refine zKy rfl rfl rfl ?_|refine zJz rfl rfl ?_|refine zKx rfl rfl rfl ?_|refine zIv rfl rfl ?_);(refine zIw fun Q_ hQ_=>?_;simp (disch:=first|omega|(simp only [List.length_cons,List.length_nil,List.length_append];omega)) only [bb,bp,zLy,↓reduceIte,reduceCtorEq,Nat.reduceEqDiff,Nat.reduceLT,Nat.reduceLeDiff,Nat.reduceAdd,Nat.reduceMul,Nat.reduceSub,Nat.reduceBEq,Int.reduceToNat,cond_true,cond_false,eq_self,beq_self_eq_true,g1,g5,g6,g8,hl,zFx wf,zGy wf,zBw wf,zFy wf,zAy wf,zAx,tEvD16,zIx,zIy,zIz,zHv,zFv,zAv wf];first|(refine zCx (Q:=Q_) (fun hp_=>?_) (fun hp_=>?_) <;> first|(exfalso;omega)|(refine hQ_ _ _ ?_;clear hQ_ Q_))|(refine zBx (Q:=Q_) (fun hp_=>?_) (fun hp_=>?_) <;> first|(exfalso;omega)|(refine hQ_ _ _ ?_;clear hQ_ Q_))|(refine hQ_ _ _ ?_;clear hQ_ Q_)))
  | (refine zHx fun K_ hK_=>?_;simp (disch:=omega) only [zGz,zAz,zHw,↓reduceIte,reduceCtorEq,Nat.reduceEqDiff,Nat.reduceLT];refine hK_ _ ?_;clear hK_ K_)))
      (refine zKz _ _ rfl (ret1 (by decide)) ?_;simp only [zAz,↓reduceIte,reduceCtorEq,Nat.reduceEqDiff];refine zKw rfl (by omega) ?_)
      exact ⟨by rw [decide_eq_true hr],rfl⟩
  · exact ⟨Nat.zero_le _,fun j _ hj=>absurd hj (Nat.not_lt_zero j),by simp only [zAz,↓reduceIte,reduceCtorEq,Nat.reduceEqDiff],by simp only [zAz,↓reduceIte,reduceCtorEq,Nat.reduceEqDiff],by simp only [zAz,↓reduceIte,reduceCtorEq,Nat.reduceEqDiff],by simp only [zAz,↓reduceIte,reduceCtorEq,Nat.reduceEqDiff];rfl,rfl,rfl⟩
end Go.Proofs.Ythaleckfgcgegaa
end

section
namespace Go.Ev
section
variable {P:Program}
theorem xQy {t e i n:Nat} {cs:List AV} {v:AV} (hu:P.underlying t=some (.array n e)) (hz:sizeE P e=some 1) (ha:isAggB P e=some false) (hi:i<n) (hv:cs[i]? = some v):indexE P t (.agg cs) (.int .i64 (i:Int))=some v:=by
  unfold indexE
  rw [xAx]
  dsimp only
  rw [hu]
  dsimp only
  rw [hz]
  dsimp only
  rw [Nat.ble_eq_true_of_le (show Nat.succ i≤n from hi)]
  show partE P e cs (i * 1)=_
  unfold partE
  rw [ha,Nat.mul_one]
  exact hv
end
end Go.Ev
end

section
namespace Go.Ev
variable {P:Program}
def CapL (a:AV):Prop:=∀ id off l c esz,a = .sl id off l (some c) esz→l≤c
theorem capl_none {id:Pos} {off len esz:Nat} : CapL (.sl id off len none esz):=fun _ _ _ _ _ e=>by simp at e
theorem capl_some {id:Pos} {off len cap esz:Nat} (h:len≤cap):CapL (.sl id off len (some cap) esz):=fun _ _ _ _ _ e=>by
  injection e with e1 e2 e3 e4 e5
  injection e4 with e4
  omega
def CapU (m:Nat) (a:AV):Prop:=CapL a∧Cape m a
theorem Capd.capu {a:AV} (h:Capd a) (m:Nat):CapU m a:=⟨h.2,h.cape m⟩
theorem capu_none {id:Pos} {off len m:Nat} : CapU m (.sl id off len none m):=⟨capl_none,fun _ _ _ _ e=>by injection e with _ _ _ _ e;exact e.symm⟩
theorem capu_some {id:Pos} {off len cap esz m:Nat} (h:len≤cap):CapU m (.sl id off len (some cap) esz):=⟨capl_some h,fun _ _ _ _ e=>by simp at e⟩
end Go.Ev
end

section
namespace Go.Ev
variable {P:Program}
theorem Sl.cut {h:H} {a:AV} {m len:Nat} {cells:List AV} (s:Sl h a m len cells) {lo hi:Option Nat} {l hh:Nat} (hlh:l≤hh) (hhl:hh≤len) (hlo:lo.getD 0=l) (hhi:hi.getD len=hh) {t e:TypeId} (hu:P.underlying t=some (.slice e)) (hz:sizeE P e=some m) (hm:0<m) (hc:CapU m a) :
    ∃ b,sliceE P t (reszT P t a) lo hi none=some b∧Sl h b m (hh - l) ((cells.drop (l * m)).take ((hh - l) * m))∧CapU m b:=by
  have hml:hh * m≤len * m:=Nat.mul_le_mul_right _ hhl
  have hmk:l * m≤hh * m:=Nat.mul_le_mul_right _ hlh
  obtain ⟨hl,⟨rfl,rfl⟩|⟨id,off,cap,esz,o,cs,rfl,hg,hcs,hx⟩⟩:=s
  · have e1:hh=0:=by omega
    have e2:l=0:=by omega
    subst e1 e2
    have hr:reszT P t .nils = .nils:=by unfold reszT;rw [hu];dsimp only;rw [hz];rfl
    have hb:boundsE 0 (some 0) lo hi none=some (0,0,some 0):=by
      unfold boundsE
      show (bif Nat.ble (hi.getD 0) 0 && Nat.ble (lo.getD 0) (hi.getD 0) then some (lo.getD 0,hi.getD 0,some 0) else none)=_
      rw [hhi,hlo];rfl
    refine ⟨.nils,?_,?_,?_⟩
    · rw [hr]
      unfold sliceE;rw [hu];dsimp only;rw [hz,hb]
    · refine ⟨?_,.inl ⟨rfl,rfl⟩⟩
      simp
    · exact Capd.capu xRy m
  · have hk : ∀ j,j<(hh - l) * m→cs (off+l * m+j)=((cells.drop (l * m)).take ((hh - l) * m))[j]?:=fun j hj=>by
      rw [List.getElem?_take_of_lt hj,List.getElem?_drop]
      have hj':l * m+j<len * m:=by rw [Nat.sub_mul] at hj;omega
      have:=hx (l * m+j) hj'
      rw [← this,Nat.add_assoc]
    have hln:((cells.drop (l * m)).take ((hh - l) * m)).length=(hh - l) * m:=by
      rw [List.length_take,List.length_drop,hl,Nat.sub_mul];omega
    cases cap with
    | none=>
      have he:esz=m:=hc.2 _ _ _ _ rfl
      subst he
      have hr:reszT P t (.sl id off len none esz) = .sl id off len none esz:=by unfold reszT;rw [hu];dsimp only;rw [hz];rfl
      have hb:boundsE len none lo hi none=some (l,hh,none):=by
        unfold boundsE
        show (bif Nat.ble (hi.getD len) len && Nat.ble (lo.getD 0) (hi.getD len) then some (lo.getD 0,hi.getD len,(none:Option Nat)) else none)=_
        rw [hhi,hlo,Nat.ble_eq_true_of_le hhl,Nat.ble_eq_true_of_le hlh];rfl
      have hof:sliceOf id off esz (some (l,hh,none))=some (.sl id (off+l * esz) (hh - l) none esz):=by
        cases l with
        | zero=>show some (AV.sl id off hh none esz)=_;rw [Nat.zero_mul,Nat.add_zero,Nat.sub_zero]
        | succ l=>
          show (bif Nat.beq (off+(l+1) * esz) 0 then none else some (AV.sl id (off+(l+1) * esz) (hh - (l+1)) none esz))=_
          have:off+(l+1) * esz≠0:=by have:=Nat.mul_pos (Nat.succ_pos l) hm;rw [Nat.succ_eq_add_one] at this;omega
          rw [show Nat.beq (off+(l+1) * esz) 0=false from by cases hb:Nat.beq (off+(l+1) * esz) 0 with|false=>rfl|true=>exact absurd (Nat.eq_of_beq_eq_true hb) this];rfl
      refine ⟨.sl id (off+l * esz) (hh - l) none esz,?_,⟨hln,.inr ⟨_,_,_,_,o,cs,rfl,hg,hcs,hk⟩⟩,capu_none⟩
      rw [hr]
      unfold sliceE;rw [hu];dsimp only;rw [hz];dsimp only
      rw [show Nat.beq esz esz=true from Nat.beq_refl esz,hb];exact hof
    | some c=>
      have hlc:=hc.1 id off len c esz rfl
      have hr:reszT P t (.sl id off len (some c) esz) = .sl id off len (some c) m:=by unfold reszT;rw [hu];dsimp only;rw [hz];rfl
      have hb:boundsE len (some c) lo hi none=some (l,hh,some c):=by
        unfold boundsE
        show (bif Nat.ble (hi.getD len) c && Nat.ble (lo.getD 0) (hi.getD len) then some (lo.getD 0,hi.getD len,some c) else none)=_
        rw [hhi,hlo,Nat.ble_eq_true_of_le (show hh≤c by omega),Nat.ble_eq_true_of_le hlh];rfl
      refine ⟨.sl id (bif Nat.beq c l then off else off+l * m) (hh - l) (some (c - l)) m,?_,⟨hln,.inr ⟨_,_,_,_,o,cs,rfl,hg,hcs,fun j hj=>?_⟩⟩,capu_some (by omega)⟩
      · rw [hr]
        unfold sliceE;rw [hu];dsimp only;rw [hz];dsimp only
        rw [show Nat.beq m m=true from Nat.beq_refl m,hb];rfl
      · rw [← hk j hj]
        cases hbq:Nat.beq c l with
        | true=>
          have:=Nat.eq_of_beq_eq_true hbq
          subst this
          have e:hh - c=0:=by omega
          rw [e,Nat.zero_mul] at hj
          omega
        | false=>rfl
theorem Sl.cutFrom {h:H} {a:AV} {m len:Nat} {cells:List AV} (s:Sl h a m len cells) {k:Nat} (hk:k≤len) {t e:TypeId} (hu:P.underlying t=some (.slice e)) (hz:sizeE P e=some m) (hm:0<m) (hc:CapU m a) :
    ∃ b,sliceE P t (reszT P t a) (some k) none none=some b∧Sl h b m (len - k) (cells.drop (k * m))∧CapU m b:=by
  have:=s.cut (P:=P) (lo:=some k) (hi:=none) hk (Nat.le_refl len) rfl rfl hu hz hm hc
  have e:(cells.drop (k * m)).take ((len - k) * m)=cells.drop (k * m):=List.take_of_length_le (by rw [List.length_drop,s.1,Nat.sub_mul];exact Nat.le_refl _)
  rwa [e] at this
end Go.Ev
end
