import Derived.Test.YthaleckfgcgegaaAttM4
set_option linter.all false
section
namespace Go.Proofs.Ythaleckfgcgegaa
open Go.Ev
set_option maxRecDepth 100000
set_option linter.unusedSimpArgs false
set_option linter.unusedVariables false
set_option maxHeartbeats 2000000
theorem tEvD15 :type_of% (And.intro (And.intro (And.intro (And.intro (And.intro (And.intro (And.intro (@yXx) (@yXy)) (And.intro (@yXz) (And.intro (@yWv) (@yWw)))) (And.intro (And.intro (@yWx) (And.intro (@yWy) (@yWz))) (And.intro (@zWz) (And.intro (@ia_2) (@sz_2))))) (And.intro (And.intro (And.intro (@ia_3) (@sz_3)) (And.intro (@ia_4) (And.intro (@sz_4) (@yVv)))) (And.intro (And.intro (@yFz) (And.intro (@yVw) (@yEv))) (And.intro (@yVx) (And.intro (@yEw) (@yVy)))))) (And.intro (And.intro (And.intro (And.intro (@yEx) (@yVz)) (And.intro (@yEy) (And.intro (@yUv) (@yEz)))) (And.intro (And.intro (@yUw) (And.intro (@yDv) (@yUx))) (And.intro (@yDw) (And.intro (@yUy) (@yDx))))) (And.intro (And.intro (And.intro (@yUz) (@yDy)) (And.intro (@yTv) (And.intro (@zYy) (@yTw)))) (And.intro (And.intro (@yDz) (And.intro (@yTx) (@yCv))) (And.intro (@yTy) (And.intro (@yCw) (@yTz))))))) (And.intro (And.intro (And.intro (And.intro (And.intro (@yCx) (@ySv)) (And.intro (@yCy) (And.intro (@ySw) (@yCz)))) (And.intro (And.intro (@ySx) (And.intro (@yBv) (@ySy))) (And.intro (@yBw) (And.intro (@ySz) (@yBx))))) (And.intro (And.intro (And.intro (@yRv) (@yBy)) (And.intro (@zVv) (And.intro (@zUx) (@zVw)))) (And.intro (And.intro (@zUy) (And.intro (@zVx) (@zUz))) (And.intro (@zVy) (And.intro (@zTv) (@zVz)))))) (And.intro (And.intro (And.intro (And.intro (@zTw) (@zUv)) (And.intro (@zTx) (And.intro (@zUw) (@zTy)))) (And.intro (And.intro (@ze_2) (And.intro (@ze_3) (@ze_4))) (And.intro (@yBz) (And.intro (@yAv) (@yAw))))) (And.intro (And.intro (And.intro (@yAx) (And.intro (@yAy) (@yAz))) (And.intro (@zZv) (And.intro (@zZw) (@zZx)))) (And.intro (And.intro (@zTz) (And.intro (@zSz) (@zRv))) (And.intro (@zRw) (And.intro (@zRx) (@zRy)))))))) (And.intro (And.intro (And.intro (And.intro (And.intro (And.intro (@zRz) (@zQv)) (And.intro (@zQw) (And.intro (@zQx) (@zQy)))) (And.intro (And.intro (@zQz) (And.intro (@zPv) (@zPw))) (And.intro (@zPx) (And.intro (@zPy) (@zPz))))) (And.intro (And.intro (And.intro (@zOv) (@zOw)) (And.intro (@zOx) (And.intro (@zOy) (@zOz)))) (And.intro (And.intro (@zNv) (And.intro (@zNw) (@zNx))) (And.intro (@zNy) (And.intro (@zNz) (@zMv)))))) (And.intro (And.intro (And.intro (And.intro (@zMw) (@yRw)) (And.intro (@yRx) (And.intro (@yRy) (@yRz)))) (And.intro (And.intro (@yQv) (And.intro (@yQw) (@yQx))) (And.intro (@yQy) (And.intro (@yQz) (@yPv))))) (And.intro (And.intro (And.intro (@yPw) (And.intro (@yPx) (@yPy))) (And.intro (@yPz) (And.intro (@yOv) (@yOw)))) (And.intro (And.intro (@yOx) (And.intro (@yOy) (@yOz))) (And.intro (@yNv) (And.intro (@yNw) (@yNx))))))) (And.intro (And.intro (And.intro (And.intro (And.intro (@yNy) (@yNz)) (And.intro (@yMv) (And.intro (@yMw) (@yMx)))) (And.intro (And.intro (@yMy) (And.intro (@yMz) (@yLv))) (And.intro (@yLw) (And.intro (@yLx) (@yLy))))) (And.intro (And.intro (And.intro (@yLz) (@yKv)) (And.intro (@yKw) (And.intro (@yKx) (@yKy)))) (And.intro (And.intro (@yKz) (And.intro (@yJv) (@yJw))) (And.intro (@yJx) (And.intro (@yJy) (@yJz)))))) (And.intro (And.intro (And.intro (And.intro (@yIv) (@yIw)) (And.intro (@yIx) (And.intro (@yIy) (@yIz)))) (And.intro (And.intro (@yHv) (And.intro (@zZy) (@zZz))) (And.intro (@yHw) (And.intro (@yHx) (@yHy))))) (And.intro (And.intro (And.intro (@yHz) (And.intro (@yGv) (@yGw))) (And.intro (@yGx) (And.intro (@yGy) (@yGz)))) (And.intro (And.intro (@yFv) (And.intro (@yFw) (@zYv))) (And.intro (@yFx) (And.intro (@yFy) (@zYw))))))))):=And.intro (And.intro (And.intro (And.intro (And.intro (And.intro (And.intro (@yXx) (@yXy)) (And.intro (@yXz) (And.intro (@yWv) (@yWw)))) (And.intro (And.intro (@yWx) (And.intro (@yWy) (@yWz))) (And.intro (@zWz) (And.intro (@ia_2) (@sz_2))))) (And.intro (And.intro (And.intro (@ia_3) (@sz_3)) (And.intro (@ia_4) (And.intro (@sz_4) (@yVv)))) (And.intro (And.intro (@yFz) (And.intro (@yVw) (@yEv))) (And.intro (@yVx) (And.intro (@yEw) (@yVy)))))) (And.intro (And.intro (And.intro (And.intro (@yEx) (@yVz)) (And.intro (@yEy) (And.intro (@yUv) (@yEz)))) (And.intro (And.intro (@yUw) (And.intro (@yDv) (@yUx))) (And.intro (@yDw) (And.intro (@yUy) (@yDx))))) (And.intro (And.intro (And.intro (@yUz) (@yDy)) (And.intro (@yTv) (And.intro (@zYy) (@yTw)))) (And.intro (And.intro (@yDz) (And.intro (@yTx) (@yCv))) (And.intro (@yTy) (And.intro (@yCw) (@yTz))))))) (And.intro (And.intro (And.intro (And.intro (And.intro (@yCx) (@ySv)) (And.intro (@yCy) (And.intro (@ySw) (@yCz)))) (And.intro (And.intro (@ySx) (And.intro (@yBv) (@ySy))) (And.intro (@yBw) (And.intro (@ySz) (@yBx))))) (And.intro (And.intro (And.intro (@yRv) (@yBy)) (And.intro (@zVv) (And.intro (@zUx) (@zVw)))) (And.intro (And.intro (@zUy) (And.intro (@zVx) (@zUz))) (And.intro (@zVy) (And.intro (@zTv) (@zVz)))))) (And.intro (And.intro (And.intro (And.intro (@zTw) (@zUv)) (And.intro (@zTx) (And.intro (@zUw) (@zTy)))) (And.intro (And.intro (@ze_2) (And.intro (@ze_3) (@ze_4))) (And.intro (@yBz) (And.intro (@yAv) (@yAw))))) (And.intro (And.intro (And.intro (@yAx) (And.intro (@yAy) (@yAz))) (And.intro (@zZv) (And.intro (@zZw) (@zZx)))) (And.intro (And.intro (@zTz) (And.intro (@zSz) (@zRv))) (And.intro (@zRw) (And.intro (@zRx) (@zRy)))))))) (And.intro (And.intro (And.intro (And.intro (And.intro (And.intro (@zRz) (@zQv)) (And.intro (@zQw) (And.intro (@zQx) (@zQy)))) (And.intro (And.intro (@zQz) (And.intro (@zPv) (@zPw))) (And.intro (@zPx) (And.intro (@zPy) (@zPz))))) (And.intro (And.intro (And.intro (@zOv) (@zOw)) (And.intro (@zOx) (And.intro (@zOy) (@zOz)))) (And.intro (And.intro (@zNv) (And.intro (@zNw) (@zNx))) (And.intro (@zNy) (And.intro (@zNz) (@zMv)))))) (And.intro (And.intro (And.intro (And.intro (@zMw) (@yRw)) (And.intro (@yRx) (And.intro (@yRy) (@yRz)))) (And.intro (And.intro (@yQv) (And.intro (@yQw) (@yQx))) (And.intro (@yQy) (And.intro (@yQz) (@yPv))))) (And.intro (And.intro (And.intro (@yPw) (And.intro (@yPx) (@yPy))) (And.intro (@yPz) (And.intro (@yOv) (@yOw)))) (And.intro (And.intro (@yOx) (And.intro (@yOy) (@yOz))) (And.intro (@yNv) (And.intro (@yNw) (@yNx))))))) (And.intro (And.intro (And.intro (And.intro (And.intro (@yNy) (@yNz)) (And.intro (@yMv) (And.intro (@yMw) (@yMx)))) (And.intro (And.intro (@yMy) (And.intro (@yMz) (@yLv))) (And.intro (@yLw) (And.intro (@yLx) (@yLy))))) (And.intro (And.intro (And.intro (@yLz) (@yKv)) (And.intro (@yKw) (And.intro (@yKx) (@yKy)))) (And.intro (And.intro (@yKz) (And.intro (@yJv) (@yJw))) (And.intro (@yJx) (And.intro (@yJy) (@yJz)))))) (And.intro (And.intro (And.intro (And.intro (@yIv) (@yIw)) (And.intro (@yIx) (And.intro (@yIy) (@yIz)))) (And.intro (And.intro (@yHv) (And.intro (@zZy) (@zZz))) (And.intro (@yHw) (And.intro (@yHx) (@yHy))))) (And.intro (And.intro (And.intro (@yHz) (And.intro (@yGv) (@yGw))) (And.intro (@yGx) (And.intro (@yGy) (@yGz)))) (And.intro (And.intro (@yFv) (And.intro (@yFw) (@zYv))) (And.intro (@yFx) (And.intro (@yFy) (@zYw))))))))
structure Ln where
  (a b:AV) (re cf:List Int)
def lnC (l:Ln):List AV:=[l.a,l.b]
theorem xKz (l:Ln):(lnC l).length=2:=rfl
structure LinesR (h:H) (s:AV) (ls:List Ln):Prop where
  wf:Wf h
  sl:Sl h s 2 ls.length (ls.flatMap lnC)
  ln : ∀ l ∈ ls,LineR h l.a l.b l.re l.cf
theorem LinesR.up {h:H} {s:AV} {ls:List Ln} (x:LinesR h s ls) (l:List AO) (w:Nat) (hw:w≤h.clock+l.length):LinesR (X h l w) s ls:=⟨x.wf.X hw,x.sl.up x.wf l w,fun y hy=>(x.ln y hy).up l w hw⟩
theorem LinesR.at {h:H} {s:AV} {ls:List Ln} (x:LinesR h s ls) {t i:Nat} (hk:idxKind Try.prog t=some (none,2)) (hi:i<ls.length) : ∃ id off,indexAddrE Try.prog t s (.int .i64 (i:Int))=some (.ptr id off)∧(∀ J w,loadAgg id off (some 2) (X h J w)=some (.agg [ls[i].a,ls[i].b]))∧LineR h ls[i].a ls[i].b ls[i].re ls[i].cf:=by
  obtain ⟨id,off,h1,h2⟩:=x.sl.at x.wf hi hk
  refine ⟨id,off,h1,fun J w=>?_,x.ln _ (List.getElem_mem hi)⟩
  rw [(h2 J w).2,flat_at xKz hi];rfl
theorem LinesR.flat {h:H} {s:AV} {ls:List Ln} (x:LinesR h s ls):AV.cells s=[s]∧oneB s=true:=by
  rcases x.sl with ⟨_,⟨e,_⟩|⟨_,_,_,_,_,_,e,_⟩⟩ <;> rw [e] <;> exact ⟨rfl,rfl⟩
def firstErr :List Ln→Int
  | []=>0
  | l :: r=>if lineErr l.re l.cf=0 then firstErr r else lineErr l.re l.cf
theorem xGv : ∀ {ls:List Ln} {i:Nat},(∀ j (hj:j<ls.length),j<i→lineErr ls[j].re ls[j].cf=0)→firstErr ls=firstErr (ls.drop i)
  | [],i,_=>by rw [List.drop_nil]
  | l :: r,0,_=>rfl
  | l :: r,i+1,h=>by
    have h0:=h 0 (by simp) (by omega)
    rw [List.drop_succ_cons,← xGv (ls:=r) (i:=i) fun j hj hji=>h (j+1) (by simpa using hj) (by omega)]
    exact if_pos h0
theorem firstErr_at {ls:List Ln} {i:Nat} (hi:i<ls.length) (h : ∀ j (hj:j<ls.length),j<i→lineErr ls[j].re ls[j].cf=0) (hne : ¬ lineErr ls[i].re ls[i].cf=0):firstErr ls=lineErr ls[i].re ls[i].cf:=by
  rw [xGv h,List.drop_eq_getElem_cons hi]
  exact if_neg hne
theorem xIw {ls:List Ln} (h : ∀ j (hj:j<ls.length),j<ls.length→lineErr ls[j].re ls[j].cf=0):firstErr ls=0:=by
  rw [xGv (i:=ls.length) h,List.drop_length];rfl
theorem xPw : ∀ {ls:List Ln},firstErr ls=0 → ∀ l ∈ ls,okL l.re l.cf
  | l :: r,h,m,hm=>by
    have h':(if lineErr l.re l.cf=0 then firstErr r else lineErr l.re l.cf)=0:=h
    by_cases e:lineErr l.re l.cf=0
    · rw [if_pos e] at h'
      rcases List.mem_cons.1 hm with rfl|hm
      · exact xAw.1 e
      · exact xPw h' m hm
    · rw [if_neg e] at h';exact absurd h' e
def linesErr (ls:List Ln):Int:=if ls.length<1∨4<ls.length then 6 else firstErr ls
structure okLs (ls:List Ln):Prop where
  n:1≤ls.length∧ls.length≤4
  ok : ∀ l ∈ ls,okL l.re l.cf
theorem yXv {ls:List Ln} : linesErr ls=0 ↔ okLs ls:=by
  unfold linesErr
  constructor
  · intro h
    split at h
    · cases h
    · exact ⟨by omega,xPw h⟩
  · rintro ⟨h1,h2⟩
    rw [if_neg (by omega),xIw fun j hj _=>xAw.2 (h2 _ (List.getElem_mem hj))]

theorem checkLines (s:AV) (ls:List Ln) (h:H) (x:LinesR h s ls):(om Try.prog KK).call (.fn 60 [s]) h = .ok (ii (linesErr ls)) h:=by
  have wf:=x.wf
  obtain ⟨fs,fs'⟩:=x.flat
  have hl : ∀ h',lenE Try.prog 43 s h'=some (ii (ls.length:Int)):=fun h'=>x.sl.len un_43
  refine zWv (zLx (fn:=Try.f60) Try.func60 rfl rfl rfl rfl rfl ?_)
  simp only [zLz]
  by_cases hn:ls.length<1∨4<ls.length
  · have e:linesErr ls=6:=if_pos hn
    rw [e]
    (repeat' (first
  | (with_reducible first|refine zJw ?_|refine zHz ?_|refine zFz ?_|refine zEv ?_|refine zFy ?_|refine zJv ?_|refine zHy ?_|refine zCz ?_|refine zDw ?_|refine zCy ?_|refine zCv ?_|refine zEx ?_|refine zDz ?_|refine zCx ?_|refine zBy ?_|refine zEz ?_|refine zEy ?_|refine zAv ?_|refine zBz ?_)
  | refine zDy ?_|refine zEw rfl ?_|refine zJy ?_|refine zJx ?_
  | ((first|refine zGv rfl rfl rfl rfl rfl fun K_ hK_=>?_|refine zGw rfl rfl rfl rfl rfl fun K_ hK_=>?_);simp only [zAz,zDx,zGx,↓reduceIte,reduceCtorEq,Nat.reduceEqDiff,Bool.not_true,Bool.not_false];refine hK_ _ ?_;clear hK_ K_)
  | refine zDv (by decide) ?_
  | ((try first|refine zKy rfl rfl rfl ?_|refine zJz rfl rfl ?_|refine zKx rfl rfl rfl ?_|refine zIw rfl rfl ?_);(refine zIv fun Q_ hQ_=>?_;simp (disch:=first|omega|(simp only [List.length_cons,List.length_nil,List.length_append];omega)) only [bb,bp,zLz,↓reduceIte,reduceCtorEq,Nat.reduceEqDiff,Nat.reduceLT,Nat.reduceLeDiff,Nat.reduceAdd,Nat.reduceMul,Nat.reduceSub,Nat.reduceBEq,Int.reduceToNat,cond_true,cond_false,eq_self,beq_self_eq_true,hl,zFw wf,zGy wf,zBw wf,zFx wf,zAy wf,zAx,tEvD15,zIx,zIy,zIz,zHv,zFv,zAw wf];first|(refine zCw (Q:=Q_) (fun hp_=>?_) (fun hp_=>?_) <;> first|(exfalso;omega)|(refine hQ_ _ _ ?_;clear hQ_ Q_))|(refine zBx (Q:=Q_) (fun hp_=>?_) (fun hp_=>?_) <;> first|(exfalso;omega)|(refine hQ_ _ _ ?_;clear hQ_ Q_))|(refine hQ_ _ _ ?_;clear hQ_ Q_)))
  | (refine zHx fun K_ hK_=>?_;simp (disch:=omega) only [zGz,zAz,zHw,↓reduceIte,reduceCtorEq,Nat.reduceEqDiff,Nat.reduceLT];refine hK_ _ ?_;clear hK_ K_)))
    all_goals (refine zKz _ _ rfl (ret1 (by decide)) ?_;simp only [zAz,↓reduceIte,reduceCtorEq,Nat.reduceEqDiff];refine zKw rfl (by omega) ?_)
    all_goals exact ⟨rfl,rfl⟩
  · have e:linesErr ls=firstErr ls:=if_neg hn
    rw [e]
    (repeat' (first
  | (with_reducible first|refine zJw ?_|refine zHz ?_|refine zFz ?_|refine zEv ?_|refine zFy ?_|refine zJv ?_|refine zHy ?_|refine zCz ?_|refine zDw ?_|refine zCy ?_|refine zCv ?_|refine zEx ?_|refine zDz ?_|refine zCx ?_|refine zBy ?_|refine zEz ?_|refine zEy ?_|refine zAv ?_|refine zBz ?_)
  | refine zDy ?_|refine zEw rfl ?_|refine zJy ?_|refine zJx ?_
  | ((first|refine zGv rfl rfl rfl rfl rfl fun K_ hK_=>?_|refine zGw rfl rfl rfl rfl rfl fun K_ hK_=>?_);simp only [zAz,zDx,zGx,↓reduceIte,reduceCtorEq,Nat.reduceEqDiff,Bool.not_true,Bool.not_false];refine hK_ _ ?_;clear hK_ K_)
  | refine zDv (by decide) ?_
  | ((try first|refine zKy rfl rfl rfl ?_|refine zJz rfl rfl ?_|refine zKx rfl rfl rfl ?_|refine zIw rfl rfl ?_);(refine zIv fun Q_ hQ_=>?_;simp (disch:=first|omega|(simp only [List.length_cons,List.length_nil,List.length_append];omega)) only [bb,bp,zLz,↓reduceIte,reduceCtorEq,Nat.reduceEqDiff,Nat.reduceLT,Nat.reduceLeDiff,Nat.reduceAdd,Nat.reduceMul,Nat.reduceSub,Nat.reduceBEq,Int.reduceToNat,cond_true,cond_false,eq_self,beq_self_eq_true,hl,zFw wf,zGy wf,zBw wf,zFx wf,zAy wf,zAx,tEvD15,zIx,zIy,zIz,zHv,zFv,zAw wf];first|(refine zCw (Q:=Q_) (fun hp_=>?_) (fun hp_=>?_) <;> first|(exfalso;omega)|(refine hQ_ _ _ ?_;clear hQ_ Q_))|(refine zBx (Q:=Q_) (fun hp_=>?_) (fun hp_=>?_) <;> first|(exfalso;omega)|(refine hQ_ _ _ ?_;clear hQ_ Q_))|(refine hQ_ _ _ ?_;clear hQ_ Q_)))
  | (refine zHx fun K_ hK_=>?_;simp (disch:=omega) only [zGz,zAz,zHw,↓reduceIte,reduceCtorEq,Nat.reduceEqDiff,Nat.reduceLT];refine hK_ _ ?_;clear hK_ K_)))
    refine yYv (fun (i:Nat) f d h'=>i≤ls.length∧(∀ j (hj:j<ls.length),j<i→lineErr ls[j].re ls[j].cf=0)∧f 14=s∧f 15=ii (ls.length:Int)∧f 16=ii (i:Int)∧d=[] ∧ ∃ G,h'=X h G h.clock) (fun i=>ls.length - i) ?_ (ls.length+1) 0 (by omega) ?_
    · rintro i f d h' ⟨hi,hall,g14,g15,g16,rfl,G,rfl⟩
      by_cases hlt:i<ls.length
      · obtain ⟨id,off,hix,hld,hln⟩:=x.at ik_43 hlt
        obtain ⟨⟨fa,fa'⟩,⟨fb,fb'⟩⟩:=hln.flats
        by_cases hz:lineErr ls[i].re ls[i].cf=0
        · (repeat' (first
  | (with_reducible first|refine zJw ?_|refine zHz ?_|refine zFz ?_|refine zEv ?_|refine zFy ?_|refine zJv ?_|refine zHy ?_|refine zCz ?_|refine zDw ?_|refine zCy ?_|refine zCv ?_|refine zEx ?_|refine zDz ?_|refine zCx ?_|refine zBy ?_|refine zEz ?_|refine zEy ?_|refine zAv ?_|refine zBz ?_)
  | refine zDy ?_|refine zEw rfl ?_|refine zJy ?_|refine zJx ?_
  | ((first|refine zGv rfl rfl rfl rfl rfl fun K_ hK_=>?_|refine zGw rfl rfl rfl rfl rfl fun K_ hK_=>?_);simp only [zAz,zDx,zGx,↓reduceIte,reduceCtorEq,Nat.reduceEqDiff,Bool.not_true,Bool.not_false];refine hK_ _ ?_;clear hK_ K_)
  | refine zDv (by decide) ?_
  | ((try first|refine zKy rfl rfl rfl ?_|refine zJz rfl rfl ?_|refine zKx rfl rfl rfl ?_|refine zIw rfl rfl ?_);(refine zIv fun Q_ hQ_=>?_;simp (disch:=first|omega|(simp only [List.length_cons,List.length_nil,List.length_append];omega)) only [bb,bp,zLz,↓reduceIte,reduceCtorEq,Nat.reduceEqDiff,Nat.reduceLT,Nat.reduceLeDiff,Nat.reduceAdd,Nat.reduceMul,Nat.reduceSub,Nat.reduceBEq,Int.reduceToNat,cond_true,cond_false,eq_self,beq_self_eq_true,g14,g15,g16,hix,hld,fa,fb,fa',fb',zFw wf,zGy wf,zBw wf,zFx wf,zAy wf,zAx,tEvD15,zIx,zIy,zIz,zHv,zFv,zAw wf];first|(refine zCw (Q:=Q_) (fun hp_=>?_) (fun hp_=>?_) <;> first|(exfalso;omega)|(refine hQ_ _ _ ?_;clear hQ_ Q_))|(refine zBx (Q:=Q_) (fun hp_=>?_) (fun hp_=>?_) <;> first|(exfalso;omega)|(refine hQ_ _ _ ?_;clear hQ_ Q_))|(refine hQ_ _ _ ?_;clear hQ_ Q_)|(refine zLv ((CheckLine _ _ _ _ _ (hln.up _ _ (by simp only [List.length_append,List.length_cons,List.length_nil];omega))).trans (by rw [hz])) ?_;refine hQ_ _ _ ?_;clear hQ_ Q_)))
  | (refine zHx fun K_ hK_=>?_;simp (disch:=omega) only [zGz,zAz,zHw,↓reduceIte,reduceCtorEq,Nat.reduceEqDiff,Nat.reduceLT];refine hK_ _ ?_;clear hK_ K_)))
          refine zLw (i+1) (by omega) ⟨hlt,fun j hj hji=>?_,by simp only [zAz,↓reduceIte,reduceCtorEq,Nat.reduceEqDiff];exact g14,by simp only [zAz,↓reduceIte,reduceCtorEq,Nat.reduceEqDiff];exact g15,by simp only [zAz,↓reduceIte,reduceCtorEq,Nat.reduceEqDiff];rfl,rfl,_,rfl⟩
          by_cases hje:j=i
          · subst hje;exact hz
          · exact hall j hj (by omega)
        · (repeat' (first
  | (with_reducible first|refine zJw ?_|refine zHz ?_|refine zFz ?_|refine zEv ?_|refine zFy ?_|refine zJv ?_|refine zHy ?_|refine zCz ?_|refine zDw ?_|refine zCy ?_|refine zCv ?_|refine zEx ?_|refine zDz ?_|refine zCx ?_|refine zBy ?_|refine zEz ?_|refine zEy ?_|refine zAv ?_|refine zBz ?_)
  | refine zDy ?_|refine zEw rfl ?_|refine zJy ?_|refine zJx ?_
  | ((first|refine zGv rfl rfl rfl rfl rfl fun K_ hK_=>?_|refine zGw rfl rfl rfl rfl rfl fun K_ hK_=>?_);simp only [zAz,zDx,zGx,↓reduceIte,reduceCtorEq,Nat.reduceEqDiff,Bool.not_true,Bool.not_false];refine hK_ _ ?_;clear hK_ K_)
  | refine zDv (by decide) ?_
  | ((try first|refine zKy rfl rfl rfl ?_|refine zJz rfl rfl ?_|refine zKx rfl rfl rfl ?_|refine zIw rfl rfl ?_);(refine zIv fun Q_ hQ_=>?_;simp (disch:=first|omega|(simp only [List.length_cons,List.length_nil,List.length_append];omega)) only [bb,bp,zLz,↓reduceIte,reduceCtorEq,Nat.reduceEqDiff,Nat.reduceLT,Nat.reduceLeDiff,Nat.reduceAdd,Nat.reduceMul,Nat.reduceSub,Nat.reduceBEq,Int.reduceToNat,cond_true,cond_false,eq_self,beq_self_eq_true,g14,g15,g16,hix,hld,fa,fb,fa',fb',zFw wf,zGy wf,zBw wf,zFx wf,zAy wf,zAx,tEvD15,zIx,zIy,zIz,zHv,zFv,zAw wf];first|(refine zCw (Q:=Q_) (fun hp_=>?_) (fun hp_=>?_) <;> first|(exfalso;omega)|(refine hQ_ _ _ ?_;clear hQ_ Q_))|(refine zBx (Q:=Q_) (fun hp_=>?_) (fun hp_=>?_) <;> first|(exfalso;omega)|(refine hQ_ _ _ ?_;clear hQ_ Q_))|(refine hQ_ _ _ ?_;clear hQ_ Q_)|(refine zLv (CheckLine _ _ _ _ _ (hln.up _ _ (by simp only [List.length_append,List.length_cons,List.length_nil];omega))) ?_;refine hQ_ _ _ ?_;clear hQ_ Q_)))
  | (refine zHx fun K_ hK_=>?_;simp (disch:=omega) only [zGz,zAz,zHw,↓reduceIte,reduceCtorEq,Nat.reduceEqDiff,Nat.reduceLT];refine hK_ _ ?_;clear hK_ K_)))
          (refine zKz _ _ rfl (ret1 (by decide)) ?_;simp only [zAz,↓reduceIte,reduceCtorEq,Nat.reduceEqDiff];refine zKw rfl (by omega) ?_)
          exact ⟨by rw [firstErr_at hlt hall hz],rfl⟩
      · have hie:i=ls.length:=by omega
        (repeat' (first
  | (with_reducible first|refine zJw ?_|refine zHz ?_|refine zFz ?_|refine zEv ?_|refine zFy ?_|refine zJv ?_|refine zHy ?_|refine zCz ?_|refine zDw ?_|refine zCy ?_|refine zCv ?_|refine zEx ?_|refine zDz ?_|refine zCx ?_|refine zBy ?_|refine zEz ?_|refine zEy ?_|refine zAv ?_|refine zBz ?_)
  | refine zDy ?_|refine zEw rfl ?_|refine zJy ?_|refine zJx ?_
  | ((first|refine zGv rfl rfl rfl rfl rfl fun K_ hK_=>?_|refine zGw rfl rfl rfl rfl rfl fun K_ hK_=>?_);simp only [zAz,zDx,zGx,↓reduceIte,reduceCtorEq,Nat.reduceEqDiff,Bool.not_true,Bool.not_false];refine hK_ _ ?_;clear hK_ K_)
  | refine zDv (by decide) ?_
  | ((try first|refine zKy rfl rfl rfl ?_|refine zJz rfl rfl ?_|refine zKx rfl rfl rfl ?_|refine zIw rfl rfl ?_);(refine zIv fun Q_ hQ_=>?_;simp (disch:=first|omega|(simp only [List.length_cons,List.length_nil,List.length_append];omega)) only [bb,bp,zLz,↓reduceIte,reduceCtorEq,Nat.reduceEqDiff,Nat.reduceLT,Nat.reduceLeDiff,Nat.reduceAdd,Nat.reduceMul,Nat.reduceSub,Nat.reduceBEq,Int.reduceToNat,cond_true,cond_false,eq_self,beq_self_eq_true,g14,g15,g16,zFw wf,zGy wf,zBw wf,zFx wf,zAy wf,zAx,tEvD15,zIx,zIy,zIz,zHv,zFv,zAw wf];first|(refine zCw (Q:=Q_) (fun hp_=>?_) (fun hp_=>?_) <;> first|(exfalso;omega)|(refine hQ_ _ _ ?_;clear hQ_ Q_))|(refine zBx (Q:=Q_) (fun hp_=>?_) (fun hp_=>?_) <;> first|(exfalso;omega)|(refine hQ_ _ _ ?_;clear hQ_ Q_))|(refine hQ_ _ _ ?_;clear hQ_ Q_)))
  | (refine zHx fun K_ hK_=>?_;simp (disch:=omega) only [zGz,zAz,zHw,↓reduceIte,reduceCtorEq,Nat.reduceEqDiff,Nat.reduceLT];refine hK_ _ ?_;clear hK_ K_)))
        (refine zKz _ _ rfl (ret1 (by decide)) ?_;simp only [zAz,↓reduceIte,reduceCtorEq,Nat.reduceEqDiff];refine zKw rfl (by omega) ?_)
        exact ⟨by rw [xIw fun j hj _=>hall j hj (by omega)],rfl⟩
    · exact ⟨Nat.zero_le _,fun j _ hj=>absurd hj (Nat.not_lt_zero j),by simp only [zAz,↓reduceIte,reduceCtorEq,Nat.reduceEqDiff],by simp only [zAz,↓reduceIte,reduceCtorEq,Nat.reduceEqDiff],by simp only [zAz,↓reduceIte,reduceCtorEq,Nat.reduceEqDiff];rfl,rfl,[],rfl⟩

theorem refLines (s:AV) (ls:List Ln) (h:H) (x:LinesR h s ls):(om Try.prog KK).call (.fn 56 [s]) h = .ok (ii (linesErr ls)) h:=by
  have wf:=x.wf
  obtain ⟨fs,fs'⟩:=x.flat
  have hl : ∀ h',lenE Try.prog 43 s h'=some (ii (ls.length:Int)):=fun h'=>x.sl.len un_43
  refine zWv (zLx (fn:=Try.f56) Try.func56 rfl rfl rfl rfl rfl ?_)
  simp only [zLz]
  by_cases hn:ls.length<1∨4<ls.length
  · have e:linesErr ls=6:=if_pos hn
    rw [e]
    (repeat' (first
  | (with_reducible first|refine zJw ?_|refine zHz ?_|refine zFz ?_|refine zEv ?_|refine zFy ?_|refine zJv ?_|refine zHy ?_|refine zCz ?_|refine zDw ?_|refine zCy ?_|refine zCv ?_|refine zEx ?_|refine zDz ?_|refine zCx ?_|refine zBy ?_|refine zEz ?_|refine zEy ?_|refine zAv ?_|refine zBz ?_)
  | refine zDy ?_|refine zEw rfl ?_|refine zJy ?_|refine zJx ?_
  | ((first|refine zGv rfl rfl rfl rfl rfl fun K_ hK_=>?_|refine zGw rfl rfl rfl rfl rfl fun K_ hK_=>?_);simp only [zAz,zDx,zGx,↓reduceIte,reduceCtorEq,Nat.reduceEqDiff,Bool.not_true,Bool.not_false];refine hK_ _ ?_;clear hK_ K_)
  | refine zDv (by decide) ?_
  | ((try first|refine zKy rfl rfl rfl ?_|refine zJz rfl rfl ?_|refine zKx rfl rfl rfl ?_|refine zIw rfl rfl ?_);(refine zIv fun Q_ hQ_=>?_;simp (disch:=first|omega|(simp only [List.length_cons,List.length_nil,List.length_append];omega)) only [bb,bp,zLz,↓reduceIte,reduceCtorEq,Nat.reduceEqDiff,Nat.reduceLT,Nat.reduceLeDiff,Nat.reduceAdd,Nat.reduceMul,Nat.reduceSub,Nat.reduceBEq,Int.reduceToNat,cond_true,cond_false,eq_self,beq_self_eq_true,hl,zFw wf,zGy wf,zBw wf,zFx wf,zAy wf,zAx,tEvD15,zIx,zIy,zIz,zHv,zFv,zAw wf];first|(refine zCw (Q:=Q_) (fun hp_=>?_) (fun hp_=>?_) <;> first|(exfalso;omega)|(refine hQ_ _ _ ?_;clear hQ_ Q_))|(refine zBx (Q:=Q_) (fun hp_=>?_) (fun hp_=>?_) <;> first|(exfalso;omega)|(refine hQ_ _ _ ?_;clear hQ_ Q_))|(refine hQ_ _ _ ?_;clear hQ_ Q_)))
  | (refine zHx fun K_ hK_=>?_;simp (disch:=omega) only [zGz,zAz,zHw,↓reduceIte,reduceCtorEq,Nat.reduceEqDiff,Nat.reduceLT];refine hK_ _ ?_;clear hK_ K_)))
    all_goals (refine zKz _ _ rfl (ret1 (by decide)) ?_;simp only [zAz,↓reduceIte,reduceCtorEq,Nat.reduceEqDiff];refine zKw rfl (by omega) ?_)
    all_goals exact ⟨rfl,rfl⟩
  · have e:linesErr ls=firstErr ls:=if_neg hn
    rw [e]
    (repeat' (first
  | (with_reducible first|refine zJw ?_|refine zHz ?_|refine zFz ?_|refine zEv ?_|refine zFy ?_|refine zJv ?_|refine zHy ?_|refine zCz ?_|refine zDw ?_|refine zCy ?_|refine zCv ?_|refine zEx ?_|refine zDz ?_|refine zCx ?_|refine zBy ?_|refine zEz ?_|refine zEy ?_|refine zAv ?_|refine zBz ?_)
  | refine zDy ?_|refine zEw rfl ?_|refine zJy ?_|refine zJx ?_
  | ((first|refine zGv rfl rfl rfl rfl rfl fun K_ hK_=>?_|refine zGw rfl rfl rfl rfl rfl fun K_ hK_=>?_);simp only [zAz,zDx,zGx,↓reduceIte,reduceCtorEq,Nat.reduceEqDiff,Bool.not_true,Bool.not_false];refine hK_ _ ?_;clear hK_ K_)
  | refine zDv (by decide) ?_
  | ((try first|refine zKy rfl rfl rfl ?_|refine zJz rfl rfl ?_|refine zKx rfl rfl rfl ?_|refine zIw rfl rfl ?_);(refine zIv fun Q_ hQ_=>?_;simp (disch:=first|omega|(simp only [List.length_cons,List.length_nil,List.length_append];omega)) only [bb,bp,zLz,↓reduceIte,reduceCtorEq,Nat.reduceEqDiff,Nat.reduceLT,Nat.reduceLeDiff,Nat.reduceAdd,Nat.reduceMul,Nat.reduceSub,Nat.reduceBEq,Int.reduceToNat,cond_true,cond_false,eq_self,beq_self_eq_true,hl,zFw wf,zGy wf,zBw wf,zFx wf,zAy wf,zAx,tEvD15,zIx,zIy,zIz,zHv,zFv,zAw wf];first|(refine zCw (Q:=Q_) (fun hp_=>?_) (fun hp_=>?_) <;> first|(exfalso;omega)|(refine hQ_ _ _ ?_;clear hQ_ Q_))|(refine zBx (Q:=Q_) (fun hp_=>?_) (fun hp_=>?_) <;> first|(exfalso;omega)|(refine hQ_ _ _ ?_;clear hQ_ Q_))|(refine hQ_ _ _ ?_;clear hQ_ Q_)))
  | (refine zHx fun K_ hK_=>?_;simp (disch:=omega) only [zGz,zAz,zHw,↓reduceIte,reduceCtorEq,Nat.reduceEqDiff,Nat.reduceLT];refine hK_ _ ?_;clear hK_ K_)))
    refine yYv (fun (i:Nat) f d h'=>i≤ls.length∧(∀ j (hj:j<ls.length),j<i→lineErr ls[j].re ls[j].cf=0)∧f 0=s∧f 3=ii (i:Int)∧d=[]∧h'=X h [] h.clock) (fun i=>ls.length - i) ?_ (ls.length+1) 0 (by omega) ?_
    · rintro i f d h' ⟨hi,hall,g0,g3,rfl,rfl⟩
      by_cases hlt:i<ls.length
      · obtain ⟨id,off,hix,hld,hln⟩:=x.at ik_43 hlt
        obtain ⟨⟨fa,fa'⟩,⟨fb,fb'⟩⟩:=hln.flats
        by_cases hz:lineErr ls[i].re ls[i].cf=0
        · (repeat' (first
  | (with_reducible first|refine zJw ?_|refine zHz ?_|refine zFz ?_|refine zEv ?_|refine zFy ?_|refine zJv ?_|refine zHy ?_|refine zCz ?_|refine zDw ?_|refine zCy ?_|refine zCv ?_|refine zEx ?_|refine zDz ?_|refine zCx ?_|refine zBy ?_|refine zEz ?_|refine zEy ?_|refine zAv ?_|refine zBz ?_)
  | refine zDy ?_|refine zEw rfl ?_|refine zJy ?_|refine zJx ?_
  | ((first|refine zGv rfl rfl rfl rfl rfl fun K_ hK_=>?_|refine zGw rfl rfl rfl rfl rfl fun K_ hK_=>?_);simp only [zAz,zDx,zGx,↓reduceIte,reduceCtorEq,Nat.reduceEqDiff,Bool.not_true,Bool.not_false];refine hK_ _ ?_;clear hK_ K_)
  | refine zDv (by decide) ?_
  | ((try first|refine zKy rfl rfl rfl ?_|refine zJz rfl rfl ?_|refine zKx rfl rfl rfl ?_|refine zIw rfl rfl ?_);(refine zIv fun Q_ hQ_=>?_;simp (disch:=first|omega|(simp only [List.length_cons,List.length_nil,List.length_append];omega)) only [bb,bp,zLz,↓reduceIte,reduceCtorEq,Nat.reduceEqDiff,Nat.reduceLT,Nat.reduceLeDiff,Nat.reduceAdd,Nat.reduceMul,Nat.reduceSub,Nat.reduceBEq,Int.reduceToNat,cond_true,cond_false,eq_self,beq_self_eq_true,g0,g3,hl,hix,hld,fa,fb,fa',fb',zFw wf,zGy wf,zBw wf,zFx wf,zAy wf,zAx,tEvD15,zIx,zIy,zIz,zHv,zFv,zAw wf];first|(refine zCw (Q:=Q_) (fun hp_=>?_) (fun hp_=>?_) <;> first|(exfalso;omega)|(refine hQ_ _ _ ?_;clear hQ_ Q_))|(refine zBx (Q:=Q_) (fun hp_=>?_) (fun hp_=>?_) <;> first|(exfalso;omega)|(refine hQ_ _ _ ?_;clear hQ_ Q_))|(refine hQ_ _ _ ?_;clear hQ_ Q_)|(refine zLv ((refCheckLine _ _ _ _ _ (hln.up _ _ (by simp only [List.length_append,List.length_cons,List.length_nil];omega))).trans (by rw [hz])) ?_;refine hQ_ _ _ ?_;clear hQ_ Q_)))
  | (refine zHx fun K_ hK_=>?_;simp (disch:=omega) only [zGz,zAz,zHw,↓reduceIte,reduceCtorEq,Nat.reduceEqDiff,Nat.reduceLT];refine hK_ _ ?_;clear hK_ K_)))
          refine zLw (i+1) (by omega) ⟨hlt,fun j hj hji=>?_,by simp only [zAz,↓reduceIte,reduceCtorEq,Nat.reduceEqDiff];exact g0,by simp only [zAz,↓reduceIte,reduceCtorEq,Nat.reduceEqDiff];rfl,rfl,rfl⟩
          by_cases hje:j=i
          · subst hje;exact hz
          · exact hall j hj (by omega)
        · (repeat' (first
  | (with_reducible first|refine zJw ?_|refine zHz ?_|refine zFz ?_|refine zEv ?_|refine zFy ?_|refine zJv ?_|refine zHy ?_|refine zCz ?_|refine zDw ?_|refine zCy ?_|refine zCv ?_|refine zEx ?_|refine zDz ?_|refine zCx ?_|refine zBy ?_|refine zEz ?_|refine zEy ?_|refine zAv ?_|refine zBz ?_)
  | refine zDy ?_|refine zEw rfl ?_|refine zJy ?_|refine zJx ?_
  | ((first|refine zGv rfl rfl rfl rfl rfl fun K_ hK_=>?_|refine zGw rfl rfl rfl rfl rfl fun K_ hK_=>?_);simp only [zAz,zDx,zGx,↓reduceIte,reduceCtorEq,Nat.reduceEqDiff,Bool.not_true,Bool.not_false];refine hK_ _ ?_;clear hK_ K_)
  | refine zDv (by decide) ?_
  | ((try first|refine zKy rfl rfl rfl ?_|refine zJz rfl rfl ?_|refine zKx rfl rfl rfl ?_|refine zIw rfl rfl ?_);(refine zIv fun Q_ hQ_=>?_;simp (disch:=first|omega|(simp only [List.length_cons,List.length_nil,List.length_append];omega)) only [bb,bp,zLz,↓reduceIte,reduceCtorEq,Nat.reduceEqDiff,Nat.reduceLT,Nat.reduceLeDiff,Nat.reduceAdd,Nat.reduceMul,Nat.reduceSub,Nat.reduceBEq,Int.reduceToNat,cond_true,cond_false,eq_self,beq_self_eq_true,g0,g3,hl,hix,hld,fa,fb,fa',fb',zFw wf,zGy wf,zBw wf,zFx wf,zAy wf,zAx,tEvD15,zIx,zIy,zIz,zHv,zFv,zAw wf];first|(refine zCw (Q:=Q_) (fun hp_=>?_) (fun hp_=>?_) <;> first|(exfalso;omega)|(refine hQ_ _ _ ?_;clear hQ_ Q_))|(refine zBx (Q:=Q_) (fun hp_=>?_) (fun hp_=>?_) <;> first|(exfalso;omega)|(refine hQ_ _ _ ?_;clear hQ_ Q_))|(refine hQ_ _ _ ?_;clear hQ_ Q_)|(refine zLv (refCheckLine _ _ _ _ _ (hln.up _ _ (by simp only [List.length_append,List.length_cons,List.length_nil];omega))) ?_;refine hQ_ _ _ ?_;clear hQ_ Q_)))
  | (refine zHx fun K_ hK_=>?_;simp (disch:=omega) only [zGz,zAz,zHw,↓reduceIte,reduceCtorEq,Nat.reduceEqDiff,Nat.reduceLT];refine hK_ _ ?_;clear hK_ K_)))
          (refine zKz _ _ rfl (ret1 (by decide)) ?_;simp only [zAz,↓reduceIte,reduceCtorEq,Nat.reduceEqDiff];refine zKw rfl (by omega) ?_)
          exact ⟨by rw [firstErr_at hlt hall hz],rfl⟩
      · have hie:i=ls.length:=by omega
        (repeat' (first
  | (with_reducible first|refine zJw ?_|refine zHz ?_|refine zFz ?_|refine zEv ?_|refine zFy ?_|refine zJv ?_|refine zHy ?_|refine zCz ?_|refine zDw ?_|refine zCy ?_|refine zCv ?_|refine zEx ?_|refine zDz ?_|refine zCx ?_|refine zBy ?_|refine zEz ?_|refine zEy ?_|refine zAv ?_|refine zBz ?_)
  | refine zDy ?_|refine zEw rfl ?_|refine zJy ?_|refine zJx ?_
  | ((first|refine zGv rfl rfl rfl rfl rfl fun K_ hK_=>?_|refine zGw rfl rfl rfl rfl rfl fun K_ hK_=>?_);simp only [zAz,zDx,zGx,↓reduceIte,reduceCtorEq,Nat.reduceEqDiff,Bool.not_true,Bool.not_false];refine hK_ _ ?_;clear hK_ K_)
  | refine zDv (by decide) ?_
  | ((try first|refine zKy rfl rfl rfl ?_|refine zJz rfl rfl ?_|refine zKx rfl rfl rfl ?_|refine zIw rfl rfl ?_);(refine zIv fun Q_ hQ_=>?_;simp (disch:=first|omega|(simp only [List.length_cons,List.length_nil,List.length_append];omega)) only [bb,bp,zLz,↓reduceIte,reduceCtorEq,Nat.reduceEqDiff,Nat.reduceLT,Nat.reduceLeDiff,Nat.reduceAdd,Nat.reduceMul,Nat.reduceSub,Nat.reduceBEq,Int.reduceToNat,cond_true,cond_false,eq_self,beq_self_eq_true,g0,g3,hl,zFw wf,zGy wf,zBw wf,zFx wf,zAy wf,zAx,tEvD15,zIx,zIy,zIz,zHv,zFv,zAw wf];first|(refine zCw (Q:=Q_) (fun hp_=>?_) (fun hp_=>?_) <;> first|(exfalso;omega)|(refine hQ_ _ _ ?_;clear hQ_ Q_))|(refine zBx (Q:=Q_) (fun hp_=>?_) (fun hp_=>?_) <;> first|(exfalso;omega)|(refine hQ_ _ _ ?_;clear hQ_ Q_))|(refine hQ_ _ _ ?_;clear hQ_ Q_)))
  | (refine zHx fun K_ hK_=>?_;simp (disch:=omega) only [zGz,zAz,zHw,↓reduceIte,reduceCtorEq,Nat.reduceEqDiff,Nat.reduceLT];refine hK_ _ ?_;clear hK_ K_)))
        (refine zKz _ _ rfl (ret1 (by decide)) ?_;simp only [zAz,↓reduceIte,reduceCtorEq,Nat.reduceEqDiff];refine zKw rfl (by omega) ?_)
        exact ⟨by rw [xIw fun j hj _=>hall j hj (by omega)],rfl⟩
    · exact ⟨Nat.zero_le _,fun j _ hj=>absurd hj (Nat.not_lt_zero j),by simp only [zAz,↓reduceIte,reduceCtorEq,Nat.reduceEqDiff],by simp only [zAz,↓reduceIte,reduceCtorEq,Nat.reduceEqDiff];rfl,rfl,rfl⟩

def Greater (ls:List Ln):Prop:=8<ls.length ∨ ∃ l ∈ ls,20<l.re.length∨20<l.cf.length
theorem greater (s:AV) (ls:List Ln) (h:H) (x:LinesR h s ls) : ∃ t:Bool,(t=true ↔ Greater ls)∧(om Try.prog KK).call (.fn 25 [s]) h = .ok (.bool t) h:=by
  have hd : ∃ t:Bool,(t=true ↔ Greater ls):=by
    classical exact ⟨decide (Greater ls),by simp⟩
  obtain ⟨t,ht⟩:=hd
  refine ⟨t,ht,?_⟩
  have wf:=x.wf
  obtain ⟨fs,fs'⟩:=x.flat
  have hl : ∀ h',lenE Try.prog 43 s h'=some (ii (ls.length:Int)):=fun h'=>x.sl.len un_43
  refine zWv (zLx (fn:=Try.f25) Try.func25 rfl rfl rfl rfl rfl ?_)
  simp only [zLz]
  by_cases hn:8<ls.length
  · have e:t=true:=ht.2 (.inl hn)
    rw [e]
    (repeat' (first
  | (with_reducible first|refine zJw ?_|refine zHz ?_|refine zFz ?_|refine zEv ?_|refine zFy ?_|refine zJv ?_|refine zHy ?_|refine zCz ?_|refine zDw ?_|refine zCy ?_|refine zCv ?_|refine zEx ?_|refine zDz ?_|refine zCx ?_|refine zBy ?_|refine zEz ?_|refine zEy ?_|refine zAv ?_|refine zBz ?_)
  | refine zDy ?_|refine zEw rfl ?_|refine zJy ?_|refine zJx ?_
  | ((first|refine zGv rfl rfl rfl rfl rfl fun K_ hK_=>?_|refine zGw rfl rfl rfl rfl rfl fun K_ hK_=>?_);simp only [zAz,zDx,zGx,↓reduceIte,reduceCtorEq,Nat.reduceEqDiff,Bool.not_true,Bool.not_false];refine hK_ _ ?_;clear hK_ K_)
  | refine zDv (by decide) ?_
  | ((try first|refine zKy rfl rfl rfl ?_|refine zJz rfl rfl ?_|refine zKx rfl rfl rfl ?_|refine zIw rfl rfl ?_);(refine zIv fun Q_ hQ_=>?_;simp (disch:=first|omega|(simp only [List.length_cons,List.length_nil,List.length_append];omega)) only [bb,bp,zLz,↓reduceIte,reduceCtorEq,Nat.reduceEqDiff,Nat.reduceLT,Nat.reduceLeDiff,Nat.reduceAdd,Nat.reduceMul,Nat.reduceSub,Nat.reduceBEq,Int.reduceToNat,cond_true,cond_false,eq_self,beq_self_eq_true,hl,zFw wf,zGy wf,zBw wf,zFx wf,zAy wf,zAx,tEvD15,zIx,zIy,zIz,zHv,zFv,zAw wf];first|(refine zCw (Q:=Q_) (fun hp_=>?_) (fun hp_=>?_) <;> first|(exfalso;omega)|(refine hQ_ _ _ ?_;clear hQ_ Q_))|(refine zBx (Q:=Q_) (fun hp_=>?_) (fun hp_=>?_) <;> first|(exfalso;omega)|(refine hQ_ _ _ ?_;clear hQ_ Q_))|(refine hQ_ _ _ ?_;clear hQ_ Q_)))
  | (refine zHx fun K_ hK_=>?_;simp (disch:=omega) only [zGz,zAz,zHw,↓reduceIte,reduceCtorEq,Nat.reduceEqDiff,Nat.reduceLT];refine hK_ _ ?_;clear hK_ K_)))
    (refine zKz _ _ rfl (ret1 (by decide)) ?_;simp only [zAz,↓reduceIte,reduceCtorEq,Nat.reduceEqDiff];refine zKw rfl (by omega) ?_)
    exact ⟨rfl,rfl⟩
  · (repeat' (first
  | (with_reducible first|refine zJw ?_|refine zHz ?_|refine zFz ?_|refine zEv ?_|refine zFy ?_|refine zJv ?_|refine zHy ?_|refine zCz ?_|refine zDw ?_|refine zCy ?_|refine zCv ?_|refine zEx ?_|refine zDz ?_|refine zCx ?_|refine zBy ?_|refine zEz ?_|refine zEy ?_|refine zAv ?_|refine zBz ?_)
  | refine zDy ?_|refine zEw rfl ?_|refine zJy ?_|refine zJx ?_
  | ((first|refine zGv rfl rfl rfl rfl rfl fun K_ hK_=>?_|refine zGw rfl rfl rfl rfl rfl fun K_ hK_=>?_);simp only [zAz,zDx,zGx,↓reduceIte,reduceCtorEq,Nat.reduceEqDiff,Bool.not_true,Bool.not_false];refine hK_ _ ?_;clear hK_ K_)
  | refine zDv (by decide) ?_
  | ((try first|refine zKy rfl rfl rfl ?_|refine zJz rfl rfl ?_|refine zKx rfl rfl rfl ?_|refine zIw rfl rfl ?_);(refine zIv fun Q_ hQ_=>?_;simp (disch:=first|omega|(simp only [List.length_cons,List.length_nil,List.length_append];omega)) only [bb,bp,zLz,↓reduceIte,reduceCtorEq,Nat.reduceEqDiff,Nat.reduceLT,Nat.reduceLeDiff,Nat.reduceAdd,Nat.reduceMul,Nat.reduceSub,Nat.reduceBEq,Int.reduceToNat,cond_true,cond_false,eq_self,beq_self_eq_true,hl,zFw wf,zGy wf,zBw wf,zFx wf,zAy wf,zAx,tEvD15,zIx,zIy,zIz,zHv,zFv,zAw wf];first|(refine zCw (Q:=Q_) (fun hp_=>?_) (fun hp_=>?_) <;> first|(exfalso;omega)|(refine hQ_ _ _ ?_;clear hQ_ Q_))|(refine zBx (Q:=Q_) (fun hp_=>?_) (fun hp_=>?_) <;> first|(exfalso;omega)|(refine hQ_ _ _ ?_;clear hQ_ Q_))|(refine hQ_ _ _ ?_;clear hQ_ Q_)))
  | (refine zHx fun K_ hK_=>?_;simp (disch:=omega) only [zGz,zAz,zHw,↓reduceIte,reduceCtorEq,Nat.reduceEqDiff,Nat.reduceLT];refine hK_ _ ?_;clear hK_ K_)))
    refine yYv (fun (i:Nat) f d h'=>i≤ls.length∧(∀ j (hj:j<ls.length),j<i → ¬ (20<ls[j].re.length∨20<ls[j].cf.length))∧f 0=s∧f 3=ii (i:Int)∧d=[]∧h'=X h [] h.clock) (fun i=>ls.length - i) ?_ (ls.length+1) 0 (by omega) ?_
    · rintro i f d h' ⟨hi,hall,g0,g3,rfl,rfl⟩
      by_cases hlt:i<ls.length
      · obtain ⟨id,off,hix,hld,hln⟩:=x.at ik_43 hlt
        obtain ⟨⟨fa,fa'⟩,⟨fb,fb'⟩⟩:=hln.flats
        by_cases hz:20<ls[i].re.length∨20<ls[i].cf.length
        · have e:t=true:=ht.2 (.inr ⟨_,List.getElem_mem hlt,hz⟩)
          rw [e]
          (repeat' (first
  | (with_reducible first|refine zJw ?_|refine zHz ?_|refine zFz ?_|refine zEv ?_|refine zFy ?_|refine zJv ?_|refine zHy ?_|refine zCz ?_|refine zDw ?_|refine zCy ?_|refine zCv ?_|refine zEx ?_|refine zDz ?_|refine zCx ?_|refine zBy ?_|refine zEz ?_|refine zEy ?_|refine zAv ?_|refine zBz ?_)
  | refine zDy ?_|refine zEw rfl ?_|refine zJy ?_|refine zJx ?_
  | ((first|refine zGv rfl rfl rfl rfl rfl fun K_ hK_=>?_|refine zGw rfl rfl rfl rfl rfl fun K_ hK_=>?_);simp only [zAz,zDx,zGx,↓reduceIte,reduceCtorEq,Nat.reduceEqDiff,Bool.not_true,Bool.not_false];refine hK_ _ ?_;clear hK_ K_)
  | refine zDv (by decide) ?_
  | ((try first|refine zKy rfl rfl rfl ?_|refine zJz rfl rfl ?_|refine zKx rfl rfl rfl ?_|refine zIw rfl rfl ?_);(refine zIv fun Q_ hQ_=>?_;simp (disch:=first|omega|(simp only [List.length_cons,List.length_nil,List.length_append];omega)) only [bb,bp,zLz,↓reduceIte,reduceCtorEq,Nat.reduceEqDiff,Nat.reduceLT,Nat.reduceLeDiff,Nat.reduceAdd,Nat.reduceMul,Nat.reduceSub,Nat.reduceBEq,Int.reduceToNat,cond_true,cond_false,eq_self,beq_self_eq_true,g0,g3,hl,hix,hld,fa,fb,fa',fb',zFw wf,zGy wf,zBw wf,zFx wf,zAy wf,zAx,tEvD15,zIx,zIy,zIz,zHv,zFv,zAw wf];first|(refine zCw (Q:=Q_) (fun hp_=>?_) (fun hp_=>?_) <;> first|(exfalso;omega)|(refine hQ_ _ _ ?_;clear hQ_ Q_))|(refine zBx (Q:=Q_) (fun hp_=>?_) (fun hp_=>?_) <;> first|(exfalso;omega)|(refine hQ_ _ _ ?_;clear hQ_ Q_))|(refine hQ_ _ _ ?_;clear hQ_ Q_)|(refine zLv ((great _ _ _ _ _ (hln.up _ _ (by simp only [List.length_append,List.length_cons,List.length_nil];omega))).trans (by rw [decide_eq_true hz])) ?_;refine hQ_ _ _ ?_;clear hQ_ Q_)))
  | (refine zHx fun K_ hK_=>?_;simp (disch:=omega) only [zGz,zAz,zHw,↓reduceIte,reduceCtorEq,Nat.reduceEqDiff,Nat.reduceLT];refine hK_ _ ?_;clear hK_ K_)))
          (refine zKz _ _ rfl (ret1 (by decide)) ?_;simp only [zAz,↓reduceIte,reduceCtorEq,Nat.reduceEqDiff];refine zKw rfl (by omega) ?_)
          exact ⟨rfl,rfl⟩
        · (repeat' (first
  | (with_reducible first|refine zJw ?_|refine zHz ?_|refine zFz ?_|refine zEv ?_|refine zFy ?_|refine zJv ?_|refine zHy ?_|refine zCz ?_|refine zDw ?_|refine zCy ?_|refine zCv ?_|refine zEx ?_|refine zDz ?_|refine zCx ?_|refine zBy ?_|refine zEz ?_|refine zEy ?_|refine zAv ?_|refine zBz ?_)
  | refine zDy ?_|refine zEw rfl ?_|refine zJy ?_|refine zJx ?_
  | ((first|refine zGv rfl rfl rfl rfl rfl fun K_ hK_=>?_|refine zGw rfl rfl rfl rfl rfl fun K_ hK_=>?_);simp only [zAz,zDx,zGx,↓reduceIte,reduceCtorEq,Nat.reduceEqDiff,Bool.not_true,Bool.not_false];refine hK_ _ ?_;clear hK_ K_)
  | refine zDv (by decide) ?_
  | ((try first|refine zKy rfl rfl rfl ?_|refine zJz rfl rfl ?_|refine zKx rfl rfl rfl ?_|refine zIw rfl rfl ?_);(refine zIv fun Q_ hQ_=>?_;simp (disch:=first|omega|(simp only [List.length_cons,List.length_nil,List.length_append];omega)) only [bb,bp,zLz,↓reduceIte,reduceCtorEq,Nat.reduceEqDiff,Nat.reduceLT,Nat.reduceLeDiff,Nat.reduceAdd,Nat.reduceMul,Nat.reduceSub,Nat.reduceBEq,Int.reduceToNat,cond_true,cond_false,eq_self,beq_self_eq_true,g0,g3,hl,hix,hld,fa,fb,fa',fb',zFw wf,zGy wf,zBw wf,zFx wf,zAy wf,zAx,tEvD15,zIx,zIy,zIz,zHv,zFv,zAw wf];first|(refine zCw (Q:=Q_) (fun hp_=>?_) (fun hp_=>?_) <;> first|(exfalso;omega)|(refine hQ_ _ _ ?_;clear hQ_ Q_))|(refine zBx (Q:=Q_) (fun hp_=>?_) (fun hp_=>?_) <;> first|(exfalso;omega)|(refine hQ_ _ _ ?_;clear hQ_ Q_))|(refine hQ_ _ _ ?_;clear hQ_ Q_)|(refine zLv ((great _ _ _ _ _ (hln.up _ _ (by simp only [List.length_append,List.length_cons,List.length_nil];omega))).trans (by rw [decide_eq_false hz])) ?_;refine hQ_ _ _ ?_;clear hQ_ Q_)))
  | (refine zHx fun K_ hK_=>?_;simp (disch:=omega) only [zGz,zAz,zHw,↓reduceIte,reduceCtorEq,Nat.reduceEqDiff,Nat.reduceLT];refine hK_ _ ?_;clear hK_ K_)))
          refine zLw (i+1) (by omega) ⟨hlt,fun j hj hji=>?_,by simp only [zAz,↓reduceIte,reduceCtorEq,Nat.reduceEqDiff];exact g0,by simp only [zAz,↓reduceIte,reduceCtorEq,Nat.reduceEqDiff];rfl,rfl,rfl⟩
          by_cases hje:j=i
          · subst hje;exact hz
          · exact hall j hj (by omega)
      · have hie:i=ls.length:=by omega
        have e:t=false:=by
          cases t with
          | false=>rfl
          | true=>
            rcases ht.1 rfl with q|⟨l,hl2,q⟩
            · exact absurd q hn
            · obtain ⟨j,hj,rfl⟩:=List.getElem_of_mem hl2
              exact absurd q (hall j hj (by omega))
        rw [e]
        (repeat' (first
  | (with_reducible first|refine zJw ?_|refine zHz ?_|refine zFz ?_|refine zEv ?_|refine zFy ?_|refine zJv ?_|refine zHy ?_|refine zCz ?_|refine zDw ?_|refine zCy ?_|refine zCv ?_|refine zEx ?_|refine zDz ?_|refine zCx ?_|refine zBy ?_|refine zEz ?_|refine zEy ?_|refine zAv ?_|refine zBz ?_)
  | refine zDy ?_|refine zEw rfl ?_|refine zJy ?_|refine zJx ?_
  | ((first|refine zGv rfl rfl rfl rfl rfl fun K_ hK_=>?_|refine zGw rfl rfl rfl rfl rfl fun K_ hK_=>?_);simp only [zAz,zDx,zGx,↓reduceIte,reduceCtorEq,Nat.reduceEqDiff,Bool.not_true,Bool.not_false];refine hK_ _ ?_;clear hK_ K_)
  | refine zDv (by decide) ?_
  | ((try first|refine zKy rfl rfl rfl ?_|refine zJz rfl rfl ?_|refine zKx rfl rfl rfl ?_|refine zIw rfl rfl ?_);(refine zIv fun Q_ hQ_=>?_;simp (disch:=first|omega|(simp only [List.length_cons,List.length_nil,List.length_append];omega)) only [bb,bp,zLz,↓reduceIte,reduceCtorEq,Nat.reduceEqDiff,Nat.reduceLT,Nat.reduceLeDiff,Nat.reduceAdd,Nat.reduceMul,Nat.reduceSub,Nat.reduceBEq,Int.reduceToNat,cond_true,cond_false,eq_self,beq_self_eq_true,g0,g3,hl,zFw wf,zGy wf,zBw wf,zFx wf,zAy wf,zAx,tEvD15,zIx,zIy,zIz,zHv,zFv,zAw wf];first|(refine zCw (Q:=Q_) (fun hp_=>?_) (fun hp_=>?_) <;> first|(exfalso;omega)|(refine hQ_ _ _ ?_;clear hQ_ Q_))|(refine zBx (Q:=Q_) (fun hp_=>?_) (fun hp_=>?_) <;> first|(exfalso;omega)|(refine hQ_ _ _ ?_;clear hQ_ Q_))|(refine hQ_ _ _ ?_;clear hQ_ Q_)))
  | (refine zHx fun K_ hK_=>?_;simp (disch:=omega) only [zGz,zAz,zHw,↓reduceIte,reduceCtorEq,Nat.reduceEqDiff,Nat.reduceLT];refine hK_ _ ?_;clear hK_ K_)))
        (refine zKz _ _ rfl (ret1 (by decide)) ?_;simp only [zAz,↓reduceIte,reduceCtorEq,Nat.reduceEqDiff];refine zKw rfl (by omega) ?_)
        exact ⟨rfl,rfl⟩
    · exact ⟨Nat.zero_le _,fun j _ hj=>absurd hj (Nat.not_lt_zero j),by simp only [zAz,↓reduceIte,reduceCtorEq,Nat.reduceEqDiff],by simp only [zAz,↓reduceIte,reduceCtorEq,Nat.reduceEqDiff];rfl,rfl,rfl⟩
end Go.Proofs.Ythaleckfgcgegaa
end

section
namespace Go.Proofs.Ythaleckfgcgegaa
open Go.Ev
set_option maxRecDepth 100000
set_option linter.unusedSimpArgs false
set_option linter.unusedVariables false
set_option maxHeartbeats 2000000
theorem tEvD8 :type_of% (And.intro (And.intro (And.intro (And.intro (And.intro (And.intro (And.intro (@yXx) (@yXy)) (And.intro (@yXz) (And.intro (@yWv) (@yWw)))) (And.intro (And.intro (@yWx) (And.intro (@yWy) (@yWz))) (And.intro (@zWz) (And.intro (@ia_2) (@sz_2))))) (And.intro (And.intro (And.intro (@ia_3) (@sz_3)) (And.intro (@ia_4) (And.intro (@sz_4) (@yVv)))) (And.intro (And.intro (@yFz) (And.intro (@yVw) (@yEv))) (And.intro (@yVx) (And.intro (@yEw) (@yVy)))))) (And.intro (And.intro (And.intro (And.intro (@yEx) (@yVz)) (And.intro (@yEy) (And.intro (@yUv) (@yEz)))) (And.intro (And.intro (@yUw) (And.intro (@yDv) (@yUx))) (And.intro (@yDw) (And.intro (@yUy) (@yDx))))) (And.intro (And.intro (And.intro (@yUz) (@yDy)) (And.intro (@yTv) (And.intro (@zYy) (@yTw)))) (And.intro (And.intro (@yDz) (And.intro (@yTx) (@yCv))) (And.intro (@yTy) (And.intro (@yCw) (@yTz))))))) (And.intro (And.intro (And.intro (And.intro (And.intro (@yCx) (@ySv)) (And.intro (@yCy) (And.intro (@ySw) (@yCz)))) (And.intro (And.intro (@ySx) (And.intro (@yBv) (@ySy))) (And.intro (@yBw) (And.intro (@ySz) (@yBx))))) (And.intro (And.intro (And.intro (@yRv) (@yBy)) (And.intro (@zVv) (And.intro (@zUx) (@zVw)))) (And.intro (And.intro (@zUy) (And.intro (@zVx) (@zUz))) (And.intro (@zVy) (And.intro (@zTv) (@zVz)))))) (And.intro (And.intro (And.intro (And.intro (@zTw) (@zUv)) (And.intro (@zTx) (And.intro (@zUw) (@zTy)))) (And.intro (And.intro (@ze_2) (And.intro (@ze_3) (@ze_4))) (And.intro (@yBz) (And.intro (@yAv) (@yAw))))) (And.intro (And.intro (And.intro (@yAx) (And.intro (@yAy) (@yAz))) (And.intro (@zZv) (And.intro (@zZw) (@zZx)))) (And.intro (And.intro (@zTz) (And.intro (@zSz) (@zRv))) (And.intro (@zRw) (And.intro (@zRx) (@zRy)))))))) (And.intro (And.intro (And.intro (And.intro (And.intro (And.intro (@zRz) (@zQv)) (And.intro (@zQw) (And.intro (@zQx) (@zQy)))) (And.intro (And.intro (@zQz) (And.intro (@zPv) (@zPw))) (And.intro (@zPx) (And.intro (@zPy) (@zPz))))) (And.intro (And.intro (And.intro (@zOv) (@zOw)) (And.intro (@zOx) (And.intro (@zOy) (@zOz)))) (And.intro (And.intro (@zNv) (And.intro (@zNw) (@zNx))) (And.intro (@zNy) (And.intro (@zNz) (@zMv)))))) (And.intro (And.intro (And.intro (And.intro (@zMw) (@yRw)) (And.intro (@yRx) (And.intro (@yRy) (@yRz)))) (And.intro (And.intro (@yQv) (And.intro (@yQw) (@yQx))) (And.intro (@yQy) (And.intro (@yQz) (@yPv))))) (And.intro (And.intro (And.intro (@yPw) (And.intro (@yPx) (@yPy))) (And.intro (@yPz) (And.intro (@yOv) (@yOw)))) (And.intro (And.intro (@yOx) (And.intro (@yOy) (@yOz))) (And.intro (@yNv) (And.intro (@yNw) (@yNx))))))) (And.intro (And.intro (And.intro (And.intro (And.intro (@yNy) (@yNz)) (And.intro (@yMv) (And.intro (@yMw) (@yMx)))) (And.intro (And.intro (@yMy) (And.intro (@yMz) (@yLv))) (And.intro (@yLw) (And.intro (@yLx) (@yLy))))) (And.intro (And.intro (And.intro (@yLz) (@yKv)) (And.intro (@yKw) (And.intro (@yKx) (@yKy)))) (And.intro (And.intro (@yKz) (And.intro (@yJv) (@yJw))) (And.intro (@yJx) (And.intro (@yJy) (@yJz)))))) (And.intro (And.intro (And.intro (And.intro (@yIv) (@yIw)) (And.intro (@yIx) (And.intro (@yIy) (@yIz)))) (And.intro (And.intro (@yHv) (And.intro (@zZy) (@zZz))) (And.intro (@yHw) (And.intro (@yHx) (@yHy))))) (And.intro (And.intro (And.intro (@yHz) (And.intro (@yGv) (@yGw))) (And.intro (@yGx) (And.intro (@yGy) (@yGz)))) (And.intro (And.intro (@yFv) (And.intro (@yFw) (@zYv))) (And.intro (@yFx) (And.intro (@yFy) (@zYw))))))))):=And.intro (And.intro (And.intro (And.intro (And.intro (And.intro (And.intro (@yXx) (@yXy)) (And.intro (@yXz) (And.intro (@yWv) (@yWw)))) (And.intro (And.intro (@yWx) (And.intro (@yWy) (@yWz))) (And.intro (@zWz) (And.intro (@ia_2) (@sz_2))))) (And.intro (And.intro (And.intro (@ia_3) (@sz_3)) (And.intro (@ia_4) (And.intro (@sz_4) (@yVv)))) (And.intro (And.intro (@yFz) (And.intro (@yVw) (@yEv))) (And.intro (@yVx) (And.intro (@yEw) (@yVy)))))) (And.intro (And.intro (And.intro (And.intro (@yEx) (@yVz)) (And.intro (@yEy) (And.intro (@yUv) (@yEz)))) (And.intro (And.intro (@yUw) (And.intro (@yDv) (@yUx))) (And.intro (@yDw) (And.intro (@yUy) (@yDx))))) (And.intro (And.intro (And.intro (@yUz) (@yDy)) (And.intro (@yTv) (And.intro (@zYy) (@yTw)))) (And.intro (And.intro (@yDz) (And.intro (@yTx) (@yCv))) (And.intro (@yTy) (And.intro (@yCw) (@yTz))))))) (And.intro (And.intro (And.intro (And.intro (And.intro (@yCx) (@ySv)) (And.intro (@yCy) (And.intro (@ySw) (@yCz)))) (And.intro (And.intro (@ySx) (And.intro (@yBv) (@ySy))) (And.intro (@yBw) (And.intro (@ySz) (@yBx))))) (And.intro (And.intro (And.intro (@yRv) (@yBy)) (And.intro (@zVv) (And.intro (@zUx) (@zVw)))) (And.intro (And.intro (@zUy) (And.intro (@zVx) (@zUz))) (And.intro (@zVy) (And.intro (@zTv) (@zVz)))))) (And.intro (And.intro (And.intro (And.intro (@zTw) (@zUv)) (And.intro (@zTx) (And.intro (@zUw) (@zTy)))) (And.intro (And.intro (@ze_2) (And.intro (@ze_3) (@ze_4))) (And.intro (@yBz) (And.intro (@yAv) (@yAw))))) (And.intro (And.intro (And.intro (@yAx) (And.intro (@yAy) (@yAz))) (And.intro (@zZv) (And.intro (@zZw) (@zZx)))) (And.intro (And.intro (@zTz) (And.intro (@zSz) (@zRv))) (And.intro (@zRw) (And.intro (@zRx) (@zRy)))))))) (And.intro (And.intro (And.intro (And.intro (And.intro (And.intro (@zRz) (@zQv)) (And.intro (@zQw) (And.intro (@zQx) (@zQy)))) (And.intro (And.intro (@zQz) (And.intro (@zPv) (@zPw))) (And.intro (@zPx) (And.intro (@zPy) (@zPz))))) (And.intro (And.intro (And.intro (@zOv) (@zOw)) (And.intro (@zOx) (And.intro (@zOy) (@zOz)))) (And.intro (And.intro (@zNv) (And.intro (@zNw) (@zNx))) (And.intro (@zNy) (And.intro (@zNz) (@zMv)))))) (And.intro (And.intro (And.intro (And.intro (@zMw) (@yRw)) (And.intro (@yRx) (And.intro (@yRy) (@yRz)))) (And.intro (And.intro (@yQv) (And.intro (@yQw) (@yQx))) (And.intro (@yQy) (And.intro (@yQz) (@yPv))))) (And.intro (And.intro (And.intro (@yPw) (And.intro (@yPx) (@yPy))) (And.intro (@yPz) (And.intro (@yOv) (@yOw)))) (And.intro (And.intro (@yOx) (And.intro (@yOy) (@yOz))) (And.intro (@yNv) (And.intro (@yNw) (@yNx))))))) (And.intro (And.intro (And.intro (And.intro (And.intro (@yNy) (@yNz)) (And.intro (@yMv) (And.intro (@yMw) (@yMx)))) (And.intro (And.intro (@yMy) (And.intro (@yMz) (@yLv))) (And.intro (@yLw) (And.intro (@yLx) (@yLy))))) (And.intro (And.intro (And.intro (@yLz) (@yKv)) (And.intro (@yKw) (And.intro (@yKx) (@yKy)))) (And.intro (And.intro (@yKz) (And.intro (@yJv) (@yJw))) (And.intro (@yJx) (And.intro (@yJy) (@yJz)))))) (And.intro (And.intro (And.intro (And.intro (@yIv) (@yIw)) (And.intro (@yIx) (And.intro (@yIy) (@yIz)))) (And.intro (And.intro (@yHv) (And.intro (@zZy) (@zZz))) (And.intro (@yHw) (And.intro (@yHx) (@yHy))))) (And.intro (And.intro (And.intro (@yHz) (And.intro (@yGv) (@yGw))) (And.intro (@yGx) (And.intro (@yGy) (@yGz)))) (And.intro (And.intro (@yFv) (And.intro (@yFw) (@zYv))) (And.intro (@yFx) (And.intro (@yFy) (@zYw))))))))
def testErr (T:Te):Int:=if okT T then 0 else 2
theorem yYy {T:Te} (k:okT T):testErr T=0:=if_pos k
theorem yZw {T:Te} (k : ¬ okT T):testErr T=2:=if_neg k
def tbs (T:Te):List Bd:=[(T.sp,T.sp,1,10000),(T.lo,T.lo,1,10000),(T.we,T.we,1,1000000),(T.al,T.al,1,10),(T.f0,T.f1,0,100000000),(T.t0,T.t1,500,3000),(T.s0,T.s1,500,3000),(T.o0,T.o1,0,1000),(T.b0,T.b1,0,200),(T.r0,T.r1,0,2000)]
theorem tbs_kept (T:Te):(∀ b ∈ tbs T,kept b) ↔ okT T:=by
  rw [okT_iff]
  simp only [tbs,List.mem_cons,List.not_mem_nil,or_false,forall_eq_or_imp,forall_eq,kept]
  omega
theorem CheckTest (T:Te) (h:H) (wf:Wf h):(om Try.prog KK).call (.fn 23 [.agg [ii T.sp,ii T.lo,ii T.we,ii T.al,ii T.f0,ii T.f1,ii T.t0,ii T.t1,ii T.s0,ii T.s1,ii T.o0,ii T.o1,ii T.b0,ii T.b1,ii T.r0,ii T.r1]]) h = .ok (ii (testErr T)) h:=by
  have c1 : ∀ n l w,w≤h.clock+l.length→(om Try.prog KK).call (.fn 52 [ii n]) (X h l w) = .ok (.agg [ii n,ii n]) (X h l w):=fun n l w hw=>one n _ (wf.X hw)
  have c2 : ∀ w,w≤h.clock+2→(om Try.prog KK).call (.fn 51 [.sl (nx h 1) 0 10 (some 10) 4]) (X h [.cells (zBv [ii T.sp,ii T.lo,ii T.we,ii T.al,ii T.f0,ii T.f1,ii T.t0,ii T.t1,ii T.s0,ii T.s1,ii T.o0,ii T.o1,ii T.b0,ii T.b1,ii T.r0,ii T.r1]) 35,.cells (zBv ((tbs T).flatMap bdC)) 87] w) = .ok (.bool (decide (okT T))) (X h [.cells (zBv [ii T.sp,ii T.lo,ii T.we,ii T.al,ii T.f0,ii T.f1,ii T.t0,ii T.t1,ii T.s0,ii T.s1,ii T.o0,ii T.o1,ii T.b0,ii T.b1,ii T.r0,ii T.r1]) 35,.cells (zBv ((tbs T).flatMap bdC)) 87] w):=fun w hw=>by
    refine (areKept _ (tbs T) (by simp [tbs]) _ (wf.X (by simp only [List.length_append,List.length_cons,List.length_nil];omega)) (Sl.new (cells:=(tbs T).flatMap bdC) wf (k:=1) rfl rfl)).trans ?_
    congr 2
    exact decide_eq_decide.2 (tbs_kept T)
  simp only [tbs,bdC,List.flatMap_cons,List.flatMap_nil,List.cons_append,List.nil_append,List.append_nil] at c2
  refine zWv (zLx (fn:=Try.f23) Try.func23 rfl rfl rfl rfl rfl ?_)
  simp only [zLz]
  (repeat' (first
  | (with_reducible first|refine zJw ?_|refine zHz ?_|refine zFz ?_|refine zEv ?_|refine zFy ?_|refine zJv ?_|refine zHy ?_|refine zCz ?_|refine zDw ?_|refine zCy ?_|refine zCv ?_|refine zEx ?_|refine zDz ?_|refine zCx ?_|refine zBy ?_|refine zEz ?_|refine zEy ?_|refine zAv ?_|refine zBz ?_)
  | refine zDy ?_|refine zEw rfl ?_|refine zJy ?_|refine zJx ?_
  | ((first|refine zGv rfl rfl rfl rfl rfl fun K_ hK_=>?_|refine zGw rfl rfl rfl rfl rfl fun K_ hK_=>?_);simp only [zAz,zDx,zGx,↓reduceIte,reduceCtorEq,Nat.reduceEqDiff,Bool.not_true,Bool.not_false];refine hK_ _ ?_;clear hK_ K_)
  | refine zDv (by decide) ?_
  | ((try first|refine zKy rfl rfl rfl ?_|refine zJz rfl rfl ?_|refine zKx rfl rfl rfl ?_|refine zIw rfl rfl ?_);(refine zIv fun Q_ hQ_=>?_;simp (disch:=first|omega|(simp only [List.length_cons,List.length_nil,List.length_append];omega)) only [bb,bp,zLz,↓reduceIte,reduceCtorEq,Nat.reduceEqDiff,Nat.reduceLT,Nat.reduceLeDiff,Nat.reduceAdd,Nat.reduceMul,Nat.reduceSub,Nat.reduceBEq,Int.reduceToNat,cond_true,cond_false,eq_self,beq_self_eq_true,zFw wf,zGy wf,zBw wf,zFx wf,zAy wf,zAx,tEvD8,zIx,zIy,zIz,zHv,zFv,zAw wf];first|(refine zCw (Q:=Q_) (fun hp_=>?_) (fun hp_=>?_) <;> first|(exfalso;omega)|(refine hQ_ _ _ ?_;clear hQ_ Q_))|(refine zBx (Q:=Q_) (fun hp_=>?_) (fun hp_=>?_) <;> first|(exfalso;omega)|(refine hQ_ _ _ ?_;clear hQ_ Q_))|(refine hQ_ _ _ ?_;clear hQ_ Q_)))
  | (refine zHx fun K_ hK_=>?_;simp (disch:=omega) only [zGz,zAz,zHw,↓reduceIte,reduceCtorEq,Nat.reduceEqDiff,Nat.reduceLT];refine hK_ _ ?_;clear hK_ K_)))
  refine zLy (List.replicate 34 .no++[.full,.full,.full]) (by kernel_rfl) ?_
  (repeat' (first
  | (with_reducible first|refine zJw ?_|refine zHz ?_|refine zFz ?_|refine zEv ?_|refine zFy ?_|refine zJv ?_|refine zHy ?_|refine zCz ?_|refine zDw ?_|refine zCy ?_|refine zCv ?_|refine zEx ?_|refine zDz ?_|refine zCx ?_|refine zBy ?_|refine zEz ?_|refine zEy ?_|refine zAv ?_|refine zBz ?_)
  | refine zDy ?_|refine zEw rfl ?_|refine zJy ?_|refine zJx ?_
  | ((first|refine zGv rfl rfl rfl rfl rfl fun K_ hK_=>?_|refine zGw rfl rfl rfl rfl rfl fun K_ hK_=>?_);simp only [zAz,zDx,zGx,↓reduceIte,reduceCtorEq,Nat.reduceEqDiff,Bool.not_true,Bool.not_false];refine hK_ _ ?_;clear hK_ K_)
  | refine zDv (by decide) ?_
  | ((try first|refine zKy rfl rfl rfl ?_|refine zJz rfl rfl ?_|refine zKx rfl rfl rfl ?_|refine zIw rfl rfl ?_);(refine zIv fun Q_ hQ_=>?_;simp (disch:=first|omega|(simp only [List.length_cons,List.length_nil,List.length_append];omega)) only [bb,bp,zLz,↓reduceIte,reduceCtorEq,Nat.reduceEqDiff,Nat.reduceLT,Nat.reduceLeDiff,Nat.reduceAdd,Nat.reduceMul,Nat.reduceSub,Nat.reduceBEq,Int.reduceToNat,cond_true,cond_false,eq_self,beq_self_eq_true,c1,c2,zFw wf,zGy wf,zBw wf,zFx wf,zAy wf,zAx,tEvD8,zIx,zIy,zIz,zHv,zFv,zAw wf];first|(refine zCw (Q:=Q_) (fun hp_=>?_) (fun hp_=>?_) <;> first|(exfalso;omega)|(refine hQ_ _ _ ?_;clear hQ_ Q_))|(refine zBx (Q:=Q_) (fun hp_=>?_) (fun hp_=>?_) <;> first|(exfalso;omega)|(refine hQ_ _ _ ?_;clear hQ_ Q_))|(refine hQ_ _ _ ?_;clear hQ_ Q_)))
  | (refine zHx fun K_ hK_=>?_;simp (disch:=omega) only [zGz,zAz,zHw,↓reduceIte,reduceCtorEq,Nat.reduceEqDiff,Nat.reduceLT];refine hK_ _ ?_;clear hK_ K_)))
  all_goals (refine zKz _ _ rfl (ret1 (by decide)) ?_;simp only [zAz,↓reduceIte,reduceCtorEq,Nat.reduceEqDiff];refine zKw rfl (by omega) ?_)
  · exact ⟨by rw [yYy (by assumption)],rfl⟩
  · exact ⟨by rw [yZw (by assumption)],rfl⟩
theorem refCheckTest (T:Te) (h:H) (wf:Wf h):(om Try.prog KK).call (.fn 24 [.agg [ii T.sp,ii T.lo,ii T.we,ii T.al,ii T.f0,ii T.f1,ii T.t0,ii T.t1,ii T.s0,ii T.s1,ii T.o0,ii T.o1,ii T.b0,ii T.b1,ii T.r0,ii T.r1]]) h = .ok (ii (testErr T)) h:=by
  have c1 : ∀ n u v l w,w≤h.clock+l.length→(om Try.prog KK).call (.fn 42 [ii n,ii u,ii v]) (X h l w) = .ok (.bool (decide (u≤n∧n≤v))) (X h l w):=fun n u v l w hw=>between n u v _ (wf.X hw)
  have c2 : ∀ n m u v l w,w≤h.clock+l.length→(om Try.prog KK).call (.fn 53 [.agg [ii n,ii m],ii u,ii v]) (X h l w) = .ok (.bool (decide (u≤n∧n≤m∧m≤v))) (X h l w):=fun n m u v l w hw=>within n m u v _ (wf.X hw)
  have hiff:=okT_iff T
  refine zWv (zLx (fn:=Try.f24) Try.func24 rfl rfl rfl rfl rfl ?_)
  simp only [zLz]
  (repeat' (first
  | (with_reducible first|refine zJw ?_|refine zHz ?_|refine zFz ?_|refine zEv ?_|refine zFy ?_|refine zJv ?_|refine zHy ?_|refine zCz ?_|refine zDw ?_|refine zCy ?_|refine zCv ?_|refine zEx ?_|refine zDz ?_|refine zCx ?_|refine zBy ?_|refine zEz ?_|refine zEy ?_|refine zAv ?_|refine zBz ?_)
  | refine zDy ?_|refine zEw rfl ?_|refine zJy ?_|refine zJx ?_
  | ((first|refine zGv rfl rfl rfl rfl rfl fun K_ hK_=>?_|refine zGw rfl rfl rfl rfl rfl fun K_ hK_=>?_);simp only [zAz,zDx,zGx,↓reduceIte,reduceCtorEq,Nat.reduceEqDiff,Bool.not_true,Bool.not_false];refine hK_ _ ?_;clear hK_ K_)
  | refine zDv (by decide) ?_
  | ((try first|refine zKy rfl rfl rfl ?_|refine zJz rfl rfl ?_|refine zKx rfl rfl rfl ?_|refine zIw rfl rfl ?_);(refine zIv fun Q_ hQ_=>?_;simp (disch:=first|omega|(simp only [List.length_cons,List.length_nil,List.length_append];omega)) only [bb,bp,zLz,↓reduceIte,reduceCtorEq,Nat.reduceEqDiff,Nat.reduceLT,Nat.reduceLeDiff,Nat.reduceAdd,Nat.reduceMul,Nat.reduceSub,Nat.reduceBEq,Int.reduceToNat,cond_true,cond_false,eq_self,beq_self_eq_true,c1,c2,zFw wf,zGy wf,zBw wf,zFx wf,zAy wf,zAx,tEvD8,zIx,zIy,zIz,zHv,zFv,zAw wf];first|(refine zCw (Q:=Q_) (fun hp_=>?_) (fun hp_=>?_) <;> first|(exfalso;omega)|(refine hQ_ _ _ ?_;clear hQ_ Q_))|(refine zBx (Q:=Q_) (fun hp_=>?_) (fun hp_=>?_) <;> first|(exfalso;omega)|(refine hQ_ _ _ ?_;clear hQ_ Q_))|(refine hQ_ _ _ ?_;clear hQ_ Q_)))
  | (refine zHx fun K_ hK_=>?_;simp (disch:=omega) only [zGz,zAz,zHw,↓reduceIte,reduceCtorEq,Nat.reduceEqDiff,Nat.reduceLT];refine hK_ _ ?_;clear hK_ K_)))
  all_goals (refine zKz _ _ rfl (ret1 (by decide)) ?_;simp only [zAz,↓reduceIte,reduceCtorEq,Nat.reduceEqDiff];refine zKw rfl (by omega) ?_)
  all_goals first
    | exact ⟨by rw [yYy (hiff.2 ⟨by assumption,by assumption,by assumption,by assumption,by assumption,by assumption,by assumption,by assumption,by assumption,by assumption⟩)],rfl⟩
    | exact ⟨by rw [yZw (fun k=>by have:=hiff.1 k;omega)],rfl⟩
end Go.Proofs.Ythaleckfgcgegaa
end

section
namespace Go.Proofs.Ythaleckfgcgegaa
open Go.Ev
set_option maxRecDepth 100000
set_option linter.unusedSimpArgs false
set_option linter.unusedVariables false
set_option maxHeartbeats 2000000
theorem tEvD9 :type_of% (And.intro (And.intro (And.intro (And.intro (And.intro (And.intro (And.intro (@yXx) (@yXy)) (And.intro (@yXz) (And.intro (@yWv) (@yWw)))) (And.intro (And.intro (@yWx) (And.intro (@yWy) (@yWz))) (And.intro (@zWz) (And.intro (@ia_2) (@sz_2))))) (And.intro (And.intro (And.intro (@ia_3) (@sz_3)) (And.intro (@ia_4) (And.intro (@sz_4) (@yVv)))) (And.intro (And.intro (@yFz) (And.intro (@yVw) (@yEv))) (And.intro (@yVx) (And.intro (@yEw) (@yVy)))))) (And.intro (And.intro (And.intro (And.intro (@yEx) (@yVz)) (And.intro (@yEy) (And.intro (@yUv) (@yEz)))) (And.intro (And.intro (@yUw) (And.intro (@yDv) (@yUx))) (And.intro (@yDw) (And.intro (@yUy) (@yDx))))) (And.intro (And.intro (And.intro (@yUz) (@yDy)) (And.intro (@yTv) (And.intro (@zYy) (@yTw)))) (And.intro (And.intro (@yDz) (And.intro (@yTx) (@yCv))) (And.intro (@yTy) (And.intro (@yCw) (@yTz))))))) (And.intro (And.intro (And.intro (And.intro (And.intro (@yCx) (@ySv)) (And.intro (@yCy) (And.intro (@ySw) (@yCz)))) (And.intro (And.intro (@ySx) (And.intro (@yBv) (@ySy))) (And.intro (@yBw) (And.intro (@ySz) (@yBx))))) (And.intro (And.intro (And.intro (@yRv) (@yBy)) (And.intro (@zVv) (And.intro (@zUx) (@zVw)))) (And.intro (And.intro (@zUy) (And.intro (@zVx) (@zUz))) (And.intro (@zVy) (And.intro (@zTv) (@zVz)))))) (And.intro (And.intro (And.intro (And.intro (@zTw) (@zUv)) (And.intro (@zTx) (And.intro (@zUw) (@zTy)))) (And.intro (And.intro (@ze_2) (And.intro (@ze_3) (@ze_4))) (And.intro (@yBz) (And.intro (@yAv) (@yAw))))) (And.intro (And.intro (And.intro (@yAx) (And.intro (@yAy) (@yAz))) (And.intro (@zZv) (And.intro (@zZw) (@zZx)))) (And.intro (And.intro (@zTz) (And.intro (@zSz) (@zRv))) (And.intro (@zRw) (And.intro (@zRx) (@zRy)))))))) (And.intro (And.intro (And.intro (And.intro (And.intro (And.intro (@zRz) (@zQv)) (And.intro (@zQw) (And.intro (@zQx) (@zQy)))) (And.intro (And.intro (@zQz) (And.intro (@zPv) (@zPw))) (And.intro (@zPx) (And.intro (@zPy) (@zPz))))) (And.intro (And.intro (And.intro (@zOv) (@zOw)) (And.intro (@zOx) (And.intro (@zOy) (@zOz)))) (And.intro (And.intro (@zNv) (And.intro (@zNw) (@zNx))) (And.intro (@zNy) (And.intro (@zNz) (@zMv)))))) (And.intro (And.intro (And.intro (And.intro (@zMw) (@yRw)) (And.intro (@yRx) (And.intro (@yRy) (@yRz)))) (And.intro (And.intro (@yQv) (And.intro (@yQw) (@yQx))) (And.intro (@yQy) (And.intro (@yQz) (@yPv))))) (And.intro (And.intro (And.intro (@yPw) (And.intro (@yPx) (@yPy))) (And.intro (@yPz) (And.intro (@yOv) (@yOw)))) (And.intro (And.intro (@yOx) (And.intro (@yOy) (@yOz))) (And.intro (@yNv) (And.intro (@yNw) (@yNx))))))) (And.intro (And.intro (And.intro (And.intro (And.intro (@yNy) (@yNz)) (And.intro (@yMv) (And.intro (@yMw) (@yMx)))) (And.intro (And.intro (@yMy) (And.intro (@yMz) (@yLv))) (And.intro (@yLw) (And.intro (@yLx) (@yLy))))) (And.intro (And.intro (And.intro (@yLz) (@yKv)) (And.intro (@yKw) (And.intro (@yKx) (@yKy)))) (And.intro (And.intro (@yKz) (And.intro (@yJv) (@yJw))) (And.intro (@yJx) (And.intro (@yJy) (@yJz)))))) (And.intro (And.intro (And.intro (And.intro (@yIv) (@yIw)) (And.intro (@yIx) (And.intro (@yIy) (@yIz)))) (And.intro (And.intro (@yHv) (And.intro (@zZy) (@zZz))) (And.intro (@yHw) (And.intro (@yHx) (@yHy))))) (And.intro (And.intro (And.intro (@yHz) (And.intro (@yGv) (@yGw))) (And.intro (@yGx) (And.intro (@yGy) (@yGz)))) (And.intro (And.intro (@yFv) (And.intro (@yFw) (@zYv))) (And.intro (@yFx) (And.intro (@yFy) (@zYw))))))))):=And.intro (And.intro (And.intro (And.intro (And.intro (And.intro (And.intro (@yXx) (@yXy)) (And.intro (@yXz) (And.intro (@yWv) (@yWw)))) (And.intro (And.intro (@yWx) (And.intro (@yWy) (@yWz))) (And.intro (@zWz) (And.intro (@ia_2) (@sz_2))))) (And.intro (And.intro (And.intro (@ia_3) (@sz_3)) (And.intro (@ia_4) (And.intro (@sz_4) (@yVv)))) (And.intro (And.intro (@yFz) (And.intro (@yVw) (@yEv))) (And.intro (@yVx) (And.intro (@yEw) (@yVy)))))) (And.intro (And.intro (And.intro (And.intro (@yEx) (@yVz)) (And.intro (@yEy) (And.intro (@yUv) (@yEz)))) (And.intro (And.intro (@yUw) (And.intro (@yDv) (@yUx))) (And.intro (@yDw) (And.intro (@yUy) (@yDx))))) (And.intro (And.intro (And.intro (@yUz) (@yDy)) (And.intro (@yTv) (And.intro (@zYy) (@yTw)))) (And.intro (And.intro (@yDz) (And.intro (@yTx) (@yCv))) (And.intro (@yTy) (And.intro (@yCw) (@yTz))))))) (And.intro (And.intro (And.intro (And.intro (And.intro (@yCx) (@ySv)) (And.intro (@yCy) (And.intro (@ySw) (@yCz)))) (And.intro (And.intro (@ySx) (And.intro (@yBv) (@ySy))) (And.intro (@yBw) (And.intro (@ySz) (@yBx))))) (And.intro (And.intro (And.intro (@yRv) (@yBy)) (And.intro (@zVv) (And.intro (@zUx) (@zVw)))) (And.intro (And.intro (@zUy) (And.intro (@zVx) (@zUz))) (And.intro (@zVy) (And.intro (@zTv) (@zVz)))))) (And.intro (And.intro (And.intro (And.intro (@zTw) (@zUv)) (And.intro (@zTx) (And.intro (@zUw) (@zTy)))) (And.intro (And.intro (@ze_2) (And.intro (@ze_3) (@ze_4))) (And.intro (@yBz) (And.intro (@yAv) (@yAw))))) (And.intro (And.intro (And.intro (@yAx) (And.intro (@yAy) (@yAz))) (And.intro (@zZv) (And.intro (@zZw) (@zZx)))) (And.intro (And.intro (@zTz) (And.intro (@zSz) (@zRv))) (And.intro (@zRw) (And.intro (@zRx) (@zRy)))))))) (And.intro (And.intro (And.intro (And.intro (And.intro (And.intro (@zRz) (@zQv)) (And.intro (@zQw) (And.intro (@zQx) (@zQy)))) (And.intro (And.intro (@zQz) (And.intro (@zPv) (@zPw))) (And.intro (@zPx) (And.intro (@zPy) (@zPz))))) (And.intro (And.intro (And.intro (@zOv) (@zOw)) (And.intro (@zOx) (And.intro (@zOy) (@zOz)))) (And.intro (And.intro (@zNv) (And.intro (@zNw) (@zNx))) (And.intro (@zNy) (And.intro (@zNz) (@zMv)))))) (And.intro (And.intro (And.intro (And.intro (@zMw) (@yRw)) (And.intro (@yRx) (And.intro (@yRy) (@yRz)))) (And.intro (And.intro (@yQv) (And.intro (@yQw) (@yQx))) (And.intro (@yQy) (And.intro (@yQz) (@yPv))))) (And.intro (And.intro (And.intro (@yPw) (And.intro (@yPx) (@yPy))) (And.intro (@yPz) (And.intro (@yOv) (@yOw)))) (And.intro (And.intro (@yOx) (And.intro (@yOy) (@yOz))) (And.intro (@yNv) (And.intro (@yNw) (@yNx))))))) (And.intro (And.intro (And.intro (And.intro (And.intro (@yNy) (@yNz)) (And.intro (@yMv) (And.intro (@yMw) (@yMx)))) (And.intro (And.intro (@yMy) (And.intro (@yMz) (@yLv))) (And.intro (@yLw) (And.intro (@yLx) (@yLy))))) (And.intro (And.intro (And.intro (@yLz) (@yKv)) (And.intro (@yKw) (And.intro (@yKx) (@yKy)))) (And.intro (And.intro (@yKz) (And.intro (@yJv) (@yJw))) (And.intro (@yJx) (And.intro (@yJy) (@yJz)))))) (And.intro (And.intro (And.intro (And.intro (@yIv) (@yIw)) (And.intro (@yIx) (And.intro (@yIy) (@yIz)))) (And.intro (And.intro (@yHv) (And.intro (@zZy) (@zZz))) (And.intro (@yHw) (And.intro (@yHx) (@yHy))))) (And.intro (And.intro (And.intro (@yHz) (And.intro (@yGv) (@yGw))) (And.intro (@yGx) (And.intro (@yGy) (@yGz)))) (And.intro (And.intro (@yFv) (And.intro (@yFw) (@zYv))) (And.intro (@yFx) (And.intro (@yFy) (@zYw))))))))
theorem retcc0 {P:Program} {h:H} {a t b u:Nat} {f:TF} {x y:AV} (ha:a<384) (hb:b<384) (hl:loadE P t (f a) h=some x) (hm:loadE P u (f b) h=some y):retE P [.cell a t,.cell b u] (mkM f) h = .ok (.tup [x,y]) h:=by
  simp only [retE,resultsE,resultE,yXw _ _ ha,yXw _ _ hb,hl,hm]
theorem retcc1 {P:Program} {h:H} {a t b u v:Nat} {f:TF} {x y:AV} (ha:a<384) (hb:b<384) (hv:v<384) (hl:loadE P t (f a) h=some x) (hm:loadE P u (f b) h=some y):retE P [.cell a t,.cell b u,.tmp v] (mkM f) h = .ok (.tup [x,y,f v]) h:=by
  simp only [retE,resultsE,resultE,yXw _ _ ha,yXw _ _ hb,yXw _ _ hv,hl,hm]
theorem rettc0 {P:Program} {h:H} {a t b:Nat} {f:TF} {x:AV} (ha:a<384) (hb:b<384) (hl:loadE P t (f a) h=some x):retE P [.tmp b,.cell a t] (mkM f) h = .ok (.tup [f b,x]) h:=by
  simp only [retE,resultsE,resultE,yXw _ _ ha,yXw _ _ hb,hl]
theorem rettc1 {P:Program} {h:H} {a t b v:Nat} {f:TF} {x:AV} (ha:a<384) (hb:b<384) (hv:v<384) (hl:loadE P t (f a) h=some x):retE P [.tmp b,.cell a t,.tmp v] (mkM f) h = .ok (.tup [f b,x,f v]) h:=by
  simp only [retE,resultsE,resultE,yXw _ _ ha,yXw _ _ hb,yXw _ _ hv,hl]

theorem reynolds (T:Te) (k:okT T) (lv:AV) (hf:AV.cells lv=[lv]∧oneB lv=true) (h:H) (wf:Wf h):(om Try.prog KK).call (.fn 43 [.agg [ii T.sp,ii T.lo,ii T.we,ii T.al,ii T.f0,ii T.f1,ii T.t0,ii T.t1,ii T.s0,ii T.s1,ii T.o0,ii T.o1,ii T.b0,ii T.b1,ii T.r0,ii T.r1,lv]]) h = .ok (.tup [.agg [ii (mo T T.t1),ii (mo T T.t0)],.agg [ii (sh T T.s1),ii (sh T T.s0)]]) h:=by
  obtain ⟨f1,f2⟩:=hf
  have kt:=k.t
  have ks:=k.s
  have c1 : ∀ n l w,0<n→w≤h.clock+l.length→(om Try.prog KK).call (.fn 46 [.agg [ii T.sp,ii T.lo,ii T.we,ii T.al,ii T.f0,ii T.f1,ii T.t0,ii T.t1,ii T.s0,ii T.s1,ii T.o0,ii T.o1,ii T.b0,ii T.b1,ii T.r0,ii T.r1,lv],ii n]) (X h l w) = .ok (ii (mo T n)) (X h l w):=fun n l w h0 hw=>model T k lv n h0 _ (wf.X hw)
  have c2 : ∀ n l w,0<n→w≤h.clock+l.length→(om Try.prog KK).call (.fn 47 [.agg [ii T.sp,ii T.lo,ii T.we,ii T.al,ii T.f0,ii T.f1,ii T.t0,ii T.t1,ii T.s0,ii T.s1,ii T.o0,ii T.o1,ii T.b0,ii T.b1,ii T.r0,ii T.r1,lv],ii n]) (X h l w) = .ok (ii (sh T n)) (X h l w):=fun n l w h0 hw=>shipN T k lv n h0 _ (wf.X hw)
  refine zWv (zLx (fn:=Try.f43) Try.func43 rfl rfl rfl rfl rfl ?_)
  simp only [zLz]
  (repeat' (first
  | (with_reducible first|refine zJw ?_|refine zHz ?_|refine zFz ?_|refine zEv ?_|refine zFy ?_|refine zJv ?_|refine zHy ?_|refine zCz ?_|refine zDw ?_|refine zCy ?_|refine zCv ?_|refine zEx ?_|refine zDz ?_|refine zCx ?_|refine zBy ?_|refine zEz ?_|refine zEy ?_|refine zAv ?_|refine zBz ?_)
  | refine zDy ?_|refine zEw rfl ?_|refine zJy ?_|refine zJx ?_
  | ((first|refine zGv rfl rfl rfl rfl rfl fun K_ hK_=>?_|refine zGw rfl rfl rfl rfl rfl fun K_ hK_=>?_);simp only [zAz,zDx,zGx,↓reduceIte,reduceCtorEq,Nat.reduceEqDiff,Bool.not_true,Bool.not_false];refine hK_ _ ?_;clear hK_ K_)
  | refine zDv (by decide) ?_
  | ((try first|refine zKy rfl rfl rfl ?_|refine zJz rfl rfl ?_|refine zKx rfl rfl rfl ?_|refine zIw rfl rfl ?_);(refine zIv fun Q_ hQ_=>?_;simp (disch:=first|omega|(simp only [List.length_cons,List.length_nil,List.length_append];omega)) only [bb,bp,zLz,↓reduceIte,reduceCtorEq,Nat.reduceEqDiff,Nat.reduceLT,Nat.reduceLeDiff,Nat.reduceAdd,Nat.reduceMul,Nat.reduceSub,Nat.reduceBEq,Int.reduceToNat,cond_true,cond_false,eq_self,beq_self_eq_true,f1,f2,zFw wf,zGy wf,zBw wf,zFx wf,zAy wf,zAx,tEvD9,zIx,zIy,zIz,zHv,zFv,zAw wf];first|(refine zCw (Q:=Q_) (fun hp_=>?_) (fun hp_=>?_) <;> first|(exfalso;omega)|(refine hQ_ _ _ ?_;clear hQ_ Q_))|(refine zBx (Q:=Q_) (fun hp_=>?_) (fun hp_=>?_) <;> first|(exfalso;omega)|(refine hQ_ _ _ ?_;clear hQ_ Q_))|(refine hQ_ _ _ ?_;clear hQ_ Q_)))
  | (refine zHx fun K_ hK_=>?_;simp (disch:=omega) only [zGz,zAz,zHw,↓reduceIte,reduceCtorEq,Nat.reduceEqDiff,Nat.reduceLT];refine hK_ _ ?_;clear hK_ K_)))
  refine zLy (List.replicate 14 .no++[.full]) (by kernel_rfl) ?_
  (repeat' (first
  | (with_reducible first|refine zJw ?_|refine zHz ?_|refine zFz ?_|refine zEv ?_|refine zFy ?_|refine zJv ?_|refine zHy ?_|refine zCz ?_|refine zDw ?_|refine zCy ?_|refine zCv ?_|refine zEx ?_|refine zDz ?_|refine zCx ?_|refine zBy ?_|refine zEz ?_|refine zEy ?_|refine zAv ?_|refine zBz ?_)
  | refine zDy ?_|refine zEw rfl ?_|refine zJy ?_|refine zJx ?_
  | ((first|refine zGv rfl rfl rfl rfl rfl fun K_ hK_=>?_|refine zGw rfl rfl rfl rfl rfl fun K_ hK_=>?_);simp only [zAz,zDx,zGx,↓reduceIte,reduceCtorEq,Nat.reduceEqDiff,Bool.not_true,Bool.not_false];refine hK_ _ ?_;clear hK_ K_)
  | refine zDv (by decide) ?_
  | ((try first|refine zKy rfl rfl rfl ?_|refine zJz rfl rfl ?_|refine zKx rfl rfl rfl ?_|refine zIw rfl rfl ?_);(refine zIv fun Q_ hQ_=>?_;simp (disch:=first|omega|(simp only [List.length_cons,List.length_nil,List.length_append];omega)) only [bb,bp,zLz,↓reduceIte,reduceCtorEq,Nat.reduceEqDiff,Nat.reduceLT,Nat.reduceLeDiff,Nat.reduceAdd,Nat.reduceMul,Nat.reduceSub,Nat.reduceBEq,Int.reduceToNat,cond_true,cond_false,eq_self,beq_self_eq_true,f1,f2,c1,zFw wf,zGy wf,zBw wf,zFx wf,zAy wf,zAx,tEvD9,zIx,zIy,zIz,zHv,zFv,zAw wf];first|(refine zCw (Q:=Q_) (fun hp_=>?_) (fun hp_=>?_) <;> first|(exfalso;omega)|(refine hQ_ _ _ ?_;clear hQ_ Q_))|(refine zBx (Q:=Q_) (fun hp_=>?_) (fun hp_=>?_) <;> first|(exfalso;omega)|(refine hQ_ _ _ ?_;clear hQ_ Q_))|(refine hQ_ _ _ ?_;clear hQ_ Q_)))
  | (refine zHx fun K_ hK_=>?_;simp (disch:=omega) only [zGz,zAz,zHw,↓reduceIte,reduceCtorEq,Nat.reduceEqDiff,Nat.reduceLT];refine hK_ _ ?_;clear hK_ K_)))
  refine zLy (List.replicate 14 .no++[.full]) (by kernel_rfl) ?_
  (repeat' (first
  | (with_reducible first|refine zJw ?_|refine zHz ?_|refine zFz ?_|refine zEv ?_|refine zFy ?_|refine zJv ?_|refine zHy ?_|refine zCz ?_|refine zDw ?_|refine zCy ?_|refine zCv ?_|refine zEx ?_|refine zDz ?_|refine zCx ?_|refine zBy ?_|refine zEz ?_|refine zEy ?_|refine zAv ?_|refine zBz ?_)
  | refine zDy ?_|refine zEw rfl ?_|refine zJy ?_|refine zJx ?_
  | ((first|refine zGv rfl rfl rfl rfl rfl fun K_ hK_=>?_|refine zGw rfl rfl rfl rfl rfl fun K_ hK_=>?_);simp only [zAz,zDx,zGx,↓reduceIte,reduceCtorEq,Nat.reduceEqDiff,Bool.not_true,Bool.not_false];refine hK_ _ ?_;clear hK_ K_)
  | refine zDv (by decide) ?_
  | ((try first|refine zKy rfl rfl rfl ?_|refine zJz rfl rfl ?_|refine zKx rfl rfl rfl ?_|refine zIw rfl rfl ?_);(refine zIv fun Q_ hQ_=>?_;simp (disch:=first|omega|(simp only [List.length_cons,List.length_nil,List.length_append];omega)) only [bb,bp,zLz,↓reduceIte,reduceCtorEq,Nat.reduceEqDiff,Nat.reduceLT,Nat.reduceLeDiff,Nat.reduceAdd,Nat.reduceMul,Nat.reduceSub,Nat.reduceBEq,Int.reduceToNat,cond_true,cond_false,eq_self,beq_self_eq_true,f1,f2,c2,zFw wf,zGy wf,zBw wf,zFx wf,zAy wf,zAx,tEvD9,zIx,zIy,zIz,zHv,zFv,zAw wf];first|(refine zCw (Q:=Q_) (fun hp_=>?_) (fun hp_=>?_) <;> first|(exfalso;omega)|(refine hQ_ _ _ ?_;clear hQ_ Q_))|(refine zBx (Q:=Q_) (fun hp_=>?_) (fun hp_=>?_) <;> first|(exfalso;omega)|(refine hQ_ _ _ ?_;clear hQ_ Q_))|(refine hQ_ _ _ ?_;clear hQ_ Q_)))
  | (refine zHx fun K_ hK_=>?_;simp (disch:=omega) only [zGz,zAz,zHw,↓reduceIte,reduceCtorEq,Nat.reduceEqDiff,Nat.reduceLT];refine hK_ _ ?_;clear hK_ K_)))
  refine zLy [.no,.no,.soft [5],.full] (by kernel_rfl) ?_
  (repeat' (first
  | (with_reducible first|refine zJw ?_|refine zHz ?_|refine zFz ?_|refine zEv ?_|refine zFy ?_|refine zJv ?_|refine zHy ?_|refine zCz ?_|refine zDw ?_|refine zCy ?_|refine zCv ?_|refine zEx ?_|refine zDz ?_|refine zCx ?_|refine zBy ?_|refine zEz ?_|refine zEy ?_|refine zAv ?_|refine zBz ?_)
  | refine zDy ?_|refine zEw rfl ?_|refine zJy ?_|refine zJx ?_
  | ((first|refine zGv rfl rfl rfl rfl rfl fun K_ hK_=>?_|refine zGw rfl rfl rfl rfl rfl fun K_ hK_=>?_);simp only [zAz,zDx,zGx,↓reduceIte,reduceCtorEq,Nat.reduceEqDiff,Bool.not_true,Bool.not_false];refine hK_ _ ?_;clear hK_ K_)
  | refine zDv (by decide) ?_
  | ((try first|refine zKy rfl rfl rfl ?_|refine zJz rfl rfl ?_|refine zKx rfl rfl rfl ?_|refine zIw rfl rfl ?_);(refine zIv fun Q_ hQ_=>?_;simp (disch:=first|omega|(simp only [List.length_cons,List.length_nil,List.length_append];omega)) only [bb,bp,zLz,↓reduceIte,reduceCtorEq,Nat.reduceEqDiff,Nat.reduceLT,Nat.reduceLeDiff,Nat.reduceAdd,Nat.reduceMul,Nat.reduceSub,Nat.reduceBEq,Int.reduceToNat,cond_true,cond_false,eq_self,beq_self_eq_true,f1,f2,zFw wf,zGy wf,zBw wf,zFx wf,zAy wf,zAx,tEvD9,zIx,zIy,zIz,zHv,zFv,zAw wf];first|(refine zCw (Q:=Q_) (fun hp_=>?_) (fun hp_=>?_) <;> first|(exfalso;omega)|(refine hQ_ _ _ ?_;clear hQ_ Q_))|(refine zBx (Q:=Q_) (fun hp_=>?_) (fun hp_=>?_) <;> first|(exfalso;omega)|(refine hQ_ _ _ ?_;clear hQ_ Q_))|(refine hQ_ _ _ ?_;clear hQ_ Q_)))
  | (refine zHx fun K_ hK_=>?_;simp (disch:=omega) only [zGz,zAz,zHw,↓reduceIte,reduceCtorEq,Nat.reduceEqDiff,Nat.reduceLT];refine hK_ _ ?_;clear hK_ K_)))
  (refine zIw rfl rfl (WV_soft (v:=.tup []) (by simp (disch:=first|omega|(simp only [List.length_cons,List.length_nil,List.length_append];omega)) only [bb,bp,zLz,↓reduceIte,reduceCtorEq,Nat.reduceEqDiff,Nat.reduceLT,Nat.reduceLeDiff,Nat.reduceAdd,Nat.reduceMul,Nat.reduceSub,Nat.reduceBEq,Int.reduceToNat,cond_true,cond_false,eq_self,beq_self_eq_true,zFw wf,zGy wf,zBw wf,zFx wf,zAy wf,zAx,tEvD9,zIx,zIy,zIz,zHv,zFv,zAw wf];rfl) (xAv rfl rfl (nx_ne (by decide)) (by decide) (by decide)) ?_))
  (repeat' (first
  | (with_reducible first|refine zJw ?_|refine zHz ?_|refine zFz ?_|refine zEv ?_|refine zFy ?_|refine zJv ?_|refine zHy ?_|refine zCz ?_|refine zDw ?_|refine zCy ?_|refine zCv ?_|refine zEx ?_|refine zDz ?_|refine zCx ?_|refine zBy ?_|refine zEz ?_|refine zEy ?_|refine zAv ?_|refine zBz ?_)
  | refine zDy ?_|refine zEw rfl ?_|refine zJy ?_|refine zJx ?_
  | ((first|refine zGv rfl rfl rfl rfl rfl fun K_ hK_=>?_|refine zGw rfl rfl rfl rfl rfl fun K_ hK_=>?_);simp only [zAz,zDx,zGx,↓reduceIte,reduceCtorEq,Nat.reduceEqDiff,Bool.not_true,Bool.not_false];refine hK_ _ ?_;clear hK_ K_)
  | refine zDv (by decide) ?_
  | ((try first|refine zKy rfl rfl rfl ?_|refine zJz rfl rfl ?_|refine zKx rfl rfl rfl ?_|refine zIw rfl rfl ?_);(refine zIv fun Q_ hQ_=>?_;simp (disch:=first|omega|(simp only [List.length_cons,List.length_nil,List.length_append];omega)) only [bb,bp,zLz,↓reduceIte,reduceCtorEq,Nat.reduceEqDiff,Nat.reduceLT,Nat.reduceLeDiff,Nat.reduceAdd,Nat.reduceMul,Nat.reduceSub,Nat.reduceBEq,Int.reduceToNat,cond_true,cond_false,eq_self,beq_self_eq_true,f1,f2,zFw wf,zGy wf,zBw wf,zFx wf,zAy wf,zAx,tEvD9,zIx,zIy,zIz,zHv,zFv,zAw wf];first|(refine zCw (Q:=Q_) (fun hp_=>?_) (fun hp_=>?_) <;> first|(exfalso;omega)|(refine hQ_ _ _ ?_;clear hQ_ Q_))|(refine zBx (Q:=Q_) (fun hp_=>?_) (fun hp_=>?_) <;> first|(exfalso;omega)|(refine hQ_ _ _ ?_;clear hQ_ Q_))|(refine hQ_ _ _ ?_;clear hQ_ Q_)))
  | (refine zHx fun K_ hK_=>?_;simp (disch:=omega) only [zGz,zAz,zHw,↓reduceIte,reduceCtorEq,Nat.reduceEqDiff,Nat.reduceLT];refine hK_ _ ?_;clear hK_ K_)))
  refine zKz _ _ rfl (retcc0 (by decide) (by decide) (by simp (disch:=first|omega|(simp only [List.length_cons,List.length_nil,List.length_append];omega)) only [bb,bp,zLz,↓reduceIte,reduceCtorEq,Nat.reduceEqDiff,Nat.reduceLT,Nat.reduceLeDiff,Nat.reduceAdd,Nat.reduceMul,Nat.reduceSub,Nat.reduceBEq,Int.reduceToNat,cond_true,cond_false,eq_self,beq_self_eq_true,zBw wf,tEvD9,zIx,zIy,zIz,zHv,zFv,zAw wf];rfl) (by simp (disch:=first|omega|(simp only [List.length_cons,List.length_nil,List.length_append];omega)) only [bb,bp,zLz,↓reduceIte,reduceCtorEq,Nat.reduceEqDiff,Nat.reduceLT,Nat.reduceLeDiff,Nat.reduceAdd,Nat.reduceMul,Nat.reduceSub,Nat.reduceBEq,Int.reduceToNat,cond_true,cond_false,eq_self,beq_self_eq_true,zBw wf,tEvD9,zIx,zIy,zIz,zHv,zFv,zAw wf];rfl)) ?_
  refine zKw rfl (by omega) ?_
  exact ⟨rfl,rfl⟩

def RR (a b:Int):AV:=.agg [ii a,ii b]
def reyA (T:Te):AV:=if okT T then .agg [ii (mo T T.t1),ii (mo T T.t0)] else .agg [ii 0,ii 0]
def reyB (T:Te):AV:=if okT T then .agg [ii (sh T T.s1),ii (sh T T.s0)] else .agg [ii 0,ii 0]
theorem Reynolds (T:Te) (h:H) (wf:Wf h):(om Try.prog KK).call (.fn 19 [.agg [ii T.sp,ii T.lo,ii T.we,ii T.al,ii T.f0,ii T.f1,ii T.t0,ii T.t1,ii T.s0,ii T.s1,ii T.o0,ii T.o1,ii T.b0,ii T.b1,ii T.r0,ii T.r1]]) h = .ok (.tup [reyA T,reyB T,ii (testErr T)]) h:=by
  refine zWv (zLx (fn:=Try.f19) Try.func19 rfl rfl rfl rfl rfl ?_)
  simp only [zLz]
  by_cases k:okT T
  · have e0:=yYy k
    rw [e0,show reyA T=_ from if_pos k,show reyB T=_ from if_pos k]
    (repeat' (first
  | (with_reducible first|refine zJw ?_|refine zHz ?_|refine zFz ?_|refine zEv ?_|refine zFy ?_|refine zJv ?_|refine zHy ?_|refine zCz ?_|refine zDw ?_|refine zCy ?_|refine zCv ?_|refine zEx ?_|refine zDz ?_|refine zCx ?_|refine zBy ?_|refine zEz ?_|refine zEy ?_|refine zAv ?_|refine zBz ?_)
  | refine zDy ?_|refine zEw rfl ?_|refine zJy ?_|refine zJx ?_
  | ((first|refine zGv rfl rfl rfl rfl rfl fun K_ hK_=>?_|refine zGw rfl rfl rfl rfl rfl fun K_ hK_=>?_);simp only [zAz,zDx,zGx,↓reduceIte,reduceCtorEq,Nat.reduceEqDiff,Bool.not_true,Bool.not_false];refine hK_ _ ?_;clear hK_ K_)
  | refine zDv (by decide) ?_
  | ((try first|refine zKy rfl rfl rfl ?_|refine zJz rfl rfl ?_|refine zKx rfl rfl rfl ?_|refine zIw rfl rfl ?_);(refine zIv fun Q_ hQ_=>?_;simp (disch:=first|omega|(simp only [List.length_cons,List.length_nil,List.length_append];omega)) only [bb,bp,zLz,↓reduceIte,reduceCtorEq,Nat.reduceEqDiff,Nat.reduceLT,Nat.reduceLeDiff,Nat.reduceAdd,Nat.reduceMul,Nat.reduceSub,Nat.reduceBEq,Int.reduceToNat,cond_true,cond_false,eq_self,beq_self_eq_true,zFw wf,zGy wf,zBw wf,zFx wf,zAy wf,zAx,tEvD9,zIx,zIy,zIz,zHv,zFv,zAw wf];first|(refine zCw (Q:=Q_) (fun hp_=>?_) (fun hp_=>?_) <;> first|(exfalso;omega)|(refine hQ_ _ _ ?_;clear hQ_ Q_))|(refine zBx (Q:=Q_) (fun hp_=>?_) (fun hp_=>?_) <;> first|(exfalso;omega)|(refine hQ_ _ _ ?_;clear hQ_ Q_))|(refine hQ_ _ _ ?_;clear hQ_ Q_)|(refine zLv ((CheckTest T _ (wf.X (Nat.le_add_right _ _))).trans (by rw [e0])) ?_;refine hQ_ _ _ ?_;clear hQ_ Q_)|(refine zLv (reynolds T k .nils ⟨rfl,rfl⟩ _ (wf.X (Nat.le_add_right _ _))) ?_;refine hQ_ _ _ ?_;clear hQ_ Q_)))
  | (refine zHx fun K_ hK_=>?_;simp (disch:=omega) only [zGz,zAz,zHw,↓reduceIte,reduceCtorEq,Nat.reduceEqDiff,Nat.reduceLT];refine hK_ _ ?_;clear hK_ K_)))
    refine zLy [.no,.no,.soft [7],.full,.full] (by kernel_rfl) ?_
    (repeat' (first
  | (with_reducible first|refine zJw ?_|refine zHz ?_|refine zFz ?_|refine zEv ?_|refine zFy ?_|refine zJv ?_|refine zHy ?_|refine zCz ?_|refine zDw ?_|refine zCy ?_|refine zCv ?_|refine zEx ?_|refine zDz ?_|refine zCx ?_|refine zBy ?_|refine zEz ?_|refine zEy ?_|refine zAv ?_|refine zBz ?_)
  | refine zDy ?_|refine zEw rfl ?_|refine zJy ?_|refine zJx ?_
  | ((first|refine zGv rfl rfl rfl rfl rfl fun K_ hK_=>?_|refine zGw rfl rfl rfl rfl rfl fun K_ hK_=>?_);simp only [zAz,zDx,zGx,↓reduceIte,reduceCtorEq,Nat.reduceEqDiff,Bool.not_true,Bool.not_false];refine hK_ _ ?_;clear hK_ K_)
  | refine zDv (by decide) ?_
  | ((try first|refine zKy rfl rfl rfl ?_|refine zJz rfl rfl ?_|refine zKx rfl rfl rfl ?_|refine zIw rfl rfl ?_);(refine zIv fun Q_ hQ_=>?_;simp (disch:=first|omega|(simp only [List.length_cons,List.length_nil,List.length_append];omega)) only [bb,bp,zLz,↓reduceIte,reduceCtorEq,Nat.reduceEqDiff,Nat.reduceLT,Nat.reduceLeDiff,Nat.reduceAdd,Nat.reduceMul,Nat.reduceSub,Nat.reduceBEq,Int.reduceToNat,cond_true,cond_false,eq_self,beq_self_eq_true,zFw wf,zGy wf,zBw wf,zFx wf,zAy wf,zAx,tEvD9,zIx,zIy,zIz,zHv,zFv,zAw wf];first|(refine zCw (Q:=Q_) (fun hp_=>?_) (fun hp_=>?_) <;> first|(exfalso;omega)|(refine hQ_ _ _ ?_;clear hQ_ Q_))|(refine zBx (Q:=Q_) (fun hp_=>?_) (fun hp_=>?_) <;> first|(exfalso;omega)|(refine hQ_ _ _ ?_;clear hQ_ Q_))|(refine hQ_ _ _ ?_;clear hQ_ Q_)))
  | (refine zHx fun K_ hK_=>?_;simp (disch:=omega) only [zGz,zAz,zHw,↓reduceIte,reduceCtorEq,Nat.reduceEqDiff,Nat.reduceLT];refine hK_ _ ?_;clear hK_ K_)))
    (refine zIw rfl rfl (WV_soft (v:=.tup []) (by simp (disch:=first|omega|(simp only [List.length_cons,List.length_nil,List.length_append];omega)) only [bb,bp,zLz,↓reduceIte,reduceCtorEq,Nat.reduceEqDiff,Nat.reduceLT,Nat.reduceLeDiff,Nat.reduceAdd,Nat.reduceMul,Nat.reduceSub,Nat.reduceBEq,Int.reduceToNat,cond_true,cond_false,eq_self,beq_self_eq_true,zFw wf,zGy wf,zBw wf,zFx wf,zAy wf,zAx,tEvD9,zIx,zIy,zIz,zHv,zFv,zAw wf];rfl) (xAv rfl rfl (nx_ne (by decide)) (by decide) (by decide)) ?_))
    (repeat' (first
  | (with_reducible first|refine zJw ?_|refine zHz ?_|refine zFz ?_|refine zEv ?_|refine zFy ?_|refine zJv ?_|refine zHy ?_|refine zCz ?_|refine zDw ?_|refine zCy ?_|refine zCv ?_|refine zEx ?_|refine zDz ?_|refine zCx ?_|refine zBy ?_|refine zEz ?_|refine zEy ?_|refine zAv ?_|refine zBz ?_)
  | refine zDy ?_|refine zEw rfl ?_|refine zJy ?_|refine zJx ?_
  | ((first|refine zGv rfl rfl rfl rfl rfl fun K_ hK_=>?_|refine zGw rfl rfl rfl rfl rfl fun K_ hK_=>?_);simp only [zAz,zDx,zGx,↓reduceIte,reduceCtorEq,Nat.reduceEqDiff,Bool.not_true,Bool.not_false];refine hK_ _ ?_;clear hK_ K_)
  | refine zDv (by decide) ?_
  | ((try first|refine zKy rfl rfl rfl ?_|refine zJz rfl rfl ?_|refine zKx rfl rfl rfl ?_|refine zIw rfl rfl ?_);(refine zIv fun Q_ hQ_=>?_;simp (disch:=first|omega|(simp only [List.length_cons,List.length_nil,List.length_append];omega)) only [bb,bp,zLz,↓reduceIte,reduceCtorEq,Nat.reduceEqDiff,Nat.reduceLT,Nat.reduceLeDiff,Nat.reduceAdd,Nat.reduceMul,Nat.reduceSub,Nat.reduceBEq,Int.reduceToNat,cond_true,cond_false,eq_self,beq_self_eq_true,zFw wf,zGy wf,zBw wf,zFx wf,zAy wf,zAx,tEvD9,zIx,zIy,zIz,zHv,zFv,zAw wf];first|(refine zCw (Q:=Q_) (fun hp_=>?_) (fun hp_=>?_) <;> first|(exfalso;omega)|(refine hQ_ _ _ ?_;clear hQ_ Q_))|(refine zBx (Q:=Q_) (fun hp_=>?_) (fun hp_=>?_) <;> first|(exfalso;omega)|(refine hQ_ _ _ ?_;clear hQ_ Q_))|(refine hQ_ _ _ ?_;clear hQ_ Q_)))
  | (refine zHx fun K_ hK_=>?_;simp (disch:=omega) only [zGz,zAz,zHw,↓reduceIte,reduceCtorEq,Nat.reduceEqDiff,Nat.reduceLT];refine hK_ _ ?_;clear hK_ K_)))
    refine zKz _ _ rfl (retcc1 (by decide) (by decide) (by decide) (by simp (disch:=first|omega|(simp only [List.length_cons,List.length_nil,List.length_append];omega)) only [bb,bp,zLz,↓reduceIte,reduceCtorEq,Nat.reduceEqDiff,Nat.reduceLT,Nat.reduceLeDiff,Nat.reduceAdd,Nat.reduceMul,Nat.reduceSub,Nat.reduceBEq,Int.reduceToNat,cond_true,cond_false,eq_self,beq_self_eq_true,zBw wf,tEvD9,zIx,zIy,zIz,zHv,zFv,zAw wf];rfl) (by simp (disch:=first|omega|(simp only [List.length_cons,List.length_nil,List.length_append];omega)) only [bb,bp,zLz,↓reduceIte,reduceCtorEq,Nat.reduceEqDiff,Nat.reduceLT,Nat.reduceLeDiff,Nat.reduceAdd,Nat.reduceMul,Nat.reduceSub,Nat.reduceBEq,Int.reduceToNat,cond_true,cond_false,eq_self,beq_self_eq_true,zBw wf,tEvD9,zIx,zIy,zIz,zHv,zFv,zAw wf];rfl)) ?_
    refine zKw rfl (by omega) ?_
    exact ⟨rfl,rfl⟩
  · have e0:=yZw k
    rw [e0,show reyA T=_ from if_neg k,show reyB T=_ from if_neg k]
    (repeat' (first
  | (with_reducible first|refine zJw ?_|refine zHz ?_|refine zFz ?_|refine zEv ?_|refine zFy ?_|refine zJv ?_|refine zHy ?_|refine zCz ?_|refine zDw ?_|refine zCy ?_|refine zCv ?_|refine zEx ?_|refine zDz ?_|refine zCx ?_|refine zBy ?_|refine zEz ?_|refine zEy ?_|refine zAv ?_|refine zBz ?_)
  | refine zDy ?_|refine zEw rfl ?_|refine zJy ?_|refine zJx ?_
  | ((first|refine zGv rfl rfl rfl rfl rfl fun K_ hK_=>?_|refine zGw rfl rfl rfl rfl rfl fun K_ hK_=>?_);simp only [zAz,zDx,zGx,↓reduceIte,reduceCtorEq,Nat.reduceEqDiff,Bool.not_true,Bool.not_false];refine hK_ _ ?_;clear hK_ K_)
  | refine zDv (by decide) ?_
  | ((try first|refine zKy rfl rfl rfl ?_|refine zJz rfl rfl ?_|refine zKx rfl rfl rfl ?_|refine zIw rfl rfl ?_);(refine zIv fun Q_ hQ_=>?_;simp (disch:=first|omega|(simp only [List.length_cons,List.length_nil,List.length_append];omega)) only [bb,bp,zLz,↓reduceIte,reduceCtorEq,Nat.reduceEqDiff,Nat.reduceLT,Nat.reduceLeDiff,Nat.reduceAdd,Nat.reduceMul,Nat.reduceSub,Nat.reduceBEq,Int.reduceToNat,cond_true,cond_false,eq_self,beq_self_eq_true,zFw wf,zGy wf,zBw wf,zFx wf,zAy wf,zAx,tEvD9,zIx,zIy,zIz,zHv,zFv,zAw wf];first|(refine zCw (Q:=Q_) (fun hp_=>?_) (fun hp_=>?_) <;> first|(exfalso;omega)|(refine hQ_ _ _ ?_;clear hQ_ Q_))|(refine zBx (Q:=Q_) (fun hp_=>?_) (fun hp_=>?_) <;> first|(exfalso;omega)|(refine hQ_ _ _ ?_;clear hQ_ Q_))|(refine hQ_ _ _ ?_;clear hQ_ Q_)|(refine zLv ((CheckTest T _ (wf.X (Nat.le_add_right _ _))).trans (by rw [e0])) ?_;refine hQ_ _ _ ?_;clear hQ_ Q_)))
  | (refine zHx fun K_ hK_=>?_;simp (disch:=omega) only [zGz,zAz,zHw,↓reduceIte,reduceCtorEq,Nat.reduceEqDiff,Nat.reduceLT];refine hK_ _ ?_;clear hK_ K_)))
    refine zKz _ _ rfl (retcc1 (by decide) (by decide) (by decide) (by simp (disch:=first|omega|(simp only [List.length_cons,List.length_nil,List.length_append];omega)) only [bb,bp,zLz,↓reduceIte,reduceCtorEq,Nat.reduceEqDiff,Nat.reduceLT,Nat.reduceLeDiff,Nat.reduceAdd,Nat.reduceMul,Nat.reduceSub,Nat.reduceBEq,Int.reduceToNat,cond_true,cond_false,eq_self,beq_self_eq_true,zBw wf,tEvD9,zIx,zIy,zIz,zHv,zFv,zAw wf];rfl) (by simp (disch:=first|omega|(simp only [List.length_cons,List.length_nil,List.length_append];omega)) only [bb,bp,zLz,↓reduceIte,reduceCtorEq,Nat.reduceEqDiff,Nat.reduceLT,Nat.reduceLeDiff,Nat.reduceAdd,Nat.reduceMul,Nat.reduceSub,Nat.reduceBEq,Int.reduceToNat,cond_true,cond_false,eq_self,beq_self_eq_true,zBw wf,tEvD9,zIx,zIy,zIz,zHv,zFv,zAw wf];rfl)) ?_
    refine zKw rfl (by omega) ?_
    exact ⟨rfl,rfl⟩
theorem refReynolds (T:Te) (h:H) (wf:Wf h):(om Try.prog KK).call (.fn 20 [.agg [ii T.sp,ii T.lo,ii T.we,ii T.al,ii T.f0,ii T.f1,ii T.t0,ii T.t1,ii T.s0,ii T.s1,ii T.o0,ii T.o1,ii T.b0,ii T.b1,ii T.r0,ii T.r1]]) h = .ok (.tup [reyA T,reyB T,ii (testErr T)]) h:=by
  refine zWv (zLx (fn:=Try.f20) Try.func20 rfl rfl rfl rfl rfl ?_)
  simp only [zLz]
  by_cases k:okT T
  · have e0:=yYy k
    have kt:=k.t
    have ks:=k.s
    rw [e0,show reyA T=_ from if_pos k,show reyB T=_ from if_pos k]
    (repeat' (first
  | (with_reducible first|refine zJw ?_|refine zHz ?_|refine zFz ?_|refine zEv ?_|refine zFy ?_|refine zJv ?_|refine zHy ?_|refine zCz ?_|refine zDw ?_|refine zCy ?_|refine zCv ?_|refine zEx ?_|refine zDz ?_|refine zCx ?_|refine zBy ?_|refine zEz ?_|refine zEy ?_|refine zAv ?_|refine zBz ?_)
  | refine zDy ?_|refine zEw rfl ?_|refine zJy ?_|refine zJx ?_
  | ((first|refine zGv rfl rfl rfl rfl rfl fun K_ hK_=>?_|refine zGw rfl rfl rfl rfl rfl fun K_ hK_=>?_);simp only [zAz,zDx,zGx,↓reduceIte,reduceCtorEq,Nat.reduceEqDiff,Bool.not_true,Bool.not_false];refine hK_ _ ?_;clear hK_ K_)
  | refine zDv (by decide) ?_
  | ((try first|refine zKy rfl rfl rfl ?_|refine zJz rfl rfl ?_|refine zKx rfl rfl rfl ?_|refine zIw rfl rfl ?_);(refine zIv fun Q_ hQ_=>?_;simp (disch:=first|omega|(simp only [List.length_cons,List.length_nil,List.length_append];omega)) only [bb,bp,zLz,↓reduceIte,reduceCtorEq,Nat.reduceEqDiff,Nat.reduceLT,Nat.reduceLeDiff,Nat.reduceAdd,Nat.reduceMul,Nat.reduceSub,Nat.reduceBEq,Int.reduceToNat,cond_true,cond_false,eq_self,beq_self_eq_true,zFw wf,zGy wf,zBw wf,zFx wf,zAy wf,zAx,tEvD9,zIx,zIy,zIz,zHv,zFv,zAw wf];first|(refine zCw (Q:=Q_) (fun hp_=>?_) (fun hp_=>?_) <;> first|(exfalso;omega)|(refine hQ_ _ _ ?_;clear hQ_ Q_))|(refine zBx (Q:=Q_) (fun hp_=>?_) (fun hp_=>?_) <;> first|(exfalso;omega)|(refine hQ_ _ _ ?_;clear hQ_ Q_))|(refine hQ_ _ _ ?_;clear hQ_ Q_)|(refine zLv ((refCheckTest T _ (wf.X (Nat.le_add_right _ _))).trans (by rw [e0])) ?_;refine hQ_ _ _ ?_;clear hQ_ Q_)|(refine zLv (numbers T k T.t1 T.s1 (by omega) (by omega) _ (wf.X (Nat.le_add_right _ _))) ?_;refine hQ_ _ _ ?_;clear hQ_ Q_)|(refine zLv (numbers T k T.t0 T.s0 (by omega) (by omega) _ (wf.X (Nat.le_add_right _ _))) ?_;refine hQ_ _ _ ?_;clear hQ_ Q_)))
  | (refine zHx fun K_ hK_=>?_;simp (disch:=omega) only [zGz,zAz,zHw,↓reduceIte,reduceCtorEq,Nat.reduceEqDiff,Nat.reduceLT];refine hK_ _ ?_;clear hK_ K_)))
    refine zKz _ _ rfl (retcc1 (by decide) (by decide) (by decide) (by simp (disch:=first|omega|(simp only [List.length_cons,List.length_nil,List.length_append];omega)) only [bb,bp,zLz,↓reduceIte,reduceCtorEq,Nat.reduceEqDiff,Nat.reduceLT,Nat.reduceLeDiff,Nat.reduceAdd,Nat.reduceMul,Nat.reduceSub,Nat.reduceBEq,Int.reduceToNat,cond_true,cond_false,eq_self,beq_self_eq_true,zBw wf,tEvD9,zIx,zIy,zIz,zHv,zFv,zAw wf];rfl) (by simp (disch:=first|omega|(simp only [List.length_cons,List.length_nil,List.length_append];omega)) only [bb,bp,zLz,↓reduceIte,reduceCtorEq,Nat.reduceEqDiff,Nat.reduceLT,Nat.reduceLeDiff,Nat.reduceAdd,Nat.reduceMul,Nat.reduceSub,Nat.reduceBEq,Int.reduceToNat,cond_true,cond_false,eq_self,beq_self_eq_true,zBw wf,tEvD9,zIx,zIy,zIz,zHv,zFv,zAw wf];rfl)) ?_
    refine zKw rfl (by omega) ?_
    exact ⟨rfl,rfl⟩
  · have e0:=yZw k
    rw [e0,show reyA T=_ from if_neg k,show reyB T=_ from if_neg k]
    (repeat' (first
  | (with_reducible first|refine zJw ?_|refine zHz ?_|refine zFz ?_|refine zEv ?_|refine zFy ?_|refine zJv ?_|refine zHy ?_|refine zCz ?_|refine zDw ?_|refine zCy ?_|refine zCv ?_|refine zEx ?_|refine zDz ?_|refine zCx ?_|refine zBy ?_|refine zEz ?_|refine zEy ?_|refine zAv ?_|refine zBz ?_)
  | refine zDy ?_|refine zEw rfl ?_|refine zJy ?_|refine zJx ?_
  | ((first|refine zGv rfl rfl rfl rfl rfl fun K_ hK_=>?_|refine zGw rfl rfl rfl rfl rfl fun K_ hK_=>?_);simp only [zAz,zDx,zGx,↓reduceIte,reduceCtorEq,Nat.reduceEqDiff,Bool.not_true,Bool.not_false];refine hK_ _ ?_;clear hK_ K_)
  | refine zDv (by decide) ?_
  | ((try first|refine zKy rfl rfl rfl ?_|refine zJz rfl rfl ?_|refine zKx rfl rfl rfl ?_|refine zIw rfl rfl ?_);(refine zIv fun Q_ hQ_=>?_;simp (disch:=first|omega|(simp only [List.length_cons,List.length_nil,List.length_append];omega)) only [bb,bp,zLz,↓reduceIte,reduceCtorEq,Nat.reduceEqDiff,Nat.reduceLT,Nat.reduceLeDiff,Nat.reduceAdd,Nat.reduceMul,Nat.reduceSub,Nat.reduceBEq,Int.reduceToNat,cond_true,cond_false,eq_self,beq_self_eq_true,zFw wf,zGy wf,zBw wf,zFx wf,zAy wf,zAx,tEvD9,zIx,zIy,zIz,zHv,zFv,zAw wf];first|(refine zCw (Q:=Q_) (fun hp_=>?_) (fun hp_=>?_) <;> first|(exfalso;omega)|(refine hQ_ _ _ ?_;clear hQ_ Q_))|(refine zBx (Q:=Q_) (fun hp_=>?_) (fun hp_=>?_) <;> first|(exfalso;omega)|(refine hQ_ _ _ ?_;clear hQ_ Q_))|(refine hQ_ _ _ ?_;clear hQ_ Q_)|(refine zLv ((refCheckTest T _ (wf.X (Nat.le_add_right _ _))).trans (by rw [e0])) ?_;refine hQ_ _ _ ?_;clear hQ_ Q_)))
  | (refine zHx fun K_ hK_=>?_;simp (disch:=omega) only [zGz,zAz,zHw,↓reduceIte,reduceCtorEq,Nat.reduceEqDiff,Nat.reduceLT];refine hK_ _ ?_;clear hK_ K_)))
    refine zKz _ _ rfl (retcc1 (by decide) (by decide) (by decide) (by simp (disch:=first|omega|(simp only [List.length_cons,List.length_nil,List.length_append];omega)) only [bb,bp,zLz,↓reduceIte,reduceCtorEq,Nat.reduceEqDiff,Nat.reduceLT,Nat.reduceLeDiff,Nat.reduceAdd,Nat.reduceMul,Nat.reduceSub,Nat.reduceBEq,Int.reduceToNat,cond_true,cond_false,eq_self,beq_self_eq_true,zBw wf,tEvD9,zIx,zIy,zIz,zHv,zFv,zAw wf];rfl) (by simp (disch:=first|omega|(simp only [List.length_cons,List.length_nil,List.length_append];omega)) only [bb,bp,zLz,↓reduceIte,reduceCtorEq,Nat.reduceEqDiff,Nat.reduceLT,Nat.reduceLeDiff,Nat.reduceAdd,Nat.reduceMul,Nat.reduceSub,Nat.reduceBEq,Int.reduceToNat,cond_true,cond_false,eq_self,beq_self_eq_true,zBw wf,tEvD9,zIx,zIy,zIz,zHv,zFv,zAw wf];rfl)) ?_
    refine zKw rfl (by omega) ?_
    exact ⟨rfl,rfl⟩
end Go.Proofs.Ythaleckfgcgegaa
end

section
namespace Go.Ev
section
variable {P:Program}
set_option maxHeartbeats 2000000
theorem pureRun_eqSix {d:Nat} {t:TypeId} {f0 f1 f2 f3 f4 f5:Field} {k:IntKind} {a0 a1 a2 a3 a4 a5 b0 b1 b2 b3 b4 b5:Int} (hu:P.underlying t=some (.struct #[f0,f1,f2,f3,f4,f5])) (h0:P.underlying f0.type=some (.int k)) (o0:f0.offset=0) (n0:f0.name ≠ "_") (h1:P.underlying f1.type=some (.int k)) (o1:f1.offset=1) (n1:f1.name ≠ "_") (h2:P.underlying f2.type=some (.int k)) (o2:f2.offset=2) (n2:f2.name ≠ "_") (h3:P.underlying f3.type=some (.int k)) (o3:f3.offset=3) (n3:f3.name ≠ "_") (h4:P.underlying f4.type=some (.int k)) (o4:f4.offset=4) (n4:f4.name ≠ "_") (h5:P.underlying f5.type=some (.int k)) (o5:f5.offset=5) (n5:f5.name ≠ "_") (hs:P.stoodInHeld t=false) :
    pureRun P (Op.equalIn (d+2) t (.agg #[.int .i64 a0,.int .i64 a1,.int .i64 a2,.int .i64 a3,.int .i64 a4,.int .i64 a5]) (.agg #[.int .i64 b0,.int .i64 b1,.int .i64 b2,.int .i64 b3,.int .i64 b4,.int .i64 b5]))=some (decide (a0=b0∧a1=b1∧a2=b2∧a3=b3∧a4=b4∧a5=b5)):=by
  have p0 : ∀ (x0 x1 x2 x3 x4 x5:Int),pureRun P (part f0.type #[.int .i64 x0,.int .i64 x1,.int .i64 x2,.int .i64 x3,.int .i64 x4,.int .i64 x5] 0)=some (.int .i64 x0):=fun x0 x1 x2 x3 x4 x5=>xAz h0 rfl
  have p1 : ∀ (x0 x1 x2 x3 x4 x5:Int),pureRun P (part f1.type #[.int .i64 x0,.int .i64 x1,.int .i64 x2,.int .i64 x3,.int .i64 x4,.int .i64 x5] 1)=some (.int .i64 x1):=fun x0 x1 x2 x3 x4 x5=>xAz h1 rfl
  have p2 : ∀ (x0 x1 x2 x3 x4 x5:Int),pureRun P (part f2.type #[.int .i64 x0,.int .i64 x1,.int .i64 x2,.int .i64 x3,.int .i64 x4,.int .i64 x5] 2)=some (.int .i64 x2):=fun x0 x1 x2 x3 x4 x5=>xAz h2 rfl
  have p3 : ∀ (x0 x1 x2 x3 x4 x5:Int),pureRun P (part f3.type #[.int .i64 x0,.int .i64 x1,.int .i64 x2,.int .i64 x3,.int .i64 x4,.int .i64 x5] 3)=some (.int .i64 x3):=fun x0 x1 x2 x3 x4 x5=>xAz h3 rfl
  have p4 : ∀ (x0 x1 x2 x3 x4 x5:Int),pureRun P (part f4.type #[.int .i64 x0,.int .i64 x1,.int .i64 x2,.int .i64 x3,.int .i64 x4,.int .i64 x5] 4)=some (.int .i64 x4):=fun x0 x1 x2 x3 x4 x5=>xAz h4 rfl
  have p5 : ∀ (x0 x1 x2 x3 x4 x5:Int),pureRun P (part f5.type #[.int .i64 x0,.int .i64 x1,.int .i64 x2,.int .i64 x3,.int .i64 x4,.int .i64 x5] 5)=some (.int .i64 x5):=fun x0 x1 x2 x3 x4 x5=>xAz h5 rfl
  have q0 : ∀ (x y:Int),pureRun P (Op.equalIn (d+1) f0.type (.int .i64 x) (.int .i64 y))=some (x == y):=fun x y=>yZz h0
  have q1 : ∀ (x y:Int),pureRun P (Op.equalIn (d+1) f1.type (.int .i64 x) (.int .i64 y))=some (x == y):=fun x y=>yZz h1
  have q2 : ∀ (x y:Int),pureRun P (Op.equalIn (d+1) f2.type (.int .i64 x) (.int .i64 y))=some (x == y):=fun x y=>yZz h2
  have q3 : ∀ (x y:Int),pureRun P (Op.equalIn (d+1) f3.type (.int .i64 x) (.int .i64 y))=some (x == y):=fun x y=>yZz h3
  have q4 : ∀ (x y:Int),pureRun P (Op.equalIn (d+1) f4.type (.int .i64 x) (.int .i64 y))=some (x == y):=fun x y=>yZz h4
  have q5 : ∀ (x y:Int),pureRun P (Op.equalIn (d+1) f5.type (.int .i64 x) (.int .i64 y))=some (x == y):=fun x y=>yZz h5
  rw [Op.equalIn,zMz,zXz hu]
  simp only [Option.bind_some]
  rw [zMz,xIy]
  simp only [Option.bind_some,hs]
  simp [zMz,zSv,n0,o0,p0,q0]
  by_cases e0:a0=b0
  · subst e0
    simp [zMz,zSv,n1,o1,p1,q1]
    by_cases e1:a1=b1
    · subst e1
      simp [zMz,zSv,n2,o2,p2,q2]
      by_cases e2:a2=b2
      · subst e2
        simp [zMz,zSv,n3,o3,p3,q3]
        by_cases e3:a3=b3
        · subst e3
          simp [zMz,zSv,n4,o4,p4,q4]
          by_cases e4:a4=b4
          · subst e4
            simp [zMz,zSv,n5,o5,p5,q5]
            by_cases e5:a5=b5
            · subst e5
              simp [zMz,zSv]
            · have g5:(a5 == b5)=false:=by simpa using e5
              simp [zMz,zSv,e5,g5]
          · have g4:(a4 == b4)=false:=by simpa using e4
            simp [zMz,zSv,e4,g4]
        · have g3:(a3 == b3)=false:=by simpa using e3
          simp [zMz,zSv,e3,g3]
      · have g2:(a2 == b2)=false:=by simpa using e2
        simp [zMz,zSv,e2,g2]
    · have g1:(a1 == b1)=false:=by simpa using e1
      simp [zMz,zSv,e1,g1]
  · have g0:(a0 == b0)=false:=by simpa using e0
    simp [zMz,zSv,e0,g0]
theorem b_neq6 {X Y:Operand} {t:TypeId} {f0 f1 f2 f3 f4 f5:Field} {k:IntKind} {a0 a1 a2 a3 a4 a5 b0 b1 b2 b3 b4 b5:Int} (hu:P.underlying t=some (.struct #[f0,f1,f2,f3,f4,f5])) (h0:P.underlying f0.type=some (.int k)) (o0:f0.offset=0) (n0:f0.name ≠ "_") (h1:P.underlying f1.type=some (.int k)) (o1:f1.offset=1) (n1:f1.name ≠ "_") (h2:P.underlying f2.type=some (.int k)) (o2:f2.offset=2) (n2:f2.name ≠ "_") (h3:P.underlying f3.type=some (.int k)) (o3:f3.offset=3) (n3:f3.name ≠ "_") (h4:P.underlying f4.type=some (.int k)) (o4:f4.offset=4) (n4:f4.name ≠ "_") (h5:P.underlying f5.type=some (.int k)) (o5:f5.offset=5) (n5:f5.name ≠ "_") (hs:P.stoodInHeld t=false) (hg:P.eqGuardType P.depth t=false):binE P .neq t X Y (.agg [.int .i64 a0,.int .i64 a1,.int .i64 a2,.int .i64 a3,.int .i64 a4,.int .i64 a5]) (.agg [.int .i64 b0,.int .i64 b1,.int .i64 b2,.int .i64 b3,.int .i64 b4,.int .i64 b5])=some (.bool (!decide (a0=b0∧a1=b1∧a2=b2∧a3=b3∧a4=b4∧a5=b5))):=by
  have es:binSlow P .neq t X Y (.agg [.int .i64 a0,.int .i64 a1,.int .i64 a2,.int .i64 a3,.int .i64 a4,.int .i64 a5]) (.agg [.int .i64 b0,.int .i64 b1,.int .i64 b2,.int .i64 b3,.int .i64 b4,.int .i64 b5])=pureVal P (do eqGuard .neq t X Y (.agg #[.int .i64 a0,.int .i64 a1,.int .i64 a2,.int .i64 a3,.int .i64 a4,.int .i64 a5]) (.agg #[.int .i64 b0,.int .i64 b1,.int .i64 b2,.int .i64 b3,.int .i64 b4,.int .i64 b5]);binOp .neq t (.agg #[.int .i64 a0,.int .i64 a1,.int .i64 a2,.int .i64 a3,.int .i64 a4,.int .i64 a5]) (.agg #[.int .i64 b0,.int .i64 b1,.int .i64 b2,.int .i64 b3,.int .i64 b4,.int .i64 b5])):=rfl
  have eb:binE P .neq t X Y (.agg [.int .i64 a0,.int .i64 a1,.int .i64 a2,.int .i64 a3,.int .i64 a4,.int .i64 a5]) (.agg [.int .i64 b0,.int .i64 b1,.int .i64 b2,.int .i64 b3,.int .i64 b4,.int .i64 b5])=binSlow P .neq t X Y (.agg [.int .i64 a0,.int .i64 a1,.int .i64 a2,.int .i64 a3,.int .i64 a4,.int .i64 a5]) (.agg [.int .i64 b0,.int .i64 b1,.int .i64 b2,.int .i64 b3,.int .i64 b4,.int .i64 b5]):=rfl
  rw [eb,es]
  have e1:pureRun P (eqGuard .neq t X Y (.agg #[.int .i64 a0,.int .i64 a1,.int .i64 a2,.int .i64 a3,.int .i64 a4,.int .i64 a5]) (.agg #[.int .i64 b0,.int .i64 b1,.int .i64 b2,.int .i64 b3,.int .i64 b4,.int .i64 b5]))=some ():=by
    unfold eqGuard
    simp [zMz,xIy,hg,zSv]
  have e2:pureRun P (binOp .neq t (.agg #[.int .i64 a0,.int .i64 a1,.int .i64 a2,.int .i64 a3,.int .i64 a4,.int .i64 a5]) (.agg #[.int .i64 b0,.int .i64 b1,.int .i64 b2,.int .i64 b3,.int .i64 b4,.int .i64 b5]))=some (.bool (!decide (a0=b0∧a1=b1∧a2=b2∧a3=b3∧a4=b4∧a5=b5))):=by
    show pureRun P (do pure (Value.bool (!(← Op.equalIn (9998+2) t _ _))))=_
    rw [zMz,pureRun_eqSix hu h0 o0 n0 h1 o1 n1 h2 o2 n2 h3 o3 n3 h4 o4 n4 h5 o5 n5 hs]
    rfl
  unfold pureVal
  rw [zMz,e1]
  simp only [Option.bind_some]
  rw [e2]
  rfl
end
end Go.Ev
end

section
namespace Go.Proofs.Ythaleckfgcgegaa
open Go.Ev
set_option maxRecDepth 100000
set_option linter.unusedSimpArgs false
set_option linter.unusedVariables false
set_option maxHeartbeats 2000000
theorem tEvD10 :type_of% (And.intro (And.intro (And.intro (And.intro (And.intro (And.intro (And.intro (@yXx) (@yXy)) (And.intro (@yXz) (And.intro (@yWv) (@yWw)))) (And.intro (And.intro (@yWx) (And.intro (@yWy) (@yWz))) (And.intro (@zWz) (And.intro (@ia_2) (@sz_2))))) (And.intro (And.intro (And.intro (@ia_3) (@sz_3)) (And.intro (@ia_4) (And.intro (@sz_4) (@yVv)))) (And.intro (And.intro (@yFz) (And.intro (@yVw) (@yEv))) (And.intro (@yVx) (And.intro (@yEw) (@yVy)))))) (And.intro (And.intro (And.intro (And.intro (@yEx) (@yVz)) (And.intro (@yEy) (And.intro (@yUv) (@yEz)))) (And.intro (And.intro (@yUw) (And.intro (@yDv) (@yUx))) (And.intro (@yDw) (And.intro (@yUy) (@yDx))))) (And.intro (And.intro (And.intro (@yUz) (@yDy)) (And.intro (@yTv) (And.intro (@zYy) (@yTw)))) (And.intro (And.intro (@yDz) (And.intro (@yTx) (@yCv))) (And.intro (@yTy) (And.intro (@yCw) (@yTz))))))) (And.intro (And.intro (And.intro (And.intro (And.intro (@yCx) (@ySv)) (And.intro (@yCy) (And.intro (@ySw) (@yCz)))) (And.intro (And.intro (@ySx) (And.intro (@yBv) (@ySy))) (And.intro (@yBw) (And.intro (@ySz) (@yBx))))) (And.intro (And.intro (And.intro (@yRv) (@yBy)) (And.intro (@zVv) (And.intro (@zUx) (@zVw)))) (And.intro (And.intro (@zUy) (And.intro (@zVx) (@zUz))) (And.intro (@zVy) (And.intro (@zTv) (@zVz)))))) (And.intro (And.intro (And.intro (And.intro (@zTw) (@zUv)) (And.intro (@zTx) (And.intro (@zUw) (@zTy)))) (And.intro (And.intro (@ze_2) (And.intro (@ze_3) (@ze_4))) (And.intro (@yBz) (And.intro (@yAv) (@yAw))))) (And.intro (And.intro (And.intro (@yAx) (And.intro (@yAy) (@yAz))) (And.intro (@zZv) (And.intro (@zZw) (@zZx)))) (And.intro (And.intro (@zTz) (And.intro (@zSz) (@zRv))) (And.intro (@zRw) (And.intro (@zRx) (@zRy)))))))) (And.intro (And.intro (And.intro (And.intro (And.intro (And.intro (@zRz) (@zQv)) (And.intro (@zQw) (And.intro (@zQx) (@zQy)))) (And.intro (And.intro (@zQz) (And.intro (@zPv) (@zPw))) (And.intro (@zPx) (And.intro (@zPy) (@zPz))))) (And.intro (And.intro (And.intro (@zOv) (@zOw)) (And.intro (@zOx) (And.intro (@zOy) (@zOz)))) (And.intro (And.intro (@zNv) (And.intro (@zNw) (@zNx))) (And.intro (@zNy) (And.intro (@zNz) (@zMv)))))) (And.intro (And.intro (And.intro (And.intro (@zMw) (@yRw)) (And.intro (@yRx) (And.intro (@yRy) (@yRz)))) (And.intro (And.intro (@yQv) (And.intro (@yQw) (@yQx))) (And.intro (@yQy) (And.intro (@yQz) (@yPv))))) (And.intro (And.intro (And.intro (@yPw) (And.intro (@yPx) (@yPy))) (And.intro (@yPz) (And.intro (@yOv) (@yOw)))) (And.intro (And.intro (@yOx) (And.intro (@yOy) (@yOz))) (And.intro (@yNv) (And.intro (@yNw) (@yNx))))))) (And.intro (And.intro (And.intro (And.intro (And.intro (@yNy) (@yNz)) (And.intro (@yMv) (And.intro (@yMw) (@yMx)))) (And.intro (And.intro (@yMy) (And.intro (@yMz) (@yLv))) (And.intro (@yLw) (And.intro (@yLx) (@yLy))))) (And.intro (And.intro (And.intro (@yLz) (@yKv)) (And.intro (@yKw) (And.intro (@yKx) (@yKy)))) (And.intro (And.intro (@yKz) (And.intro (@yJv) (@yJw))) (And.intro (@yJx) (And.intro (@yJy) (@yJz)))))) (And.intro (And.intro (And.intro (And.intro (@yIv) (@yIw)) (And.intro (@yIx) (And.intro (@yIy) (@yIz)))) (And.intro (And.intro (@yHv) (And.intro (@zZy) (@zZz))) (And.intro (@yHw) (And.intro (@yHx) (@yHy))))) (And.intro (And.intro (And.intro (@yHz) (And.intro (@yGv) (@yGw))) (And.intro (@yGx) (And.intro (@yGy) (@yGz)))) (And.intro (And.intro (@yFv) (And.intro (@yFw) (@zYv))) (And.intro (@yFx) (And.intro (@yFy) (@zYw))))))))):=And.intro (And.intro (And.intro (And.intro (And.intro (And.intro (And.intro (@yXx) (@yXy)) (And.intro (@yXz) (And.intro (@yWv) (@yWw)))) (And.intro (And.intro (@yWx) (And.intro (@yWy) (@yWz))) (And.intro (@zWz) (And.intro (@ia_2) (@sz_2))))) (And.intro (And.intro (And.intro (@ia_3) (@sz_3)) (And.intro (@ia_4) (And.intro (@sz_4) (@yVv)))) (And.intro (And.intro (@yFz) (And.intro (@yVw) (@yEv))) (And.intro (@yVx) (And.intro (@yEw) (@yVy)))))) (And.intro (And.intro (And.intro (And.intro (@yEx) (@yVz)) (And.intro (@yEy) (And.intro (@yUv) (@yEz)))) (And.intro (And.intro (@yUw) (And.intro (@yDv) (@yUx))) (And.intro (@yDw) (And.intro (@yUy) (@yDx))))) (And.intro (And.intro (And.intro (@yUz) (@yDy)) (And.intro (@yTv) (And.intro (@zYy) (@yTw)))) (And.intro (And.intro (@yDz) (And.intro (@yTx) (@yCv))) (And.intro (@yTy) (And.intro (@yCw) (@yTz))))))) (And.intro (And.intro (And.intro (And.intro (And.intro (@yCx) (@ySv)) (And.intro (@yCy) (And.intro (@ySw) (@yCz)))) (And.intro (And.intro (@ySx) (And.intro (@yBv) (@ySy))) (And.intro (@yBw) (And.intro (@ySz) (@yBx))))) (And.intro (And.intro (And.intro (@yRv) (@yBy)) (And.intro (@zVv) (And.intro (@zUx) (@zVw)))) (And.intro (And.intro (@zUy) (And.intro (@zVx) (@zUz))) (And.intro (@zVy) (And.intro (@zTv) (@zVz)))))) (And.intro (And.intro (And.intro (And.intro (@zTw) (@zUv)) (And.intro (@zTx) (And.intro (@zUw) (@zTy)))) (And.intro (And.intro (@ze_2) (And.intro (@ze_3) (@ze_4))) (And.intro (@yBz) (And.intro (@yAv) (@yAw))))) (And.intro (And.intro (And.intro (@yAx) (And.intro (@yAy) (@yAz))) (And.intro (@zZv) (And.intro (@zZw) (@zZx)))) (And.intro (And.intro (@zTz) (And.intro (@zSz) (@zRv))) (And.intro (@zRw) (And.intro (@zRx) (@zRy)))))))) (And.intro (And.intro (And.intro (And.intro (And.intro (And.intro (@zRz) (@zQv)) (And.intro (@zQw) (And.intro (@zQx) (@zQy)))) (And.intro (And.intro (@zQz) (And.intro (@zPv) (@zPw))) (And.intro (@zPx) (And.intro (@zPy) (@zPz))))) (And.intro (And.intro (And.intro (@zOv) (@zOw)) (And.intro (@zOx) (And.intro (@zOy) (@zOz)))) (And.intro (And.intro (@zNv) (And.intro (@zNw) (@zNx))) (And.intro (@zNy) (And.intro (@zNz) (@zMv)))))) (And.intro (And.intro (And.intro (And.intro (@zMw) (@yRw)) (And.intro (@yRx) (And.intro (@yRy) (@yRz)))) (And.intro (And.intro (@yQv) (And.intro (@yQw) (@yQx))) (And.intro (@yQy) (And.intro (@yQz) (@yPv))))) (And.intro (And.intro (And.intro (@yPw) (And.intro (@yPx) (@yPy))) (And.intro (@yPz) (And.intro (@yOv) (@yOw)))) (And.intro (And.intro (@yOx) (And.intro (@yOy) (@yOz))) (And.intro (@yNv) (And.intro (@yNw) (@yNx))))))) (And.intro (And.intro (And.intro (And.intro (And.intro (@yNy) (@yNz)) (And.intro (@yMv) (And.intro (@yMw) (@yMx)))) (And.intro (And.intro (@yMy) (And.intro (@yMz) (@yLv))) (And.intro (@yLw) (And.intro (@yLx) (@yLy))))) (And.intro (And.intro (And.intro (@yLz) (@yKv)) (And.intro (@yKw) (And.intro (@yKx) (@yKy)))) (And.intro (And.intro (@yKz) (And.intro (@yJv) (@yJw))) (And.intro (@yJx) (And.intro (@yJy) (@yJz)))))) (And.intro (And.intro (And.intro (And.intro (@yIv) (@yIw)) (And.intro (@yIx) (And.intro (@yIy) (@yIz)))) (And.intro (And.intro (@yHv) (And.intro (@zZy) (@zZz))) (And.intro (@yHw) (And.intro (@yHx) (@yHy))))) (And.intro (And.intro (And.intro (@yHz) (And.intro (@yGv) (@yGw))) (And.intro (@yGx) (And.intro (@yGy) (@yGz)))) (And.intro (And.intro (@yFv) (And.intro (@yFw) (@zYv))) (And.intro (@yFx) (And.intro (@yFy) (@zYw))))))))
structure isT (T:Te) (x:Tr):Prop where
  f:T.f0≤x.f∧x.f≤T.f1
  t:T.t0≤x.t∧x.t≤T.t1
  s:T.s0≤x.s∧x.s≤T.s1
  o:T.o0≤x.o∧x.o≤T.o1
  b:T.b0≤x.b∧x.b≤T.b1
  r:T.r0≤x.r∧x.r≤T.r1
theorem isT_iff (T:Te) (x:Tr):isT T x ↔ ((T.f0≤x.f∧x.f≤T.f1)∧(T.t0≤x.t∧x.t≤T.t1)∧(T.s0≤x.s∧x.s≤T.s1)∧(T.o0≤x.o∧x.o≤T.o1)∧(T.b0≤x.b∧x.b≤T.b1)∧(T.r0≤x.r∧x.r≤T.r1)):=
  ⟨fun ⟨a,b,c,d,e,f⟩=>⟨a,b,c,d,e,f⟩,fun ⟨a,b,c,d,e,f⟩=>⟨a,b,c,d,e,f⟩⟩
instance (T:Te) (x:Tr):Decidable (isT T x):=decidable_of_iff _ (isT_iff T x).symm
theorem under37 : ∃ f0 f1 f2 f3 f4 f5:Field,Try.prog.underlying 37=some (.struct #[f0,f1,f2,f3,f4,f5])∧(f0.offset=0∧f1.offset=1∧f2.offset=2∧f3.offset=3∧f4.offset=4∧f5.offset=5)∧(f0.type=2∧f1.type=2∧f2.type=2∧f3.type=2∧f4.type=2∧f5.type=2) ∧
    (f0.name ≠ "_" ∧ f1.name ≠ "_" ∧ f2.name ≠ "_" ∧ f3.name ≠ "_" ∧ f4.name ≠ "_" ∧ f5.name ≠ "_"):=⟨_,_,_,_,_,_,Try.underlying37,⟨rfl,rfl,rfl,rfl,rfl,rfl⟩,⟨rfl,rfl,rfl,rfl,rfl,rfl⟩,by decide,by decide,by decide,by decide,by decide,by decide⟩
theorem neqT {X Y:Operand} (a0 a1 a2 a3 a4 a5 b0 b1 b2 b3 b4 b5:Int):binE Try.prog .neq 37 X Y (.agg [ii a0,ii a1,ii a2,ii a3,ii a4,ii a5]) (.agg [ii b0,ii b1,ii b2,ii b3,ii b4,ii b5])=some (.bool (!decide (a0=b0∧a1=b1∧a2=b2∧a3=b3∧a4=b4∧a5=b5))):=by
  obtain ⟨f0,f1,f2,f3,f4,f5,hu,⟨o0,o1,o2,o3,o4,o5⟩,⟨t0,t1,t2,t3,t4,t5⟩,n0,n1,n2,n3,n4,n5⟩:=under37
  have u:Try.prog.underlying 2=some (.int .i64):=Try.underlying2
  exact b_neq6 hu (by rw [t0];exact u) o0 n0 (by rw [t1];exact u) o1 n1 (by rw [t2];exact u) o2 n2 (by rw [t3];exact u) o3 n3 (by rw [t4];exact u) o4 n4 (by rw [t5];exact u) o5 n5 (by kernel_rfl) (by kernel_rfl)
theorem nearest (T:Te) (lv:AV) (hf:AV.cells lv=[lv]∧oneB lv=true) (x:Tr) (h:H) (wf:Wf h):(om Try.prog KK).call (.fn 45 [.agg [ii T.sp,ii T.lo,ii T.we,ii T.al,ii T.f0,ii T.f1,ii T.t0,ii T.t1,ii T.s0,ii T.s1,ii T.o0,ii T.o1,ii T.b0,ii T.b1,ii T.r0,ii T.r1,lv],.agg [ii x.f,ii x.t,ii x.s,ii x.o,ii x.b,ii x.r]]) h =
    .ok (.agg [ii (min (max x.f T.f0) T.f1),ii (min (max x.t T.t0) T.t1),ii (min (max x.s T.s0) T.s1),ii (min (max x.o T.o0) T.o1),ii (min (max x.b T.b0) T.b1),ii (min (max x.r T.r0) T.r1)]) h:=by
  obtain ⟨f1,f2⟩:=hf
  have c1 : ∀ u v n l w,w≤h.clock+l.length→(om Try.prog KK).call (.fn 67 [.agg [ii u,ii v],ii n]) (X h l w) = .ok (ii (min (max n u) v)) (X h l w):=fun u v n l w hw=>into u v n _ (wf.X hw)
  refine zWv (zLx (fn:=Try.f45) Try.func45 rfl rfl rfl rfl rfl ?_)
  simp only [zLz]
  (repeat' (first
  | (with_reducible first|refine zJw ?_|refine zHz ?_|refine zFz ?_|refine zEv ?_|refine zFy ?_|refine zJv ?_|refine zHy ?_|refine zCz ?_|refine zDw ?_|refine zCy ?_|refine zCv ?_|refine zEx ?_|refine zDz ?_|refine zCx ?_|refine zBy ?_|refine zEz ?_|refine zEy ?_|refine zAv ?_|refine zBz ?_)
  | refine zDy ?_|refine zEw rfl ?_|refine zJy ?_|refine zJx ?_
  | ((first|refine zGv rfl rfl rfl rfl rfl fun K_ hK_=>?_|refine zGw rfl rfl rfl rfl rfl fun K_ hK_=>?_);simp only [zAz,zDx,zGx,↓reduceIte,reduceCtorEq,Nat.reduceEqDiff,Bool.not_true,Bool.not_false];refine hK_ _ ?_;clear hK_ K_)
  | refine zDv (by decide) ?_
  | ((try first|refine zKy rfl rfl rfl ?_|refine zJz rfl rfl ?_|refine zKx rfl rfl rfl ?_|refine zIw rfl rfl ?_);(refine zIv fun Q_ hQ_=>?_;simp (disch:=first|omega|(simp only [List.length_cons,List.length_nil,List.length_append];omega)) only [bb,bp,zLz,↓reduceIte,reduceCtorEq,Nat.reduceEqDiff,Nat.reduceLT,Nat.reduceLeDiff,Nat.reduceAdd,Nat.reduceMul,Nat.reduceSub,Nat.reduceBEq,Int.reduceToNat,cond_true,cond_false,eq_self,beq_self_eq_true,f1,f2,zFw wf,zGy wf,zBw wf,zFx wf,zAy wf,zAx,tEvD10,zIx,zIy,zIz,zHv,zFv,zAw wf];first|(refine zCw (Q:=Q_) (fun hp_=>?_) (fun hp_=>?_) <;> first|(exfalso;omega)|(refine hQ_ _ _ ?_;clear hQ_ Q_))|(refine zBx (Q:=Q_) (fun hp_=>?_) (fun hp_=>?_) <;> first|(exfalso;omega)|(refine hQ_ _ _ ?_;clear hQ_ Q_))|(refine hQ_ _ _ ?_;clear hQ_ Q_)))
  | (refine zHx fun K_ hK_=>?_;simp (disch:=omega) only [zGz,zAz,zHw,↓reduceIte,reduceCtorEq,Nat.reduceEqDiff,Nat.reduceLT];refine hK_ _ ?_;clear hK_ K_)))
  refine zLy (List.replicate 35 .no++[.full,.full,.full]) (by kernel_rfl) ?_
  (repeat' (first
  | (with_reducible first|refine zJw ?_|refine zHz ?_|refine zFz ?_|refine zEv ?_|refine zFy ?_|refine zJv ?_|refine zHy ?_|refine zCz ?_|refine zDw ?_|refine zCy ?_|refine zCv ?_|refine zEx ?_|refine zDz ?_|refine zCx ?_|refine zBy ?_|refine zEz ?_|refine zEy ?_|refine zAv ?_|refine zBz ?_)
  | refine zDy ?_|refine zEw rfl ?_|refine zJy ?_|refine zJx ?_
  | ((first|refine zGv rfl rfl rfl rfl rfl fun K_ hK_=>?_|refine zGw rfl rfl rfl rfl rfl fun K_ hK_=>?_);simp only [zAz,zDx,zGx,↓reduceIte,reduceCtorEq,Nat.reduceEqDiff,Bool.not_true,Bool.not_false];refine hK_ _ ?_;clear hK_ K_)
  | refine zDv (by decide) ?_
  | ((try first|refine zKy rfl rfl rfl ?_|refine zJz rfl rfl ?_|refine zKx rfl rfl rfl ?_|refine zIw rfl rfl ?_);(refine zIv fun Q_ hQ_=>?_;simp (disch:=first|omega|(simp only [List.length_cons,List.length_nil,List.length_append];omega)) only [bb,bp,zLz,↓reduceIte,reduceCtorEq,Nat.reduceEqDiff,Nat.reduceLT,Nat.reduceLeDiff,Nat.reduceAdd,Nat.reduceMul,Nat.reduceSub,Nat.reduceBEq,Int.reduceToNat,cond_true,cond_false,eq_self,beq_self_eq_true,f1,f2,c1,zFw wf,zGy wf,zBw wf,zFx wf,zAy wf,zAx,tEvD10,zIx,zIy,zIz,zHv,zFv,zAw wf];first|(refine zCw (Q:=Q_) (fun hp_=>?_) (fun hp_=>?_) <;> first|(exfalso;omega)|(refine hQ_ _ _ ?_;clear hQ_ Q_))|(refine zBx (Q:=Q_) (fun hp_=>?_) (fun hp_=>?_) <;> first|(exfalso;omega)|(refine hQ_ _ _ ?_;clear hQ_ Q_))|(refine hQ_ _ _ ?_;clear hQ_ Q_)))
  | (refine zHx fun K_ hK_=>?_;simp (disch:=omega) only [zGz,zAz,zHw,↓reduceIte,reduceCtorEq,Nat.reduceEqDiff,Nat.reduceLT];refine hK_ _ ?_;clear hK_ K_)))
  refine zKz _ _ rfl (retc0 (by decide) (by simp (disch:=first|omega|(simp only [List.length_cons,List.length_nil,List.length_append];omega)) only [bb,bp,zLz,↓reduceIte,reduceCtorEq,Nat.reduceEqDiff,Nat.reduceLT,Nat.reduceLeDiff,Nat.reduceAdd,Nat.reduceMul,Nat.reduceSub,Nat.reduceBEq,Int.reduceToNat,cond_true,cond_false,eq_self,beq_self_eq_true,zBw wf,tEvD10,zIx,zIy,zIz,zHv,zFv,zAw wf];rfl)) ?_
  refine zKw rfl (by omega) ?_
  exact ⟨rfl,rfl⟩
theorem IsTrue (T:Te) (x:Tr) (h:H) (wf:Wf h):(om Try.prog KK).call (.fn 49 [.agg [ii T.sp,ii T.lo,ii T.we,ii T.al,ii T.f0,ii T.f1,ii T.t0,ii T.t1,ii T.s0,ii T.s1,ii T.o0,ii T.o1,ii T.b0,ii T.b1,ii T.r0,ii T.r1],.agg [ii x.f,ii x.t,ii x.s,ii x.o,ii x.b,ii x.r]]) h = .ok (.bool (decide (isT T x))) h:=by
  have c1 : ∀ n u v l w,w≤h.clock+l.length→(om Try.prog KK).call (.fn 42 [ii n,ii u,ii v]) (X h l w) = .ok (.bool (decide (u≤n∧n≤v))) (X h l w):=fun n u v l w hw=>between n u v _ (wf.X hw)
  have hiff:=isT_iff T x
  refine zWv (zLx (fn:=Try.f49) Try.func49 rfl rfl rfl rfl rfl ?_)
  simp only [zLz]
  (repeat' (first
  | (with_reducible first|refine zJw ?_|refine zHz ?_|refine zFz ?_|refine zEv ?_|refine zFy ?_|refine zJv ?_|refine zHy ?_|refine zCz ?_|refine zDw ?_|refine zCy ?_|refine zCv ?_|refine zEx ?_|refine zDz ?_|refine zCx ?_|refine zBy ?_|refine zEz ?_|refine zEy ?_|refine zAv ?_|refine zBz ?_)
  | refine zDy ?_|refine zEw rfl ?_|refine zJy ?_|refine zJx ?_
  | ((first|refine zGv rfl rfl rfl rfl rfl fun K_ hK_=>?_|refine zGw rfl rfl rfl rfl rfl fun K_ hK_=>?_);simp only [zAz,zDx,zGx,↓reduceIte,reduceCtorEq,Nat.reduceEqDiff,Bool.not_true,Bool.not_false];refine hK_ _ ?_;clear hK_ K_)
  | refine zDv (by decide) ?_
  | ((try first|refine zKy rfl rfl rfl ?_|refine zJz rfl rfl ?_|refine zKx rfl rfl rfl ?_|refine zIw rfl rfl ?_);(refine zIv fun Q_ hQ_=>?_;simp (disch:=first|omega|(simp only [List.length_cons,List.length_nil,List.length_append];omega)) only [bb,bp,zLz,↓reduceIte,reduceCtorEq,Nat.reduceEqDiff,Nat.reduceLT,Nat.reduceLeDiff,Nat.reduceAdd,Nat.reduceMul,Nat.reduceSub,Nat.reduceBEq,Int.reduceToNat,cond_true,cond_false,eq_self,beq_self_eq_true,c1,zFw wf,zGy wf,zBw wf,zFx wf,zAy wf,zAx,tEvD10,zIx,zIy,zIz,zHv,zFv,zAw wf];first|(refine zCw (Q:=Q_) (fun hp_=>?_) (fun hp_=>?_) <;> first|(exfalso;omega)|(refine hQ_ _ _ ?_;clear hQ_ Q_))|(refine zBx (Q:=Q_) (fun hp_=>?_) (fun hp_=>?_) <;> first|(exfalso;omega)|(refine hQ_ _ _ ?_;clear hQ_ Q_))|(refine hQ_ _ _ ?_;clear hQ_ Q_)))
  | (refine zHx fun K_ hK_=>?_;simp (disch:=omega) only [zGz,zAz,zHw,↓reduceIte,reduceCtorEq,Nat.reduceEqDiff,Nat.reduceLT];refine hK_ _ ?_;clear hK_ K_)))
  all_goals (refine zKz _ _ rfl (ret1 (by decide)) ?_;simp only [zAz,↓reduceIte,reduceCtorEq,Nat.reduceEqDiff];refine zKw rfl (by omega) ?_)
  all_goals first
    | exact ⟨by rw [decide_eq_true (hiff.2 ⟨by assumption,by assumption,by assumption,by assumption,by assumption,by assumption⟩)],rfl⟩
    | exact ⟨by rw [decide_eq_false (fun k=>by have:=hiff.1 k;omega)],rfl⟩

def meas (T:Te) (f:Int):Int:=min 1000000000 (20000000000 * f / (T.we * T.sp * T.sp))
def formed (x:Tr) (f:Int):Int:=(1000+x.o) * f / 1000
def coef (T:Te) (re cf:List Int) (x:Tr):Int:=meas T x.f * (1000 - x.b) / 1000 - formed x (fr re cf (mo T x.t))+formed x (fr re cf (sh T x.s))+x.r
theorem meas_in {T:Te} (k:okT T) {f:Int} (hf:0≤f):0≤meas T f∧meas T f≤1000000000:=by
  obtain ⟨-,-,-,-,p2,p3⟩:=k.prods
  have:=Int.ediv_nonneg (show 0≤20000000000 * f by omega) (show 0≤T.we * T.sp * T.sp by omega)
  unfold meas;omega

theorem formedC (a b:AV) (re cf:List Int) (k:okL re cf) (x:Tr) (ho:0≤x.o∧x.o≤1000) (n:Int) (hh:has re n) {h:H} (y:LineR h a b re cf) {L:List AO} {w' A B:Nat} (hw':w'≤h.clock+L.length)
    (hA:L[A]? = some (.cells (zBv [ii x.f,ii x.t,ii x.s,ii x.o,ii x.b,ii x.r]) 37)) (hB:L[B]? = some (.cells (zBv [.fn 39 [.agg [a,b]] []]) 69)) :
    (om Try.prog KK).call (.fn 68 [ii n,.ptr (nx h A) 0,.ptr (nx h B) 0]) (X h L w') = .ok (ii (formed x (fr re cf n))) (X h L w'):=by
  have wf0:=y.wf
  have get : ∀ {q o},L[q]? = some o → ∀ l:List AO,(L++l)[q]? = some o:=fun {q o} hq l=>by rw [List.getElem?_append_left (zSx hq),hq]
  have hlA : ∀ l w,load1 (nx h A) 3 (X (X h L w') l w)=some (ii x.o):=fun l w=>by rw [X_X,zGy wf0,get hA];rfl
  have hlB : ∀ l u,load1 (nx h B) 0 (X (X h L w') l u)=some (.fn 39 [.agg [a,b]] []):=fun l u=>by rw [X_X,zGy wf0,get hB];rfl
  have y':=y.up L w' hw'
  have c1 : ∀ l w,w≤(X h L w').clock+l.length→(om Try.prog KK).call (.fn 39 [.agg [a,b],ii n]) (X (X h L w') l w) = .ok (ii (fr re cf n)) (X (X h L w') l w):=fun l w hw=>friction a b re cf n _ (y'.up _ _ hw) k hh
  have wf:=y'.wf
  have hfb:=fr_in k hh
  clear hA hB get
  generalize X h L w'=hb at *
  generalize nx h A=pA at *
  generalize nx h B=pB at *
  have h2:=xEx (a:=1000+x.o) (x:=2000) ⟨by omega,by omega⟩ hfb
  unfold formed
  refine zWv (zLx (fn:=Try.f68) Try.func68 rfl rfl rfl rfl rfl ?_)
  simp only [zLz]
  (repeat' (first
  | (with_reducible first|refine zJw ?_|refine zHz ?_|refine zFz ?_|refine zEv ?_|refine zFy ?_|refine zJv ?_|refine zHy ?_|refine zCz ?_|refine zDw ?_|refine zCy ?_|refine zCv ?_|refine zEx ?_|refine zDz ?_|refine zCx ?_|refine zBy ?_|refine zEz ?_|refine zEy ?_|refine zAv ?_|refine zBz ?_)
  | refine zDy ?_|refine zEw rfl ?_|refine zJy ?_|refine zJx ?_
  | ((first|refine zGv rfl rfl rfl rfl rfl fun K_ hK_=>?_|refine zGw rfl rfl rfl rfl rfl fun K_ hK_=>?_);simp only [zAz,zDx,zGx,↓reduceIte,reduceCtorEq,Nat.reduceEqDiff,Bool.not_true,Bool.not_false];refine hK_ _ ?_;clear hK_ K_)
  | refine zDv (by decide) ?_
  | ((try first|refine zKy rfl rfl rfl ?_|refine zJz rfl rfl ?_|refine zKx rfl rfl rfl ?_|refine zIw rfl rfl ?_);(refine zIv fun Q_ hQ_=>?_;simp (disch:=first|omega|(simp only [List.length_cons,List.length_nil,List.length_append];omega)) only [bb,bp,zLz,↓reduceIte,reduceCtorEq,Nat.reduceEqDiff,Nat.reduceLT,Nat.reduceLeDiff,Nat.reduceAdd,Nat.reduceMul,Nat.reduceSub,Nat.reduceBEq,Int.reduceToNat,cond_true,cond_false,eq_self,beq_self_eq_true,zFw wf,zGy wf,zBw wf,zFx wf,zAy wf,zAx,tEvD10,zIx,zIy,zIz,zHv,zFv,zAw wf];first|(refine zCw (Q:=Q_) (fun hp_=>?_) (fun hp_=>?_) <;> first|(exfalso;omega)|(refine hQ_ _ _ ?_;clear hQ_ Q_))|(refine zBx (Q:=Q_) (fun hp_=>?_) (fun hp_=>?_) <;> first|(exfalso;omega)|(refine hQ_ _ _ ?_;clear hQ_ Q_))|(refine hQ_ _ _ ?_;clear hQ_ Q_)))
  | (refine zHx fun K_ hK_=>?_;simp (disch:=omega) only [zGz,zAz,zHw,↓reduceIte,reduceCtorEq,Nat.reduceEqDiff,Nat.reduceLT];refine hK_ _ ?_;clear hK_ K_)))
  refine zLy [.no,.no,.no,.no,.no,.no,.full,.full,.full] (by kernel_rfl) ?_
  (repeat' (first
  | (with_reducible first|refine zJw ?_|refine zHz ?_|refine zFz ?_|refine zEv ?_|refine zFy ?_|refine zJv ?_|refine zHy ?_|refine zCz ?_|refine zDw ?_|refine zCy ?_|refine zCv ?_|refine zEx ?_|refine zDz ?_|refine zCx ?_|refine zBy ?_|refine zEz ?_|refine zEy ?_|refine zAv ?_|refine zBz ?_)
  | refine zDy ?_|refine zEw rfl ?_|refine zJy ?_|refine zJx ?_
  | ((first|refine zGv rfl rfl rfl rfl rfl fun K_ hK_=>?_|refine zGw rfl rfl rfl rfl rfl fun K_ hK_=>?_);simp only [zAz,zDx,zGx,↓reduceIte,reduceCtorEq,Nat.reduceEqDiff,Bool.not_true,Bool.not_false];refine hK_ _ ?_;clear hK_ K_)
  | refine zDv (by decide) ?_
  | ((try first|refine zKy rfl rfl rfl ?_|refine zJz rfl rfl ?_|refine zKx rfl rfl rfl ?_|refine zIw rfl rfl ?_);(refine zIv fun Q_ hQ_=>?_;simp (disch:=first|omega|(simp only [List.length_cons,List.length_nil,List.length_append];omega)) only [bb,bp,zLz,↓reduceIte,reduceCtorEq,Nat.reduceEqDiff,Nat.reduceLT,Nat.reduceLeDiff,Nat.reduceAdd,Nat.reduceMul,Nat.reduceSub,Nat.reduceBEq,Int.reduceToNat,cond_true,cond_false,eq_self,beq_self_eq_true,hlA,hlB,c1,xHz,b_quo (show (1000:Int)≠0 by decide),xEv (n:=(1000+x.o) * fr re cf n) (g:=1000) ⟨h2.1,by omega⟩ (by decide),zFw wf,zGy wf,zBw wf,zFx wf,zAy wf,zAx,tEvD10,zIx,zIy,zIz,zHv,zFv,zAw wf];first|(refine zCw (Q:=Q_) (fun hp_=>?_) (fun hp_=>?_) <;> first|(exfalso;omega)|(refine hQ_ _ _ ?_;clear hQ_ Q_))|(refine zBx (Q:=Q_) (fun hp_=>?_) (fun hp_=>?_) <;> first|(exfalso;omega)|(refine hQ_ _ _ ?_;clear hQ_ Q_))|(refine hQ_ _ _ ?_;clear hQ_ Q_)))
  | (refine zHx fun K_ hK_=>?_;simp (disch:=omega) only [zGz,zAz,zHw,↓reduceIte,reduceCtorEq,Nat.reduceEqDiff,Nat.reduceLT];refine hK_ _ ?_;clear hK_ K_)))
  (refine zKz _ _ rfl (ret1 (by decide)) ?_;simp only [zAz,↓reduceIte,reduceCtorEq,Nat.reduceEqDiff];refine zKw rfl (by omega) ?_)
  exact ⟨rfl,rfl⟩

theorem coefficient (T:Te) (kT:okT T) (lv:AV) (hf:AV.cells lv=[lv]∧oneB lv=true) (a b:AV) (re cf:List Int) (k:okL re cf) (x:Tr) (kx:isT T x) (h1:has re (mo T x.t)) (h2:has re (sh T x.s)) (h:H) (y:LineR h a b re cf) :
    (om Try.prog KK).call (.fn 48 [.agg [ii T.sp,ii T.lo,ii T.we,ii T.al,ii T.f0,ii T.f1,ii T.t0,ii T.t1,ii T.s0,ii T.s1,ii T.o0,ii T.o1,ii T.b0,ii T.b1,ii T.r0,ii T.r1,lv],.agg [ii x.f,ii x.t,ii x.s,ii x.o,ii x.b,ii x.r],.fn 39 [.agg [a,b]] []]) h = .ok (ii (coef T re cf x)) h:=by
  have wf:=y.wf
  obtain ⟨f1,f2⟩:=hf
  obtain ⟨-,-,-,-,p2,p3⟩:=kT.prods
  have hz:T.we * T.sp * T.sp≠0:=by omega
  have kf:=kT.f
  have kt:=kT.t
  have ks:=kT.s
  have ko:=kT.o
  have kb:=kT.b
  have kr:=kT.r
  have xf:=kx.f
  have xt:=kx.t
  have xs:=kx.s
  have xo:=kx.o
  have xb:=kx.b
  have xr:=kx.r
  have c1 : ∀ l w,w≤h.clock+l.length→(om Try.prog KK).call (.fn 46 [.agg [ii T.sp,ii T.lo,ii T.we,ii T.al,ii T.f0,ii T.f1,ii T.t0,ii T.t1,ii T.s0,ii T.s1,ii T.o0,ii T.o1,ii T.b0,ii T.b1,ii T.r0,ii T.r1,lv],ii x.t]) (X h l w) = .ok (ii (mo T x.t)) (X h l w):=fun l w hw=>model T kT lv x.t (by omega) _ (wf.X hw)
  have c2 : ∀ l w,w≤h.clock+l.length→(om Try.prog KK).call (.fn 47 [.agg [ii T.sp,ii T.lo,ii T.we,ii T.al,ii T.f0,ii T.f1,ii T.t0,ii T.t1,ii T.s0,ii T.s1,ii T.o0,ii T.o1,ii T.b0,ii T.b1,ii T.r0,ii T.r1,lv],ii x.s]) (X h l w) = .ok (ii (sh T x.s)) (X h l w):=fun l w hw=>shipN T kT lv x.s (by omega) _ (wf.X hw)
  have c3 : ∀ n,has re n → ∀ w,w≤h.clock+3→(om Try.prog KK).call (.fn 68 [ii n,.ptr (nx h 1) 0,.ptr (nx h 2) 0]) (X h [.cells (zBv [ii T.sp,ii T.lo,ii T.we,ii T.al,ii T.f0,ii T.f1,ii T.t0,ii T.t1,ii T.s0,ii T.s1,ii T.o0,ii T.o1,ii T.b0,ii T.b1,ii T.r0,ii T.r1,lv]) 76,.cells (zBv [ii x.f,ii x.t,ii x.s,ii x.o,ii x.b,ii x.r]) 37,.cells (zBv [.fn 39 [.agg [a,b]] []]) 69] w) = .ok (ii (formed x (fr re cf n))) (X h [.cells (zBv [ii T.sp,ii T.lo,ii T.we,ii T.al,ii T.f0,ii T.f1,ii T.t0,ii T.t1,ii T.s0,ii T.s1,ii T.o0,ii T.o1,ii T.b0,ii T.b1,ii T.r0,ii T.r1,lv]) 76,.cells (zBv [ii x.f,ii x.t,ii x.s,ii x.o,ii x.b,ii x.r]) 37,.cells (zBv [.fn 39 [.agg [a,b]] []]) 69] w):=
    fun n hn w hw=>formedC a b re cf k x (by omega) n hn y (A:=1) (B:=2) hw rfl rfl
  have c4:=c3 _ h1
  have c5:=c3 _ h2
  have hm:=meas_in kT (f:=x.f) (by omega)
  have hm2:=xEx hm (b:=1000 - x.b) (y:=1000) ⟨by omega,by omega⟩
  have hme:min (20000000000 * x.f / (T.we * T.sp * T.sp)) 1000000000=meas T x.f:=by unfold meas;omega
  have hd2:=Int.ediv_nonneg hm2.1 (show (0:Int)≤1000 by decide)
  have hd3:meas T x.f * (1000 - x.b) / 1000≤meas T x.f * (1000 - x.b):=Int.ediv_le_self _ hm2.1
  have fb : ∀ n,has re n→0≤formed x (fr re cf n)∧formed x (fr re cf n)≤200000000:=fun n hn=>by
    have:=xEx (a:=1000+x.o) (x:=2000) ⟨by omega,by omega⟩ (fr_in k hn)
    unfold formed
    have h3:=Int.ediv_nonneg this.1 (show (0:Int)≤1000 by decide)
    have h4:(1000+x.o) * fr re cf n / 1000≤_:=Int.ediv_le_self _ this.1
    omega
  have fb1:=fb _ h1
  have fb2:=fb _ h2
  unfold coef
  refine zWv (zLx (fn:=Try.f48) Try.func48 rfl rfl rfl rfl rfl ?_)
  simp only [zLz]
  (repeat' (first
  | (with_reducible first|refine zJw ?_|refine zHz ?_|refine zFz ?_|refine zEv ?_|refine zFy ?_|refine zJv ?_|refine zHy ?_|refine zCz ?_|refine zDw ?_|refine zCy ?_|refine zCv ?_|refine zEx ?_|refine zDz ?_|refine zCx ?_|refine zBy ?_|refine zEz ?_|refine zEy ?_|refine zAv ?_|refine zBz ?_)
  | refine zDy ?_|refine zEw rfl ?_|refine zJy ?_|refine zJx ?_
  | ((first|refine zGv rfl rfl rfl rfl rfl fun K_ hK_=>?_|refine zGw rfl rfl rfl rfl rfl fun K_ hK_=>?_);simp only [zAz,zDx,zGx,↓reduceIte,reduceCtorEq,Nat.reduceEqDiff,Bool.not_true,Bool.not_false];refine hK_ _ ?_;clear hK_ K_)
  | refine zDv (by decide) ?_
  | ((try first|refine zKy rfl rfl rfl ?_|refine zJz rfl rfl ?_|refine zKx rfl rfl rfl ?_|refine zIw rfl rfl ?_);(refine zIv fun Q_ hQ_=>?_;simp (disch:=first|omega|(simp only [List.length_cons,List.length_nil,List.length_append];omega)) only [bb,bp,zLz,↓reduceIte,reduceCtorEq,Nat.reduceEqDiff,Nat.reduceLT,Nat.reduceLeDiff,Nat.reduceAdd,Nat.reduceMul,Nat.reduceSub,Nat.reduceBEq,Int.reduceToNat,cond_true,cond_false,eq_self,beq_self_eq_true,f1,f2,hme,bi_min,b_quo hz,b_quo (show (1000:Int)≠0 by decide),xEv (n:=20000000000 * x.f) (g:=T.we * T.sp * T.sp) ⟨by omega,by omega⟩ (by omega),xEv (n:=meas T x.f * (1000 - x.b)) (g:=1000) ⟨hm2.1,by omega⟩ (by decide),zFw wf,zGy wf,zBw wf,zFx wf,zAy wf,zAx,tEvD10,zIx,zIy,zIz,zHv,zFv,zAw wf];first|(refine zCw (Q:=Q_) (fun hp_=>?_) (fun hp_=>?_) <;> first|(exfalso;omega)|(refine hQ_ _ _ ?_;clear hQ_ Q_))|(refine zBx (Q:=Q_) (fun hp_=>?_) (fun hp_=>?_) <;> first|(exfalso;omega)|(refine hQ_ _ _ ?_;clear hQ_ Q_))|(refine hQ_ _ _ ?_;clear hQ_ Q_)))
  | (refine zHx fun K_ hK_=>?_;simp (disch:=omega) only [zGz,zAz,zHw,↓reduceIte,reduceCtorEq,Nat.reduceEqDiff,Nat.reduceLT];refine hK_ _ ?_;clear hK_ K_)))
  refine zLy (List.replicate 17 .no++[.full,.full]) (by kernel_rfl) ?_
  clear c3 fb
  generalize meas T x.f * (1000 - x.b) / 1000=M at *
  generalize formed x (fr re cf (mo T x.t))=F1 at *
  generalize formed x (fr re cf (sh T x.s))=F2 at *
  (repeat' (first
  | (with_reducible first|refine zJw ?_|refine zHz ?_|refine zFz ?_|refine zEv ?_|refine zFy ?_|refine zJv ?_|refine zHy ?_|refine zCz ?_|refine zDw ?_|refine zCy ?_|refine zCv ?_|refine zEx ?_|refine zDz ?_|refine zCx ?_|refine zBy ?_|refine zEz ?_|refine zEy ?_|refine zAv ?_|refine zBz ?_)
  | refine zDy ?_|refine zEw rfl ?_|refine zJy ?_|refine zJx ?_
  | ((first|refine zGv rfl rfl rfl rfl rfl fun K_ hK_=>?_|refine zGw rfl rfl rfl rfl rfl fun K_ hK_=>?_);simp only [zAz,zDx,zGx,↓reduceIte,reduceCtorEq,Nat.reduceEqDiff,Bool.not_true,Bool.not_false];refine hK_ _ ?_;clear hK_ K_)
  | refine zDv (by decide) ?_
  | ((try first|refine zKy rfl rfl rfl ?_|refine zJz rfl rfl ?_|refine zKx rfl rfl rfl ?_|refine zIw rfl rfl ?_);(refine zIv fun Q_ hQ_=>?_;simp (disch:=first|omega|(simp only [List.length_cons,List.length_nil,List.length_append];omega)) only [bb,bp,zLz,↓reduceIte,reduceCtorEq,Nat.reduceEqDiff,Nat.reduceLT,Nat.reduceLeDiff,Nat.reduceAdd,Nat.reduceMul,Nat.reduceSub,Nat.reduceBEq,Int.reduceToNat,cond_true,cond_false,eq_self,beq_self_eq_true,f1,f2,c1,c2,c4,c5,xHz,zFw wf,zGy wf,zBw wf,zFx wf,zAy wf,zAx,tEvD10,zIx,zIy,zIz,zHv,zFv,zAw wf];first|(refine zCw (Q:=Q_) (fun hp_=>?_) (fun hp_=>?_) <;> first|(exfalso;omega)|(refine hQ_ _ _ ?_;clear hQ_ Q_))|(refine zBx (Q:=Q_) (fun hp_=>?_) (fun hp_=>?_) <;> first|(exfalso;omega)|(refine hQ_ _ _ ?_;clear hQ_ Q_))|(refine hQ_ _ _ ?_;clear hQ_ Q_)))
  | (refine zHx fun K_ hK_=>?_;simp (disch:=omega) only [zGz,zAz,zHw,↓reduceIte,reduceCtorEq,Nat.reduceEqDiff,Nat.reduceLT];refine hK_ _ ?_;clear hK_ K_)))
  (refine zKz _ _ rfl (ret1 (by decide)) ?_;simp only [zAz,↓reduceIte,reduceCtorEq,Nat.reduceEqDiff];refine zKw rfl (by omega) ?_)
  exact ⟨rfl,rfl⟩
end Go.Proofs.Ythaleckfgcgegaa
end

section
namespace Go.Proofs.Ythaleckfgcgegaa
open Go.Ev
set_option maxRecDepth 100000
set_option linter.unusedSimpArgs false
set_option linter.unusedVariables false
set_option maxHeartbeats 2000000
theorem tEvD11 :type_of% (And.intro (And.intro (And.intro (And.intro (And.intro (And.intro (And.intro (@yXx) (@yXy)) (And.intro (@yXz) (And.intro (@yWv) (@yWw)))) (And.intro (And.intro (@yWx) (And.intro (@yWy) (@yWz))) (And.intro (@zWz) (And.intro (@ia_2) (@sz_2))))) (And.intro (And.intro (And.intro (@ia_3) (@sz_3)) (And.intro (@ia_4) (And.intro (@sz_4) (@yVv)))) (And.intro (And.intro (@yFz) (And.intro (@yVw) (@yEv))) (And.intro (@yVx) (And.intro (@yEw) (@yVy)))))) (And.intro (And.intro (And.intro (And.intro (@yEx) (@yVz)) (And.intro (@yEy) (And.intro (@yUv) (@yEz)))) (And.intro (And.intro (@yUw) (And.intro (@yDv) (@yUx))) (And.intro (@yDw) (And.intro (@yUy) (@yDx))))) (And.intro (And.intro (And.intro (@yUz) (@yDy)) (And.intro (@yTv) (And.intro (@zYy) (@yTw)))) (And.intro (And.intro (@yDz) (And.intro (@yTx) (@yCv))) (And.intro (@yTy) (And.intro (@yCw) (@yTz))))))) (And.intro (And.intro (And.intro (And.intro (And.intro (@yCx) (@ySv)) (And.intro (@yCy) (And.intro (@ySw) (@yCz)))) (And.intro (And.intro (@ySx) (And.intro (@yBv) (@ySy))) (And.intro (@yBw) (And.intro (@ySz) (@yBx))))) (And.intro (And.intro (And.intro (@yRv) (@yBy)) (And.intro (@zVv) (And.intro (@zUx) (@zVw)))) (And.intro (And.intro (@zUy) (And.intro (@zVx) (@zUz))) (And.intro (@zVy) (And.intro (@zTv) (@zVz)))))) (And.intro (And.intro (And.intro (And.intro (@zTw) (@zUv)) (And.intro (@zTx) (And.intro (@zUw) (@zTy)))) (And.intro (And.intro (@ze_2) (And.intro (@ze_3) (@ze_4))) (And.intro (@yBz) (And.intro (@yAv) (@yAw))))) (And.intro (And.intro (And.intro (@yAx) (And.intro (@yAy) (@yAz))) (And.intro (@zZv) (And.intro (@zZw) (@zZx)))) (And.intro (And.intro (@zTz) (And.intro (@zSz) (@zRv))) (And.intro (@zRw) (And.intro (@zRx) (@zRy)))))))) (And.intro (And.intro (And.intro (And.intro (And.intro (And.intro (@zRz) (@zQv)) (And.intro (@zQw) (And.intro (@zQx) (@zQy)))) (And.intro (And.intro (@zQz) (And.intro (@zPv) (@zPw))) (And.intro (@zPx) (And.intro (@zPy) (@zPz))))) (And.intro (And.intro (And.intro (@zOv) (@zOw)) (And.intro (@zOx) (And.intro (@zOy) (@zOz)))) (And.intro (And.intro (@zNv) (And.intro (@zNw) (@zNx))) (And.intro (@zNy) (And.intro (@zNz) (@zMv)))))) (And.intro (And.intro (And.intro (And.intro (@zMw) (@yRw)) (And.intro (@yRx) (And.intro (@yRy) (@yRz)))) (And.intro (And.intro (@yQv) (And.intro (@yQw) (@yQx))) (And.intro (@yQy) (And.intro (@yQz) (@yPv))))) (And.intro (And.intro (And.intro (@yPw) (And.intro (@yPx) (@yPy))) (And.intro (@yPz) (And.intro (@yOv) (@yOw)))) (And.intro (And.intro (@yOx) (And.intro (@yOy) (@yOz))) (And.intro (@yNv) (And.intro (@yNw) (@yNx))))))) (And.intro (And.intro (And.intro (And.intro (And.intro (@yNy) (@yNz)) (And.intro (@yMv) (And.intro (@yMw) (@yMx)))) (And.intro (And.intro (@yMy) (And.intro (@yMz) (@yLv))) (And.intro (@yLw) (And.intro (@yLx) (@yLy))))) (And.intro (And.intro (And.intro (@yLz) (@yKv)) (And.intro (@yKw) (And.intro (@yKx) (@yKy)))) (And.intro (And.intro (@yKz) (And.intro (@yJv) (@yJw))) (And.intro (@yJx) (And.intro (@yJy) (@yJz)))))) (And.intro (And.intro (And.intro (And.intro (@yIv) (@yIw)) (And.intro (@yIx) (And.intro (@yIy) (@yIz)))) (And.intro (And.intro (@yHv) (And.intro (@zZy) (@zZz))) (And.intro (@yHw) (And.intro (@yHx) (@yHy))))) (And.intro (And.intro (And.intro (@yHz) (And.intro (@yGv) (@yGw))) (And.intro (@yGx) (And.intro (@yGy) (@yGz)))) (And.intro (And.intro (@yFv) (And.intro (@yFw) (@zYv))) (And.intro (@yFx) (And.intro (@yFy) (@zYw))))))))):=And.intro (And.intro (And.intro (And.intro (And.intro (And.intro (And.intro (@yXx) (@yXy)) (And.intro (@yXz) (And.intro (@yWv) (@yWw)))) (And.intro (And.intro (@yWx) (And.intro (@yWy) (@yWz))) (And.intro (@zWz) (And.intro (@ia_2) (@sz_2))))) (And.intro (And.intro (And.intro (@ia_3) (@sz_3)) (And.intro (@ia_4) (And.intro (@sz_4) (@yVv)))) (And.intro (And.intro (@yFz) (And.intro (@yVw) (@yEv))) (And.intro (@yVx) (And.intro (@yEw) (@yVy)))))) (And.intro (And.intro (And.intro (And.intro (@yEx) (@yVz)) (And.intro (@yEy) (And.intro (@yUv) (@yEz)))) (And.intro (And.intro (@yUw) (And.intro (@yDv) (@yUx))) (And.intro (@yDw) (And.intro (@yUy) (@yDx))))) (And.intro (And.intro (And.intro (@yUz) (@yDy)) (And.intro (@yTv) (And.intro (@zYy) (@yTw)))) (And.intro (And.intro (@yDz) (And.intro (@yTx) (@yCv))) (And.intro (@yTy) (And.intro (@yCw) (@yTz))))))) (And.intro (And.intro (And.intro (And.intro (And.intro (@yCx) (@ySv)) (And.intro (@yCy) (And.intro (@ySw) (@yCz)))) (And.intro (And.intro (@ySx) (And.intro (@yBv) (@ySy))) (And.intro (@yBw) (And.intro (@ySz) (@yBx))))) (And.intro (And.intro (And.intro (@yRv) (@yBy)) (And.intro (@zVv) (And.intro (@zUx) (@zVw)))) (And.intro (And.intro (@zUy) (And.intro (@zVx) (@zUz))) (And.intro (@zVy) (And.intro (@zTv) (@zVz)))))) (And.intro (And.intro (And.intro (And.intro (@zTw) (@zUv)) (And.intro (@zTx) (And.intro (@zUw) (@zTy)))) (And.intro (And.intro (@ze_2) (And.intro (@ze_3) (@ze_4))) (And.intro (@yBz) (And.intro (@yAv) (@yAw))))) (And.intro (And.intro (And.intro (@yAx) (And.intro (@yAy) (@yAz))) (And.intro (@zZv) (And.intro (@zZw) (@zZx)))) (And.intro (And.intro (@zTz) (And.intro (@zSz) (@zRv))) (And.intro (@zRw) (And.intro (@zRx) (@zRy)))))))) (And.intro (And.intro (And.intro (And.intro (And.intro (And.intro (@zRz) (@zQv)) (And.intro (@zQw) (And.intro (@zQx) (@zQy)))) (And.intro (And.intro (@zQz) (And.intro (@zPv) (@zPw))) (And.intro (@zPx) (And.intro (@zPy) (@zPz))))) (And.intro (And.intro (And.intro (@zOv) (@zOw)) (And.intro (@zOx) (And.intro (@zOy) (@zOz)))) (And.intro (And.intro (@zNv) (And.intro (@zNw) (@zNx))) (And.intro (@zNy) (And.intro (@zNz) (@zMv)))))) (And.intro (And.intro (And.intro (And.intro (@zMw) (@yRw)) (And.intro (@yRx) (And.intro (@yRy) (@yRz)))) (And.intro (And.intro (@yQv) (And.intro (@yQw) (@yQx))) (And.intro (@yQy) (And.intro (@yQz) (@yPv))))) (And.intro (And.intro (And.intro (@yPw) (And.intro (@yPx) (@yPy))) (And.intro (@yPz) (And.intro (@yOv) (@yOw)))) (And.intro (And.intro (@yOx) (And.intro (@yOy) (@yOz))) (And.intro (@yNv) (And.intro (@yNw) (@yNx))))))) (And.intro (And.intro (And.intro (And.intro (And.intro (@yNy) (@yNz)) (And.intro (@yMv) (And.intro (@yMw) (@yMx)))) (And.intro (And.intro (@yMy) (And.intro (@yMz) (@yLv))) (And.intro (@yLw) (And.intro (@yLx) (@yLy))))) (And.intro (And.intro (And.intro (@yLz) (@yKv)) (And.intro (@yKw) (And.intro (@yKx) (@yKy)))) (And.intro (And.intro (@yKz) (And.intro (@yJv) (@yJw))) (And.intro (@yJx) (And.intro (@yJy) (@yJz)))))) (And.intro (And.intro (And.intro (And.intro (@yIv) (@yIw)) (And.intro (@yIx) (And.intro (@yIy) (@yIz)))) (And.intro (And.intro (@yHv) (And.intro (@zZy) (@zZz))) (And.intro (@yHw) (And.intro (@yHx) (@yHy))))) (And.intro (And.intro (And.intro (@yHz) (And.intro (@yGv) (@yGw))) (And.intro (@yGx) (And.intro (@yGy) (@yGz)))) (And.intro (And.intro (@yFv) (And.intro (@yFw) (@zYv))) (And.intro (@yFx) (And.intro (@yFy) (@zYw))))))))
def inR (T:Te) (re:List Int) (x:Tr):Prop:=has re (mo T x.t)∧has re (sh T x.s)
instance (T:Te) (re:List Int) (x:Tr):Decidable (inR T re x):=by unfold inR;infer_instance
def shipErr (T:Te) (re cf:List Int) (x:Tr):Int:=if ¬ okT T then 2 else if lineErr re cf≠0 then lineErr re cf else if ¬ isT T x then 3 else if ¬ inR T re x then 19 else 0
def shipVal (T:Te) (re cf:List Int) (x:Tr):Int:=if okT T∧lineErr re cf=0∧isT T x∧inR T re x then coef T re cf x else 0
theorem ship1 {T:Te} {re cf:List Int} {x:Tr} (k : ¬ okT T):shipErr T re cf x=2∧shipVal T re cf x=0:=by simp [shipErr,shipVal,k]
theorem ship2 {T:Te} {re cf:List Int} {x:Tr} (k:okT T) (h1 : ¬ lineErr re cf=0):shipErr T re cf x=lineErr re cf∧shipVal T re cf x=0:=by simp [shipErr,shipVal,k,h1]
theorem ship3 {T:Te} {re cf:List Int} {x:Tr} (k:okT T) (h1:lineErr re cf=0) (h2 : ¬ isT T x):shipErr T re cf x=3∧shipVal T re cf x=0:=by simp [shipErr,shipVal,k,h1,h2]
theorem ship4 {T:Te} {re cf:List Int} {x:Tr} (k:okT T) (h1:lineErr re cf=0) (h2:isT T x) (h3 : ¬ inR T re x):shipErr T re cf x=19∧shipVal T re cf x=0:=by simp [shipErr,shipVal,k,h1,h2,h3]
theorem ship5 {T:Te} {re cf:List Int} {x:Tr} (k:okT T) (h1:lineErr re cf=0) (h2:isT T x) (h3:inR T re x):shipErr T re cf x=0∧shipVal T re cf x=coef T re cf x:=by simp [shipErr,shipVal,k,h1,h2,h3]

theorem Ship (T:Te) (a b:AV) (re cf:List Int) (x:Tr) (h:H) (y:LineR h a b re cf):(om Try.prog KK).call (.fn 21 [.agg [ii T.sp,ii T.lo,ii T.we,ii T.al,ii T.f0,ii T.f1,ii T.t0,ii T.t1,ii T.s0,ii T.s1,ii T.o0,ii T.o1,ii T.b0,ii T.b1,ii T.r0,ii T.r1],.agg [a,b],.agg [ii x.f,ii x.t,ii x.s,ii x.o,ii x.b,ii x.r]]) h = .ok (.tup [ii (shipVal T re cf x),ii (shipErr T re cf x)]) h:=by
  have wf:=y.wf
  obtain ⟨⟨fa,fa'⟩,⟨fb,fb'⟩⟩:=y.flats
  refine zWv (zLx (fn:=Try.f21) Try.func21 rfl rfl rfl rfl rfl ?_)
  simp only [zLz]
  by_cases k:okT T
  · have e0:=yYy k
    have kt:=k.t
    have ks:=k.s
    by_cases hz:lineErr re cf=0
    · have kl:=xAw.1 hz
      have d1 : ∀ l w,w≤h.clock+l.length→(om Try.prog KK).call (.fn 45 [.agg [ii T.sp,ii T.lo,ii T.we,ii T.al,ii T.f0,ii T.f1,ii T.t0,ii T.t1,ii T.s0,ii T.s1,ii T.o0,ii T.o1,ii T.b0,ii T.b1,ii T.r0,ii T.r1,.nils],.agg [ii x.f,ii x.t,ii x.s,ii x.o,ii x.b,ii x.r]]) (X h l w) = .ok (.agg [ii (min (max x.f T.f0) T.f1),ii (min (max x.t T.t0) T.t1),ii (min (max x.s T.s0) T.s1),ii (min (max x.o T.o0) T.o1),ii (min (max x.b T.b0) T.b1),ii (min (max x.r T.r0) T.r1)]) (X h l w):=
        fun l w hw=>nearest T .nils ⟨rfl,rfl⟩ x _ (wf.X hw)
      (repeat' (first
  | (with_reducible first|refine zJw ?_|refine zHz ?_|refine zFz ?_|refine zEv ?_|refine zFy ?_|refine zJv ?_|refine zHy ?_|refine zCz ?_|refine zDw ?_|refine zCy ?_|refine zCv ?_|refine zEx ?_|refine zDz ?_|refine zCx ?_|refine zBy ?_|refine zEz ?_|refine zEy ?_|refine zAv ?_|refine zBz ?_)
  | refine zDy ?_|refine zEw rfl ?_|refine zJy ?_|refine zJx ?_
  | ((first|refine zGv rfl rfl rfl rfl rfl fun K_ hK_=>?_|refine zGw rfl rfl rfl rfl rfl fun K_ hK_=>?_);simp only [zAz,zDx,zGx,↓reduceIte,reduceCtorEq,Nat.reduceEqDiff,Bool.not_true,Bool.not_false];refine hK_ _ ?_;clear hK_ K_)
  | refine zDv (by decide) ?_
  | ((try first|refine zKy rfl rfl rfl ?_|refine zJz rfl rfl ?_|refine zKx rfl rfl rfl ?_|refine zIw rfl rfl ?_);(refine zIv fun Q_ hQ_=>?_;simp (disch:=first|omega|(simp only [List.length_cons,List.length_nil,List.length_append];omega)) only [bb,bp,zLz,↓reduceIte,reduceCtorEq,Nat.reduceEqDiff,Nat.reduceLT,Nat.reduceLeDiff,Nat.reduceAdd,Nat.reduceMul,Nat.reduceSub,Nat.reduceBEq,Int.reduceToNat,cond_true,cond_false,eq_self,beq_self_eq_true,fa,fb,fa',fb',zFw wf,zGy wf,zBw wf,zFx wf,zAy wf,zAx,tEvD11,zIx,zIy,zIz,zHv,zFv,zAw wf];first|(refine zCw (Q:=Q_) (fun hp_=>?_) (fun hp_=>?_) <;> first|(exfalso;omega)|(refine hQ_ _ _ ?_;clear hQ_ Q_))|(refine zBx (Q:=Q_) (fun hp_=>?_) (fun hp_=>?_) <;> first|(exfalso;omega)|(refine hQ_ _ _ ?_;clear hQ_ Q_))|(refine hQ_ _ _ ?_;clear hQ_ Q_)|(refine zLv ((CheckTest T _ (wf.X (Nat.le_add_right _ _))).trans (by rw [e0])) ?_;refine hQ_ _ _ ?_;clear hQ_ Q_)|(refine zLv ((CheckLine a b re cf _ (y.up _ _ (by simp only [List.length_append,List.length_cons,List.length_nil];omega))).trans (by rw [hz])) ?_;refine hQ_ _ _ ?_;clear hQ_ Q_)))
  | (refine zHx fun K_ hK_=>?_;simp (disch:=omega) only [zGz,zAz,zHw,↓reduceIte,reduceCtorEq,Nat.reduceEqDiff,Nat.reduceLT];refine hK_ _ ?_;clear hK_ K_)))
      refine zLy [.no,.no,.no,.no,.no,.no,.soft [4],.full] (by kernel_rfl) ?_
      (repeat' (first
  | (with_reducible first|refine zJw ?_|refine zHz ?_|refine zFz ?_|refine zEv ?_|refine zFy ?_|refine zJv ?_|refine zHy ?_|refine zCz ?_|refine zDw ?_|refine zCy ?_|refine zCv ?_|refine zEx ?_|refine zDz ?_|refine zCx ?_|refine zBy ?_|refine zEz ?_|refine zEy ?_|refine zAv ?_|refine zBz ?_)
  | refine zDy ?_|refine zEw rfl ?_|refine zJy ?_|refine zJx ?_
  | ((first|refine zGv rfl rfl rfl rfl rfl fun K_ hK_=>?_|refine zGw rfl rfl rfl rfl rfl fun K_ hK_=>?_);simp only [zAz,zDx,zGx,↓reduceIte,reduceCtorEq,Nat.reduceEqDiff,Bool.not_true,Bool.not_false];refine hK_ _ ?_;clear hK_ K_)
  | refine zDv (by decide) ?_
  | ((try first|refine zKy rfl rfl rfl ?_|refine zJz rfl rfl ?_|refine zKx rfl rfl rfl ?_|refine zIw rfl rfl ?_);(refine zIv fun Q_ hQ_=>?_;simp (disch:=first|omega|(simp only [List.length_cons,List.length_nil,List.length_append];omega)) only [bb,bp,zLz,↓reduceIte,reduceCtorEq,Nat.reduceEqDiff,Nat.reduceLT,Nat.reduceLeDiff,Nat.reduceAdd,Nat.reduceMul,Nat.reduceSub,Nat.reduceBEq,Int.reduceToNat,cond_true,cond_false,eq_self,beq_self_eq_true,fa,fb,fa',fb',zFw wf,zGy wf,zBw wf,zFx wf,zAy wf,zAx,tEvD11,zIx,zIy,zIz,zHv,zFv,zAw wf];first|(refine zCw (Q:=Q_) (fun hp_=>?_) (fun hp_=>?_) <;> first|(exfalso;omega)|(refine hQ_ _ _ ?_;clear hQ_ Q_))|(refine zBx (Q:=Q_) (fun hp_=>?_) (fun hp_=>?_) <;> first|(exfalso;omega)|(refine hQ_ _ _ ?_;clear hQ_ Q_))|(refine hQ_ _ _ ?_;clear hQ_ Q_)))
  | (refine zHx fun K_ hK_=>?_;simp (disch:=omega) only [zGz,zAz,zHw,↓reduceIte,reduceCtorEq,Nat.reduceEqDiff,Nat.reduceLT];refine hK_ _ ?_;clear hK_ K_)))
      (refine zIw rfl rfl (WV_soft (v:=.tup []) (by simp (disch:=first|omega|(simp only [List.length_cons,List.length_nil,List.length_append];omega)) only [bb,bp,zLz,↓reduceIte,reduceCtorEq,Nat.reduceEqDiff,Nat.reduceLT,Nat.reduceLeDiff,Nat.reduceAdd,Nat.reduceMul,Nat.reduceSub,Nat.reduceBEq,Int.reduceToNat,cond_true,cond_false,eq_self,beq_self_eq_true,fa,fb,fa',fb',zFw wf,zGy wf,zBw wf,zFx wf,zAy wf,zAx,tEvD11,zIx,zIy,zIz,zHv,zFv,zAw wf];rfl) (xAv rfl rfl (nx_ne (by decide)) (by decide) (by decide)) ?_))
      (repeat' (first
  | (with_reducible first|refine zJw ?_|refine zHz ?_|refine zFz ?_|refine zEv ?_|refine zFy ?_|refine zJv ?_|refine zHy ?_|refine zCz ?_|refine zDw ?_|refine zCy ?_|refine zCv ?_|refine zEx ?_|refine zDz ?_|refine zCx ?_|refine zBy ?_|refine zEz ?_|refine zEy ?_|refine zAv ?_|refine zBz ?_)
  | refine zDy ?_|refine zEw rfl ?_|refine zJy ?_|refine zJx ?_
  | ((first|refine zGv rfl rfl rfl rfl rfl fun K_ hK_=>?_|refine zGw rfl rfl rfl rfl rfl fun K_ hK_=>?_);simp only [zAz,zDx,zGx,↓reduceIte,reduceCtorEq,Nat.reduceEqDiff,Bool.not_true,Bool.not_false];refine hK_ _ ?_;clear hK_ K_)
  | refine zDv (by decide) ?_
  | ((try first|refine zKy rfl rfl rfl ?_|refine zJz rfl rfl ?_|refine zKx rfl rfl rfl ?_|refine zIw rfl rfl ?_);(refine zIv fun Q_ hQ_=>?_;simp (disch:=first|omega|(simp only [List.length_cons,List.length_nil,List.length_append];omega)) only [bb,bp,zLz,↓reduceIte,reduceCtorEq,Nat.reduceEqDiff,Nat.reduceLT,Nat.reduceLeDiff,Nat.reduceAdd,Nat.reduceMul,Nat.reduceSub,Nat.reduceBEq,Int.reduceToNat,cond_true,cond_false,eq_self,beq_self_eq_true,fa,fb,fa',fb',zFw wf,zGy wf,zBw wf,zFx wf,zAy wf,zAx,tEvD11,zIx,zIy,zIz,zHv,zFv,zAw wf];first|(refine zCw (Q:=Q_) (fun hp_=>?_) (fun hp_=>?_) <;> first|(exfalso;omega)|(refine hQ_ _ _ ?_;clear hQ_ Q_))|(refine zBx (Q:=Q_) (fun hp_=>?_) (fun hp_=>?_) <;> first|(exfalso;omega)|(refine hQ_ _ _ ?_;clear hQ_ Q_))|(refine hQ_ _ _ ?_;clear hQ_ Q_)))
  | (refine zHx fun K_ hK_=>?_;simp (disch:=omega) only [zGz,zAz,zHw,↓reduceIte,reduceCtorEq,Nat.reduceEqDiff,Nat.reduceLT];refine hK_ _ ?_;clear hK_ K_)))
      refine zLy [.no,.no,.no,.no,.full] (by kernel_rfl) ?_
      have hiff:=isT_iff T x
      have kf:=k.f
      have ko:=k.o
      have kb:=k.b
      have kr:=k.r
      by_cases hx:isT T x
      · have hd:decide (min (max x.f T.f0) T.f1=x.f∧min (max x.t T.t0) T.t1=x.t∧min (max x.s T.s0) T.s1=x.s∧min (max x.o T.o0) T.o1=x.o∧min (max x.b T.b0) T.b1=x.b∧min (max x.r T.r0) T.r1=x.r)=true:=decide_eq_true (by have:=hiff.1 hx;omega)
        have xt:=hx.t
        have xs:=hx.s
        have d2 : ∀ l w,w≤h.clock+l.length→(om Try.prog KK).call (.fn 46 [.agg [ii T.sp,ii T.lo,ii T.we,ii T.al,ii T.f0,ii T.f1,ii T.t0,ii T.t1,ii T.s0,ii T.s1,ii T.o0,ii T.o1,ii T.b0,ii T.b1,ii T.r0,ii T.r1,.nils],ii x.t]) (X h l w) = .ok (ii (mo T x.t)) (X h l w):=fun l w hw=>model T k .nils x.t (by omega) _ (wf.X hw)
        have d3 : ∀ l w,w≤h.clock+l.length→(om Try.prog KK).call (.fn 47 [.agg [ii T.sp,ii T.lo,ii T.we,ii T.al,ii T.f0,ii T.f1,ii T.t0,ii T.t1,ii T.s0,ii T.s1,ii T.o0,ii T.o1,ii T.b0,ii T.b1,ii T.r0,ii T.r1,.nils],ii x.s]) (X h l w) = .ok (ii (sh T x.s)) (X h l w):=fun l w hw=>shipN T k .nils x.s (by omega) _ (wf.X hw)
        by_cases h1:has re (mo T x.t)
        · have d4 : ∀ l w,w≤h.clock+l.length→(om Try.prog KK).call (.fn 38 [.agg [a,b],ii (mo T x.t)]) (X h l w) = .ok (.bool true) (X h l w):=fun l w hw=>(hasC a b re cf _ _ (y.up _ _ hw) kl.n).trans (by rw [decide_eq_true h1])
          by_cases h2:has re (sh T x.s)
          · have d5 : ∀ l w,w≤h.clock+l.length→(om Try.prog KK).call (.fn 38 [.agg [a,b],ii (sh T x.s)]) (X h l w) = .ok (.bool true) (X h l w):=fun l w hw=>(hasC a b re cf _ _ (y.up _ _ hw) kl.n).trans (by rw [decide_eq_true h2])
            (repeat' (first
  | (with_reducible first|refine zJw ?_|refine zHz ?_|refine zFz ?_|refine zEv ?_|refine zFy ?_|refine zJv ?_|refine zHy ?_|refine zCz ?_|refine zDw ?_|refine zCy ?_|refine zCv ?_|refine zEx ?_|refine zDz ?_|refine zCx ?_|refine zBy ?_|refine zEz ?_|refine zEy ?_|refine zAv ?_|refine zBz ?_)
  | refine zDy ?_|refine zEw rfl ?_|refine zJy ?_|refine zJx ?_
  | ((first|refine zGv rfl rfl rfl rfl rfl fun K_ hK_=>?_|refine zGw rfl rfl rfl rfl rfl fun K_ hK_=>?_);simp only [zAz,zDx,zGx,↓reduceIte,reduceCtorEq,Nat.reduceEqDiff,Bool.not_true,Bool.not_false];refine hK_ _ ?_;clear hK_ K_)
  | refine zDv (by decide) ?_
  | ((try first|refine zKy rfl rfl rfl ?_|refine zJz rfl rfl ?_|refine zKx rfl rfl rfl ?_|refine zIw rfl rfl ?_);(refine zIv fun Q_ hQ_=>?_;simp (disch:=first|omega|(simp only [List.length_cons,List.length_nil,List.length_append];omega)) only [bb,bp,zLz,↓reduceIte,reduceCtorEq,Nat.reduceEqDiff,Nat.reduceLT,Nat.reduceLeDiff,Nat.reduceAdd,Nat.reduceMul,Nat.reduceSub,Nat.reduceBEq,Int.reduceToNat,cond_true,cond_false,eq_self,beq_self_eq_true,fa,fb,fa',fb',d1,neqT,hd,zFw wf,zGy wf,zBw wf,zFx wf,zAy wf,zAx,tEvD11,zIx,zIy,zIz,zHv,zFv,zAw wf];first|(refine zCw (Q:=Q_) (fun hp_=>?_) (fun hp_=>?_) <;> first|(exfalso;omega)|(refine hQ_ _ _ ?_;clear hQ_ Q_))|(refine zBx (Q:=Q_) (fun hp_=>?_) (fun hp_=>?_) <;> first|(exfalso;omega)|(refine hQ_ _ _ ?_;clear hQ_ Q_))|(refine hQ_ _ _ ?_;clear hQ_ Q_)))
  | (refine zHx fun K_ hK_=>?_;simp (disch:=omega) only [zGz,zAz,zHw,↓reduceIte,reduceCtorEq,Nat.reduceEqDiff,Nat.reduceLT];refine hK_ _ ?_;clear hK_ K_)))
            refine zLy [.no,.no,.no,.no,.no,.full,.full,.full,.no,.no,.no,.no,.no,.full,.full,.full] (by kernel_rfl) ?_
            (repeat' (first
  | (with_reducible first|refine zJw ?_|refine zHz ?_|refine zFz ?_|refine zEv ?_|refine zFy ?_|refine zJv ?_|refine zHy ?_|refine zCz ?_|refine zDw ?_|refine zCy ?_|refine zCv ?_|refine zEx ?_|refine zDz ?_|refine zCx ?_|refine zBy ?_|refine zEz ?_|refine zEy ?_|refine zAv ?_|refine zBz ?_)
  | refine zDy ?_|refine zEw rfl ?_|refine zJy ?_|refine zJx ?_
  | ((first|refine zGv rfl rfl rfl rfl rfl fun K_ hK_=>?_|refine zGw rfl rfl rfl rfl rfl fun K_ hK_=>?_);simp only [zAz,zDx,zGx,↓reduceIte,reduceCtorEq,Nat.reduceEqDiff,Bool.not_true,Bool.not_false];refine hK_ _ ?_;clear hK_ K_)
  | refine zDv (by decide) ?_
  | ((try first|refine zKy rfl rfl rfl ?_|refine zJz rfl rfl ?_|refine zKx rfl rfl rfl ?_|refine zIw rfl rfl ?_);(refine zIv fun Q_ hQ_=>?_;simp (disch:=first|omega|(simp only [List.length_cons,List.length_nil,List.length_append];omega)) only [bb,bp,zLz,↓reduceIte,reduceCtorEq,Nat.reduceEqDiff,Nat.reduceLT,Nat.reduceLeDiff,Nat.reduceAdd,Nat.reduceMul,Nat.reduceSub,Nat.reduceBEq,Int.reduceToNat,cond_true,cond_false,eq_self,beq_self_eq_true,fa,fb,fa',fb',d2,d3,d4,d5,zFw wf,zGy wf,zBw wf,zFx wf,zAy wf,zAx,tEvD11,zIx,zIy,zIz,zHv,zFv,zAw wf];first|(refine zCw (Q:=Q_) (fun hp_=>?_) (fun hp_=>?_) <;> first|(exfalso;omega)|(refine hQ_ _ _ ?_;clear hQ_ Q_))|(refine zBx (Q:=Q_) (fun hp_=>?_) (fun hp_=>?_) <;> first|(exfalso;omega)|(refine hQ_ _ _ ?_;clear hQ_ Q_))|(refine hQ_ _ _ ?_;clear hQ_ Q_)|(refine zLv (coefficient T k .nils ⟨rfl,rfl⟩ a b re cf kl x hx h1 h2 _ (y.up _ _ (by simp only [List.length_append,List.length_cons,List.length_nil];omega))) ?_;refine hQ_ _ _ ?_;clear hQ_ Q_)))
  | (refine zHx fun K_ hK_=>?_;simp (disch:=omega) only [zGz,zAz,zHw,↓reduceIte,reduceCtorEq,Nat.reduceEqDiff,Nat.reduceLT];refine hK_ _ ?_;clear hK_ K_)))
            (refine zKz _ _ rfl (ret2 (by decide) (by decide)) ?_;simp only [zAz,↓reduceIte,reduceCtorEq,Nat.reduceEqDiff];refine zKw rfl (by omega) ?_)
            exact ⟨by rw [(ship5 k hz hx ⟨h1,h2⟩).1,(ship5 k hz hx ⟨h1,h2⟩).2],rfl⟩
          · have d5 : ∀ l w,w≤h.clock+l.length→(om Try.prog KK).call (.fn 38 [.agg [a,b],ii (sh T x.s)]) (X h l w) = .ok (.bool false) (X h l w):=fun l w hw=>(hasC a b re cf _ _ (y.up _ _ hw) kl.n).trans (by rw [decide_eq_false h2])
            (repeat' (first
  | (with_reducible first|refine zJw ?_|refine zHz ?_|refine zFz ?_|refine zEv ?_|refine zFy ?_|refine zJv ?_|refine zHy ?_|refine zCz ?_|refine zDw ?_|refine zCy ?_|refine zCv ?_|refine zEx ?_|refine zDz ?_|refine zCx ?_|refine zBy ?_|refine zEz ?_|refine zEy ?_|refine zAv ?_|refine zBz ?_)
  | refine zDy ?_|refine zEw rfl ?_|refine zJy ?_|refine zJx ?_
  | ((first|refine zGv rfl rfl rfl rfl rfl fun K_ hK_=>?_|refine zGw rfl rfl rfl rfl rfl fun K_ hK_=>?_);simp only [zAz,zDx,zGx,↓reduceIte,reduceCtorEq,Nat.reduceEqDiff,Bool.not_true,Bool.not_false];refine hK_ _ ?_;clear hK_ K_)
  | refine zDv (by decide) ?_
  | ((try first|refine zKy rfl rfl rfl ?_|refine zJz rfl rfl ?_|refine zKx rfl rfl rfl ?_|refine zIw rfl rfl ?_);(refine zIv fun Q_ hQ_=>?_;simp (disch:=first|omega|(simp only [List.length_cons,List.length_nil,List.length_append];omega)) only [bb,bp,zLz,↓reduceIte,reduceCtorEq,Nat.reduceEqDiff,Nat.reduceLT,Nat.reduceLeDiff,Nat.reduceAdd,Nat.reduceMul,Nat.reduceSub,Nat.reduceBEq,Int.reduceToNat,cond_true,cond_false,eq_self,beq_self_eq_true,fa,fb,fa',fb',d1,neqT,hd,zFw wf,zGy wf,zBw wf,zFx wf,zAy wf,zAx,tEvD11,zIx,zIy,zIz,zHv,zFv,zAw wf];first|(refine zCw (Q:=Q_) (fun hp_=>?_) (fun hp_=>?_) <;> first|(exfalso;omega)|(refine hQ_ _ _ ?_;clear hQ_ Q_))|(refine zBx (Q:=Q_) (fun hp_=>?_) (fun hp_=>?_) <;> first|(exfalso;omega)|(refine hQ_ _ _ ?_;clear hQ_ Q_))|(refine hQ_ _ _ ?_;clear hQ_ Q_)))
  | (refine zHx fun K_ hK_=>?_;simp (disch:=omega) only [zGz,zAz,zHw,↓reduceIte,reduceCtorEq,Nat.reduceEqDiff,Nat.reduceLT];refine hK_ _ ?_;clear hK_ K_)))
            refine zLy [.no,.no,.no,.no,.no,.full,.full,.full,.no,.no,.no,.no,.no,.full,.full,.full] (by kernel_rfl) ?_
            (repeat' (first
  | (with_reducible first|refine zJw ?_|refine zHz ?_|refine zFz ?_|refine zEv ?_|refine zFy ?_|refine zJv ?_|refine zHy ?_|refine zCz ?_|refine zDw ?_|refine zCy ?_|refine zCv ?_|refine zEx ?_|refine zDz ?_|refine zCx ?_|refine zBy ?_|refine zEz ?_|refine zEy ?_|refine zAv ?_|refine zBz ?_)
  | refine zDy ?_|refine zEw rfl ?_|refine zJy ?_|refine zJx ?_
  | ((first|refine zGv rfl rfl rfl rfl rfl fun K_ hK_=>?_|refine zGw rfl rfl rfl rfl rfl fun K_ hK_=>?_);simp only [zAz,zDx,zGx,↓reduceIte,reduceCtorEq,Nat.reduceEqDiff,Bool.not_true,Bool.not_false];refine hK_ _ ?_;clear hK_ K_)
  | refine zDv (by decide) ?_
  | ((try first|refine zKy rfl rfl rfl ?_|refine zJz rfl rfl ?_|refine zKx rfl rfl rfl ?_|refine zIw rfl rfl ?_);(refine zIv fun Q_ hQ_=>?_;simp (disch:=first|omega|(simp only [List.length_cons,List.length_nil,List.length_append];omega)) only [bb,bp,zLz,↓reduceIte,reduceCtorEq,Nat.reduceEqDiff,Nat.reduceLT,Nat.reduceLeDiff,Nat.reduceAdd,Nat.reduceMul,Nat.reduceSub,Nat.reduceBEq,Int.reduceToNat,cond_true,cond_false,eq_self,beq_self_eq_true,fa,fb,fa',fb',d2,d3,d4,d5,zFw wf,zGy wf,zBw wf,zFx wf,zAy wf,zAx,tEvD11,zIx,zIy,zIz,zHv,zFv,zAw wf];first|(refine zCw (Q:=Q_) (fun hp_=>?_) (fun hp_=>?_) <;> first|(exfalso;omega)|(refine hQ_ _ _ ?_;clear hQ_ Q_))|(refine zBx (Q:=Q_) (fun hp_=>?_) (fun hp_=>?_) <;> first|(exfalso;omega)|(refine hQ_ _ _ ?_;clear hQ_ Q_))|(refine hQ_ _ _ ?_;clear hQ_ Q_)))
  | (refine zHx fun K_ hK_=>?_;simp (disch:=omega) only [zGz,zAz,zHw,↓reduceIte,reduceCtorEq,Nat.reduceEqDiff,Nat.reduceLT];refine hK_ _ ?_;clear hK_ K_)))
            (refine zKz _ _ rfl (ret2 (by decide) (by decide)) ?_;simp only [zAz,↓reduceIte,reduceCtorEq,Nat.reduceEqDiff];refine zKw rfl (by omega) ?_)
            exact ⟨by rw [(ship4 k hz hx (fun q=>h2 q.2)).1,(ship4 k hz hx (fun q=>h2 q.2)).2],rfl⟩
        · have d4 : ∀ l w,w≤h.clock+l.length→(om Try.prog KK).call (.fn 38 [.agg [a,b],ii (mo T x.t)]) (X h l w) = .ok (.bool false) (X h l w):=fun l w hw=>(hasC a b re cf _ _ (y.up _ _ hw) kl.n).trans (by rw [decide_eq_false h1])
          (repeat' (first
  | (with_reducible first|refine zJw ?_|refine zHz ?_|refine zFz ?_|refine zEv ?_|refine zFy ?_|refine zJv ?_|refine zHy ?_|refine zCz ?_|refine zDw ?_|refine zCy ?_|refine zCv ?_|refine zEx ?_|refine zDz ?_|refine zCx ?_|refine zBy ?_|refine zEz ?_|refine zEy ?_|refine zAv ?_|refine zBz ?_)
  | refine zDy ?_|refine zEw rfl ?_|refine zJy ?_|refine zJx ?_
  | ((first|refine zGv rfl rfl rfl rfl rfl fun K_ hK_=>?_|refine zGw rfl rfl rfl rfl rfl fun K_ hK_=>?_);simp only [zAz,zDx,zGx,↓reduceIte,reduceCtorEq,Nat.reduceEqDiff,Bool.not_true,Bool.not_false];refine hK_ _ ?_;clear hK_ K_)
  | refine zDv (by decide) ?_
  | ((try first|refine zKy rfl rfl rfl ?_|refine zJz rfl rfl ?_|refine zKx rfl rfl rfl ?_|refine zIw rfl rfl ?_);(refine zIv fun Q_ hQ_=>?_;simp (disch:=first|omega|(simp only [List.length_cons,List.length_nil,List.length_append];omega)) only [bb,bp,zLz,↓reduceIte,reduceCtorEq,Nat.reduceEqDiff,Nat.reduceLT,Nat.reduceLeDiff,Nat.reduceAdd,Nat.reduceMul,Nat.reduceSub,Nat.reduceBEq,Int.reduceToNat,cond_true,cond_false,eq_self,beq_self_eq_true,fa,fb,fa',fb',d1,neqT,hd,zFw wf,zGy wf,zBw wf,zFx wf,zAy wf,zAx,tEvD11,zIx,zIy,zIz,zHv,zFv,zAw wf];first|(refine zCw (Q:=Q_) (fun hp_=>?_) (fun hp_=>?_) <;> first|(exfalso;omega)|(refine hQ_ _ _ ?_;clear hQ_ Q_))|(refine zBx (Q:=Q_) (fun hp_=>?_) (fun hp_=>?_) <;> first|(exfalso;omega)|(refine hQ_ _ _ ?_;clear hQ_ Q_))|(refine hQ_ _ _ ?_;clear hQ_ Q_)))
  | (refine zHx fun K_ hK_=>?_;simp (disch:=omega) only [zGz,zAz,zHw,↓reduceIte,reduceCtorEq,Nat.reduceEqDiff,Nat.reduceLT];refine hK_ _ ?_;clear hK_ K_)))
          refine zLy [.no,.no,.no,.no,.no,.full,.full,.full,.no,.no,.no,.no,.no,.full,.full,.full] (by kernel_rfl) ?_
          (repeat' (first
  | (with_reducible first|refine zJw ?_|refine zHz ?_|refine zFz ?_|refine zEv ?_|refine zFy ?_|refine zJv ?_|refine zHy ?_|refine zCz ?_|refine zDw ?_|refine zCy ?_|refine zCv ?_|refine zEx ?_|refine zDz ?_|refine zCx ?_|refine zBy ?_|refine zEz ?_|refine zEy ?_|refine zAv ?_|refine zBz ?_)
  | refine zDy ?_|refine zEw rfl ?_|refine zJy ?_|refine zJx ?_
  | ((first|refine zGv rfl rfl rfl rfl rfl fun K_ hK_=>?_|refine zGw rfl rfl rfl rfl rfl fun K_ hK_=>?_);simp only [zAz,zDx,zGx,↓reduceIte,reduceCtorEq,Nat.reduceEqDiff,Bool.not_true,Bool.not_false];refine hK_ _ ?_;clear hK_ K_)
  | refine zDv (by decide) ?_
  | ((try first|refine zKy rfl rfl rfl ?_|refine zJz rfl rfl ?_|refine zKx rfl rfl rfl ?_|refine zIw rfl rfl ?_);(refine zIv fun Q_ hQ_=>?_;simp (disch:=first|omega|(simp only [List.length_cons,List.length_nil,List.length_append];omega)) only [bb,bp,zLz,↓reduceIte,reduceCtorEq,Nat.reduceEqDiff,Nat.reduceLT,Nat.reduceLeDiff,Nat.reduceAdd,Nat.reduceMul,Nat.reduceSub,Nat.reduceBEq,Int.reduceToNat,cond_true,cond_false,eq_self,beq_self_eq_true,fa,fb,fa',fb',d2,d4,zFw wf,zGy wf,zBw wf,zFx wf,zAy wf,zAx,tEvD11,zIx,zIy,zIz,zHv,zFv,zAw wf];first|(refine zCw (Q:=Q_) (fun hp_=>?_) (fun hp_=>?_) <;> first|(exfalso;omega)|(refine hQ_ _ _ ?_;clear hQ_ Q_))|(refine zBx (Q:=Q_) (fun hp_=>?_) (fun hp_=>?_) <;> first|(exfalso;omega)|(refine hQ_ _ _ ?_;clear hQ_ Q_))|(refine hQ_ _ _ ?_;clear hQ_ Q_)))
  | (refine zHx fun K_ hK_=>?_;simp (disch:=omega) only [zGz,zAz,zHw,↓reduceIte,reduceCtorEq,Nat.reduceEqDiff,Nat.reduceLT];refine hK_ _ ?_;clear hK_ K_)))
          (refine zKz _ _ rfl (ret2 (by decide) (by decide)) ?_;simp only [zAz,↓reduceIte,reduceCtorEq,Nat.reduceEqDiff];refine zKw rfl (by omega) ?_)
          exact ⟨by rw [(ship4 k hz hx (fun q=>h1 q.1)).1,(ship4 k hz hx (fun q=>h1 q.1)).2],rfl⟩
      · have hd:decide (min (max x.f T.f0) T.f1=x.f∧min (max x.t T.t0) T.t1=x.t∧min (max x.s T.s0) T.s1=x.s∧min (max x.o T.o0) T.o1=x.o∧min (max x.b T.b0) T.b1=x.b∧min (max x.r T.r0) T.r1=x.r)=false:=decide_eq_false (fun q=>hx (hiff.2 (by omega)))
        (repeat' (first
  | (with_reducible first|refine zJw ?_|refine zHz ?_|refine zFz ?_|refine zEv ?_|refine zFy ?_|refine zJv ?_|refine zHy ?_|refine zCz ?_|refine zDw ?_|refine zCy ?_|refine zCv ?_|refine zEx ?_|refine zDz ?_|refine zCx ?_|refine zBy ?_|refine zEz ?_|refine zEy ?_|refine zAv ?_|refine zBz ?_)
  | refine zDy ?_|refine zEw rfl ?_|refine zJy ?_|refine zJx ?_
  | ((first|refine zGv rfl rfl rfl rfl rfl fun K_ hK_=>?_|refine zGw rfl rfl rfl rfl rfl fun K_ hK_=>?_);simp only [zAz,zDx,zGx,↓reduceIte,reduceCtorEq,Nat.reduceEqDiff,Bool.not_true,Bool.not_false];refine hK_ _ ?_;clear hK_ K_)
  | refine zDv (by decide) ?_
  | ((try first|refine zKy rfl rfl rfl ?_|refine zJz rfl rfl ?_|refine zKx rfl rfl rfl ?_|refine zIw rfl rfl ?_);(refine zIv fun Q_ hQ_=>?_;simp (disch:=first|omega|(simp only [List.length_cons,List.length_nil,List.length_append];omega)) only [bb,bp,zLz,↓reduceIte,reduceCtorEq,Nat.reduceEqDiff,Nat.reduceLT,Nat.reduceLeDiff,Nat.reduceAdd,Nat.reduceMul,Nat.reduceSub,Nat.reduceBEq,Int.reduceToNat,cond_true,cond_false,eq_self,beq_self_eq_true,fa,fb,fa',fb',d1,neqT,hd,zFw wf,zGy wf,zBw wf,zFx wf,zAy wf,zAx,tEvD11,zIx,zIy,zIz,zHv,zFv,zAw wf];first|(refine zCw (Q:=Q_) (fun hp_=>?_) (fun hp_=>?_) <;> first|(exfalso;omega)|(refine hQ_ _ _ ?_;clear hQ_ Q_))|(refine zBx (Q:=Q_) (fun hp_=>?_) (fun hp_=>?_) <;> first|(exfalso;omega)|(refine hQ_ _ _ ?_;clear hQ_ Q_))|(refine hQ_ _ _ ?_;clear hQ_ Q_)))
  | (refine zHx fun K_ hK_=>?_;simp (disch:=omega) only [zGz,zAz,zHw,↓reduceIte,reduceCtorEq,Nat.reduceEqDiff,Nat.reduceLT];refine hK_ _ ?_;clear hK_ K_)))
        (refine zKz _ _ rfl (ret2 (by decide) (by decide)) ?_;simp only [zAz,↓reduceIte,reduceCtorEq,Nat.reduceEqDiff];refine zKw rfl (by omega) ?_)
        exact ⟨by rw [(ship3 k hz hx).1,(ship3 k hz hx).2],rfl⟩
    · (repeat' (first
  | (with_reducible first|refine zJw ?_|refine zHz ?_|refine zFz ?_|refine zEv ?_|refine zFy ?_|refine zJv ?_|refine zHy ?_|refine zCz ?_|refine zDw ?_|refine zCy ?_|refine zCv ?_|refine zEx ?_|refine zDz ?_|refine zCx ?_|refine zBy ?_|refine zEz ?_|refine zEy ?_|refine zAv ?_|refine zBz ?_)
  | refine zDy ?_|refine zEw rfl ?_|refine zJy ?_|refine zJx ?_
  | ((first|refine zGv rfl rfl rfl rfl rfl fun K_ hK_=>?_|refine zGw rfl rfl rfl rfl rfl fun K_ hK_=>?_);simp only [zAz,zDx,zGx,↓reduceIte,reduceCtorEq,Nat.reduceEqDiff,Bool.not_true,Bool.not_false];refine hK_ _ ?_;clear hK_ K_)
  | refine zDv (by decide) ?_
  | ((try first|refine zKy rfl rfl rfl ?_|refine zJz rfl rfl ?_|refine zKx rfl rfl rfl ?_|refine zIw rfl rfl ?_);(refine zIv fun Q_ hQ_=>?_;simp (disch:=first|omega|(simp only [List.length_cons,List.length_nil,List.length_append];omega)) only [bb,bp,zLz,↓reduceIte,reduceCtorEq,Nat.reduceEqDiff,Nat.reduceLT,Nat.reduceLeDiff,Nat.reduceAdd,Nat.reduceMul,Nat.reduceSub,Nat.reduceBEq,Int.reduceToNat,cond_true,cond_false,eq_self,beq_self_eq_true,fa,fb,fa',fb',zFw wf,zGy wf,zBw wf,zFx wf,zAy wf,zAx,tEvD11,zIx,zIy,zIz,zHv,zFv,zAw wf];first|(refine zCw (Q:=Q_) (fun hp_=>?_) (fun hp_=>?_) <;> first|(exfalso;omega)|(refine hQ_ _ _ ?_;clear hQ_ Q_))|(refine zBx (Q:=Q_) (fun hp_=>?_) (fun hp_=>?_) <;> first|(exfalso;omega)|(refine hQ_ _ _ ?_;clear hQ_ Q_))|(refine hQ_ _ _ ?_;clear hQ_ Q_)|(refine zLv ((CheckTest T _ (wf.X (Nat.le_add_right _ _))).trans (by rw [e0])) ?_;refine hQ_ _ _ ?_;clear hQ_ Q_)|(refine zLv (CheckLine a b re cf _ (y.up _ _ (by simp only [List.length_append,List.length_cons,List.length_nil];omega))) ?_;refine hQ_ _ _ ?_;clear hQ_ Q_)))
  | (refine zHx fun K_ hK_=>?_;simp (disch:=omega) only [zGz,zAz,zHw,↓reduceIte,reduceCtorEq,Nat.reduceEqDiff,Nat.reduceLT];refine hK_ _ ?_;clear hK_ K_)))
      (refine zKz _ _ rfl (ret2 (by decide) (by decide)) ?_;simp only [zAz,↓reduceIte,reduceCtorEq,Nat.reduceEqDiff];refine zKw rfl (by omega) ?_)
      exact ⟨by rw [(ship2 k hz).1,(ship2 k hz).2],rfl⟩
  · have e0:=yZw k
    (repeat' (first
  | (with_reducible first|refine zJw ?_|refine zHz ?_|refine zFz ?_|refine zEv ?_|refine zFy ?_|refine zJv ?_|refine zHy ?_|refine zCz ?_|refine zDw ?_|refine zCy ?_|refine zCv ?_|refine zEx ?_|refine zDz ?_|refine zCx ?_|refine zBy ?_|refine zEz ?_|refine zEy ?_|refine zAv ?_|refine zBz ?_)
  | refine zDy ?_|refine zEw rfl ?_|refine zJy ?_|refine zJx ?_
  | ((first|refine zGv rfl rfl rfl rfl rfl fun K_ hK_=>?_|refine zGw rfl rfl rfl rfl rfl fun K_ hK_=>?_);simp only [zAz,zDx,zGx,↓reduceIte,reduceCtorEq,Nat.reduceEqDiff,Bool.not_true,Bool.not_false];refine hK_ _ ?_;clear hK_ K_)
  | refine zDv (by decide) ?_
  | ((try first|refine zKy rfl rfl rfl ?_|refine zJz rfl rfl ?_|refine zKx rfl rfl rfl ?_|refine zIw rfl rfl ?_);(refine zIv fun Q_ hQ_=>?_;simp (disch:=first|omega|(simp only [List.length_cons,List.length_nil,List.length_append];omega)) only [bb,bp,zLz,↓reduceIte,reduceCtorEq,Nat.reduceEqDiff,Nat.reduceLT,Nat.reduceLeDiff,Nat.reduceAdd,Nat.reduceMul,Nat.reduceSub,Nat.reduceBEq,Int.reduceToNat,cond_true,cond_false,eq_self,beq_self_eq_true,fa,fb,fa',fb',zFw wf,zGy wf,zBw wf,zFx wf,zAy wf,zAx,tEvD11,zIx,zIy,zIz,zHv,zFv,zAw wf];first|(refine zCw (Q:=Q_) (fun hp_=>?_) (fun hp_=>?_) <;> first|(exfalso;omega)|(refine hQ_ _ _ ?_;clear hQ_ Q_))|(refine zBx (Q:=Q_) (fun hp_=>?_) (fun hp_=>?_) <;> first|(exfalso;omega)|(refine hQ_ _ _ ?_;clear hQ_ Q_))|(refine hQ_ _ _ ?_;clear hQ_ Q_)|(refine zLv ((CheckTest T _ (wf.X (Nat.le_add_right _ _))).trans (by rw [e0])) ?_;refine hQ_ _ _ ?_;clear hQ_ Q_)))
  | (refine zHx fun K_ hK_=>?_;simp (disch:=omega) only [zGz,zAz,zHw,↓reduceIte,reduceCtorEq,Nat.reduceEqDiff,Nat.reduceLT];refine hK_ _ ?_;clear hK_ K_)))
    (refine zKz _ _ rfl (ret2 (by decide) (by decide)) ?_;simp only [zAz,↓reduceIte,reduceCtorEq,Nat.reduceEqDiff];refine zKw rfl (by omega) ?_)
    exact ⟨by rw [(ship1 k).1,(ship1 k).2],rfl⟩
end Go.Proofs.Ythaleckfgcgegaa
end

section
namespace Go.Ev
section
variable {P:Program} {K:List Con}
def YRC (lo c d:Nat) (hb:H) (J:List AO) (w:Nat) (I D:H→Prop):AV→H→Prop:=fun v h'=>∃ hb' J' w',h'=X hb' (J++J') w'∧Same hb hb'∧lo≤w'∧w'≤w∧(v = .bool true∧w'<c∧I hb'∨v = .bool false∧w'<d∧D hb')
def HandsC (P:Program) (K:List Con) (B:H→Prop) (fv:AV) (xs:List (List AV)):Prop:=
  ∀ (l:Pos) (hb0:H) (I:Nat→H→Prop) (D:H→Prop) (lo:Nat) (c:Nat→Nat) (d:Nat),lo≤hb0.w→hb0.w≤hb0.clock→(∀ k,c k≤hb0.clock)→d≤hb0.clock→(∀ i h,I i h→B h∧Same hb0 h)→(∀ h,D h→Wf h) →
    (∀ i x,xs[i]? = some x → ∀ hb J w,I i hb→lo≤w→w≤hb.clock+J.length→WV ((om P K).call (.yld l x) (X hb J w)) (YRC lo (c i) d hb J w (I (i+1)) D)) →
    I 0 hb0→WV (callV P (om P K) fv [.yld l] hb0) fun _ h'=>∃ hb J w,h'=X hb J w∧Same hb0 hb∧lo≤w∧w≤hb0.w∧(I xs.length hb∧(∀ k,k<xs.length→w<c k)∨D hb∧w<d)
theorem HandsC.mono {B B':H→Prop} {fv:AV} {xs:List (List AV)} (hd:HandsC P K B fv xs) (k : ∀ h,B' h→B h):HandsC P K B' fv xs:=
  fun l hb0 I D lo c d hlo hlw hc hdc hI hD hy h0=>hd l hb0 I D lo c d hlo hlw hc hdc (fun i h hi=>⟨k h (hI i h hi).1,(hI i h hi).2⟩) hD hy h0
def cmin (c:Nat→Nat) (b:Nat):Nat→Nat
  | 0=>c b
  | n+1=>min (cmin c b n) (c (b+(n+1)))
end
end Go.Ev
namespace Go.Ev
end Go.Ev
end

section
namespace Go.Ev
def NotT (t:TypeId) (o:AO):Prop:=∀ m,o ≠ .cells m t
def Chg (t:TypeId) (J J2:List AO):Prop:=J2.length=J.length ∧ ∀ (k:Nat) (o:AO),J[k]? = some o→NotT t o→J2[k]? = some o
def Keep (t:TypeId) (J J2:List AO):Prop:=∀ (k:Nat) m,J[k]? = some (.cells m t)→J2[k]? = some (.cells m t)
theorem Chg.rfl' {t:TypeId} (J:List AO):Chg t J J:=⟨rfl,fun _ _ h _=>h⟩
theorem Chg.trans {t:TypeId} {A B C:List AO} (x:Chg t A B) (y:Chg t B C):Chg t A C:=⟨y.1.trans x.1,fun k o h n=>y.2 k o (x.2 k o h n) n⟩
theorem Keep.rfl' {t:TypeId} (J:List AO):Keep t J J:=fun _ _ h=>h
theorem Keep.trans {t:TypeId} {A B C:List AO} (x:Keep t A B) (y:Keep t B C):Keep t A C:=fun k m h=>y k m (x k m h)
theorem notT_dfr {t:TypeId} : NotT t .dfr:=fun _ e=>by cases e
theorem Chg.cons {t:TypeId} {o:AO} {L Z:List AO} (x:Chg t (o :: L) Z) (hn:NotT t o) : ∃ Z',Z=o :: Z'∧Chg t L Z':=by
  obtain ⟨hl,hk⟩:=x
  have h0:=hk 0 o rfl hn
  match Z,h0,hl,hk with
  | z :: Z,h0,hl,hk=>
    simp only [List.getElem?_cons_zero,Option.some.injEq] at h0
    subst h0
    exact ⟨Z,rfl,by simpa using hl,fun k o' h n=>by have:=hk (k+1) o' (by simpa using h) n;simpa using this⟩
theorem Keep.cons {t:TypeId} {o o':AO} {L L':List AO} (x:Keep t L L') (hn:NotT t o):Keep t (o :: L) (o' :: L'):=fun k m h=>by
  cases k with
  | zero=>simp only [List.getElem?_cons_zero,Option.some.injEq] at h;exact absurd h (hn m)
  | succ k=>simp only [List.getElem?_cons_succ] at h ⊢;exact x k m h
theorem Keep.nil {t:TypeId} (A:List AO):Keep t [] A:=fun k m h=>by simp at h
theorem Keep.set {t:TypeId} {L:List AO} {k:Nat} {o o':AO} (h:L[k]? = some o) (hn:NotT t o):Keep t L (L.set k o'):=fun j m hj=>by
  by_cases e:k=j
  · subst e;rw [h] at hj;cases hj;exact absurd rfl (hn m)
  · rw [List.getElem?_set_ne e];exact hj
theorem xHx {h:H} (wf:Wf h) {lo:Nat} (hlo:lo≤h.clock) : ∀ (ks:List Nat) (L:List AO) (w:Nat),ks.Nodup→(∀ k ∈ ks,L[k]? = some .dfr)→lo≤w → ∃ L' w',takeAll (ks.map (nx h)) (X h L w)=some (X h L' w')∧L'.length=L.length∧w'≤w∧lo≤w' ∧ ∀ t,Keep t L L'
  | [],L,w,_,_,hw=>⟨L,w,rfl,rfl,Nat.le_refl _,hw,fun _=>Keep.rfl' _⟩
  | k :: ks,L,w,hn,hk,hw=>by
    have hk0:=hk k (by simp)
    rw [List.nodup_cons] at hn
    obtain ⟨L',w',e,hl,hw1,hw2,hkp⟩:=xHx wf hlo ks (L.set k .taken) (min (h.clock+k) w) hn.2 (fun j hj=>by
      rw [List.getElem?_set_ne (fun e=>hn.1 (by rw [e];exact hj))];exact hk j (by simp [hj])) (by omega)
    refine ⟨L',w',?_,by rw [hl,List.length_set],by omega,hw2,fun t=>(Keep.set hk0 notT_dfr).trans (hkp t)⟩
    rw [List.map_cons,takeAll,zXy wf,hk0]
    dsimp only
    rw [yYw L w k _ (zSx hk0)]
    exact e
section
variable {P:Program} {K:List Con}
def YRJ (t:TypeId) (lo c d:Nat) (hb:H) (J:List AO) (w:Nat) (I D:H→List AO→Prop):AV→H→Prop:=fun v h'=>∃ hb' J2 J' w',h'=X hb' (J2++J') w'∧Same hb hb'∧Chg t J J2∧lo≤w'∧w'≤w∧(v = .bool true∧w'<c∧I hb' (J2++J')∨v = .bool false∧w'<d∧D hb' (J2++J'))
def HandsJ (P:Program) (K:List Con) (t:TypeId) (B:H→Prop) (fv:AV) (xs:List (List AV)):Prop:=
  ∀ (l:Pos) (hb0:H) (I:Nat→H→List AO→Prop) (D:H→List AO→Prop) (lo:Nat) (c:Nat→Nat) (d:Nat),lo≤hb0.w→hb0.w≤hb0.clock→(∀ k,c k≤hb0.clock)→d≤hb0.clock→(∀ i h J,I i h J→B h∧Same hb0 h)→(∀ h J,D h J→Wf h) →
    (∀ i h J J2,I i h J→Keep t J J2→I i h J2)→(∀ h J J2,D h J→Keep t J J2→D h J2) →
    (∀ i x,xs[i]? = some x → ∀ hb J w,I i hb J→lo≤w→w≤hb.clock+J.length→WV ((om P K).call (.yld l x) (X hb J w)) (YRJ t lo (c i) d hb J w (I (i+1)) D)) →
    I 0 hb0 []→WV (callV P (om P K) fv [.yld l] hb0) fun _ h'=>∃ hb J w,h'=X hb J w∧Same hb0 hb∧lo≤w∧w≤hb0.w∧(I xs.length hb J∧(∀ k,k<xs.length→w<c k)∨D hb J∧w<d)
theorem HandsJ.mono {t:TypeId} {B B':H→Prop} {fv:AV} {xs:List (List AV)} (hd:HandsJ P K t B fv xs) (k : ∀ h,B' h→B h):HandsJ P K t B' fv xs:=
  fun l hb0 I D lo c d hlo hlw hc hdc hI hD mI mD hy h0=>hd l hb0 I D lo c d hlo hlw hc hdc (fun i h J hi=>⟨k h (hI i h J hi).1,(hI i h J hi).2⟩) hD mI mD hy h0
theorem HandsJ.plain {t:TypeId} {B:H→Prop} {fv:AV} {xs:List (List AV)} (hd:HandsJ P K t B fv xs):HandsC P K B fv xs:=
  fun l hb0 I D lo c d hlo hlw hc hdc hI hD hy h0=>hd l hb0 (fun i h _=>I i h) (fun h _=>D h) lo c d hlo hlw hc hdc (fun i h _ hi=>hI i h hi) (fun h _=>hD h) (fun _ _ _ _ h _=>h) (fun _ _ _ h _=>h)
    (fun i x hx hb J w hi hlo hw=>(hy i x hx hb J w hi hlo hw).mono fun v h' ⟨hb',J',w',e,s,h1,h2,hv⟩=>⟨hb',J,J',w',e,s,Chg.rfl' _,h1,h2,hv⟩) h0
end
end Go.Ev
namespace Go.Ev
section
variable {P:Program}
end
end Go.Ev
namespace Go.Ev
theorem Grow.front {h:H} {L0 L1 G:List AO} {v:AV} {sz e len:Nat} {cs:List AV} (g:Grow h L0 G v sz e len cs) (hl:L1.length=L0.length):Grow h L1 G v sz e len cs:=by
  obtain ⟨hc,⟨h0,rfl⟩|⟨idx,rfl,hg⟩⟩:=g
  · exact ⟨hc,.inl ⟨h0,rfl⟩⟩
  · exact ⟨hc,.inr ⟨idx,by rw [hl],hg⟩⟩
end Go.Ev
end

section
namespace Go.Ev
section
variable {P:Program}
theorem zerosE_rep (z:AV) (s:Nat) : ∀ n,zerosE (List.replicate s z) n=List.replicate (n * s) z
  | 0=>by rw [Nat.zero_mul];rfl
  | n+1=>by
    show List.replicate s z++zerosE (List.replicate s z) n=_
    rw [zerosE_rep z s n,List.replicate_append_replicate]
    congr 1
    rw [Nat.succ_mul];omega
theorem makeSlice_wide {h0:H} (wf:Wf h0) {t e size bytes n s:Nat} {z z0:AV} {l:List AO} {w:Nat} (hu:P.underlying t=some (.slice e)) (hz:sizeE P e=some size) (E:El P e size bytes z) (hn:n≤1000) (hb:bytes≤100000) (h1:z.cells=List.replicate s z0) :
    makeSliceE P t (.int .i64 (n:Int)) (.int .i64 (n:Int)) (X h0 l w) = .ok (.sl (nx h0 l.length) 0 n (some n) size) (X h0 (l++[.cells (zBv (List.replicate (n * s) z0)) e]) w):=by
  obtain ⟨i,hi,rfl⟩:=Option.map_eq_some_iff.1 E.info
  have hs:i.size=size:=by
    unfold sizeE at hz
    rw [hi] at hz
    dsimp only at hz
    rw [zMy] at hz
    exact Option.some.inj hz
  unfold makeSliceE
  rw [hu]
  dsimp only
  rw [hi,E.zero]
  dsimp only
  rw [xDv]
  dsimp only
  have hc:(Nat.ble n n && Nat.ble n 1048576 && Nat.ble (i.bytes * n) 281474976710656 && Nat.beq z.cells.length i.size)=true:=by
    have h2:i.bytes * n≤100000 * 1000:=Nat.mul_le_mul hb hn
    rw [E.cells,hs,Nat.ble_eq_true_of_le (Nat.le_refl n),Nat.ble_eq_true_of_le (show n≤1048576 by omega),Nat.ble_eq_true_of_le (show i.bytes * n≤281474976710656 by omega)]
    simp
  rw [hc]
  dsimp only [cond]
  rw [zAw wf,h1,zerosE_rep,hs]
end
end Go.Ev
end
