import Derived.Test.YthaleckfgcgegaaHolM6
set_option linter.all false
section
namespace Go.Proofs.Ythaleckfgcgegaa
open Go.Ev
set_option maxRecDepth 100000
set_option linter.unusedSimpArgs false
set_option linter.unusedVariables false
set_option maxHeartbeats 2000000
theorem tEvD24 :type_of% (And.intro (And.intro (And.intro (And.intro (And.intro (And.intro (And.intro (@yWz) (@yVv)) (And.intro (@yVw) (And.intro (@yVx) (@yVy)))) (And.intro (And.intro (@yVz) (And.intro (@yUv) (@yUw))) (And.intro (@zVy) (And.intro (@ia_2) (@sz_2))))) (And.intro (And.intro (And.intro (@ia_3) (@sz_3)) (And.intro (@ia_4) (And.intro (@sz_4) (@yUx)))) (And.intro (And.intro (@yDw) (And.intro (@yUy) (@yDx))) (And.intro (@yUz) (And.intro (@yDy) (@yTv)))))) (And.intro (And.intro (And.intro (And.intro (@zWw) (@yTw)) (And.intro (@yDz) (And.intro (@yTx) (@yCv)))) (And.intro (And.intro (@yTy) (And.intro (@yCw) (@yTz))) (And.intro (@yCx) (And.intro (@ySv) (@yCy))))) (And.intro (And.intro (And.intro (@ySw) (And.intro (@yCz) (@ySx))) (And.intro (@zXz) (And.intro (@ySy) (@yBv)))) (And.intro (And.intro (@ySz) (And.intro (@yBw) (@yRv))) (And.intro (@yBx) (And.intro (@yRw) (@yBy))))))) (And.intro (And.intro (And.intro (And.intro (And.intro (@yRx) (@yBz)) (And.intro (@yRy) (And.intro (@yAv) (@yRz)))) (And.intro (And.intro (@yAw) (And.intro (@yQv) (@yAx))) (And.intro (@yQw) (And.intro (@yAy) (@yQx))))) (And.intro (And.intro (And.intro (@yAz) (@zVz)) (And.intro (@zTw) (And.intro (@zUv) (@zTx)))) (And.intro (And.intro (@zUw) (And.intro (@zTy) (@zUx))) (And.intro (@zTz) (And.intro (@zUy) (@zSv)))))) (And.intro (And.intro (And.intro (And.intro (@zUz) (@zSw)) (And.intro (@zTv) (And.intro (@zSx) (@ze_2)))) (And.intro (And.intro (@ze_3) (And.intro (@ze_4) (@zZv))) (And.intro (@zZw) (And.intro (@zZx) (@zZy))))) (And.intro (And.intro (And.intro (@zZz) (And.intro (@zYv) (@xDx))) (And.intro (@zYw) (And.intro (@zYx) (@zYy)))) (And.intro (And.intro (@zSy) (And.intro (@zRx) (@zRy))) (And.intro (@zRz) (And.intro (@zQv) (@zQw)))))))) (And.intro (And.intro (And.intro (And.intro (And.intro (And.intro (@zQx) (@zQy)) (And.intro (@zQz) (And.intro (@zPv) (@zPw)))) (And.intro (And.intro (@zPx) (And.intro (@zPy) (@zPz))) (And.intro (@zOv) (And.intro (@zOw) (@zOx))))) (And.intro (And.intro (And.intro (@zOy) (@zOz)) (And.intro (@zNv) (And.intro (@zNw) (@zNx)))) (And.intro (And.intro (@zNy) (And.intro (@zNz) (@zMv))) (And.intro (@zMw) (And.intro (@zMx) (@zMy)))))) (And.intro (And.intro (And.intro (And.intro (@zMz) (@yQy)) (And.intro (@yQz) (And.intro (@yPv) (@yPw)))) (And.intro (And.intro (@yPx) (And.intro (@yPy) (@yPz))) (And.intro (@yOv) (And.intro (@yOw) (@yOx))))) (And.intro (And.intro (And.intro (@yOy) (And.intro (@yOz) (@yNv))) (And.intro (@yNw) (And.intro (@yNx) (@yNy)))) (And.intro (And.intro (@yNz) (And.intro (@yMv) (@yMw))) (And.intro (@yMx) (And.intro (@yMy) (@yMz))))))) (And.intro (And.intro (And.intro (And.intro (And.intro (@yLv) (@yLw)) (And.intro (@yLx) (And.intro (@yLy) (@yLz)))) (And.intro (And.intro (@yKv) (And.intro (@yKw) (@yKx))) (And.intro (@yKy) (And.intro (@yKz) (@yJv))))) (And.intro (And.intro (And.intro (@yJw) (@yJx)) (And.intro (@yJy) (And.intro (@yJz) (@yIv)))) (And.intro (And.intro (@yIw) (And.intro (@yIx) (@yIy))) (And.intro (@yIz) (And.intro (@yHv) (@yHw)))))) (And.intro (And.intro (And.intro (And.intro (@yHx) (@yHy)) (And.intro (@yHz) (And.intro (@yGv) (@yGw)))) (And.intro (And.intro (@yGx) (And.intro (@zYz) (@zXv))) (And.intro (@yGy) (And.intro (@yGz) (@yFv))))) (And.intro (And.intro (And.intro (@yFw) (And.intro (@yFx) (@yFy))) (And.intro (@yFz) (And.intro (@yEv) (@yEw)))) (And.intro (And.intro (@yEx) (And.intro (@yEy) (@zXw))) (And.intro (@yEz) (And.intro (@yDv) (@zXx))))))))):=And.intro (And.intro (And.intro (And.intro (And.intro (And.intro (And.intro (@yWz) (@yVv)) (And.intro (@yVw) (And.intro (@yVx) (@yVy)))) (And.intro (And.intro (@yVz) (And.intro (@yUv) (@yUw))) (And.intro (@zVy) (And.intro (@ia_2) (@sz_2))))) (And.intro (And.intro (And.intro (@ia_3) (@sz_3)) (And.intro (@ia_4) (And.intro (@sz_4) (@yUx)))) (And.intro (And.intro (@yDw) (And.intro (@yUy) (@yDx))) (And.intro (@yUz) (And.intro (@yDy) (@yTv)))))) (And.intro (And.intro (And.intro (And.intro (@zWw) (@yTw)) (And.intro (@yDz) (And.intro (@yTx) (@yCv)))) (And.intro (And.intro (@yTy) (And.intro (@yCw) (@yTz))) (And.intro (@yCx) (And.intro (@ySv) (@yCy))))) (And.intro (And.intro (And.intro (@ySw) (And.intro (@yCz) (@ySx))) (And.intro (@zXz) (And.intro (@ySy) (@yBv)))) (And.intro (And.intro (@ySz) (And.intro (@yBw) (@yRv))) (And.intro (@yBx) (And.intro (@yRw) (@yBy))))))) (And.intro (And.intro (And.intro (And.intro (And.intro (@yRx) (@yBz)) (And.intro (@yRy) (And.intro (@yAv) (@yRz)))) (And.intro (And.intro (@yAw) (And.intro (@yQv) (@yAx))) (And.intro (@yQw) (And.intro (@yAy) (@yQx))))) (And.intro (And.intro (And.intro (@yAz) (@zVz)) (And.intro (@zTw) (And.intro (@zUv) (@zTx)))) (And.intro (And.intro (@zUw) (And.intro (@zTy) (@zUx))) (And.intro (@zTz) (And.intro (@zUy) (@zSv)))))) (And.intro (And.intro (And.intro (And.intro (@zUz) (@zSw)) (And.intro (@zTv) (And.intro (@zSx) (@ze_2)))) (And.intro (And.intro (@ze_3) (And.intro (@ze_4) (@zZv))) (And.intro (@zZw) (And.intro (@zZx) (@zZy))))) (And.intro (And.intro (And.intro (@zZz) (And.intro (@zYv) (@xDx))) (And.intro (@zYw) (And.intro (@zYx) (@zYy)))) (And.intro (And.intro (@zSy) (And.intro (@zRx) (@zRy))) (And.intro (@zRz) (And.intro (@zQv) (@zQw)))))))) (And.intro (And.intro (And.intro (And.intro (And.intro (And.intro (@zQx) (@zQy)) (And.intro (@zQz) (And.intro (@zPv) (@zPw)))) (And.intro (And.intro (@zPx) (And.intro (@zPy) (@zPz))) (And.intro (@zOv) (And.intro (@zOw) (@zOx))))) (And.intro (And.intro (And.intro (@zOy) (@zOz)) (And.intro (@zNv) (And.intro (@zNw) (@zNx)))) (And.intro (And.intro (@zNy) (And.intro (@zNz) (@zMv))) (And.intro (@zMw) (And.intro (@zMx) (@zMy)))))) (And.intro (And.intro (And.intro (And.intro (@zMz) (@yQy)) (And.intro (@yQz) (And.intro (@yPv) (@yPw)))) (And.intro (And.intro (@yPx) (And.intro (@yPy) (@yPz))) (And.intro (@yOv) (And.intro (@yOw) (@yOx))))) (And.intro (And.intro (And.intro (@yOy) (And.intro (@yOz) (@yNv))) (And.intro (@yNw) (And.intro (@yNx) (@yNy)))) (And.intro (And.intro (@yNz) (And.intro (@yMv) (@yMw))) (And.intro (@yMx) (And.intro (@yMy) (@yMz))))))) (And.intro (And.intro (And.intro (And.intro (And.intro (@yLv) (@yLw)) (And.intro (@yLx) (And.intro (@yLy) (@yLz)))) (And.intro (And.intro (@yKv) (And.intro (@yKw) (@yKx))) (And.intro (@yKy) (And.intro (@yKz) (@yJv))))) (And.intro (And.intro (And.intro (@yJw) (@yJx)) (And.intro (@yJy) (And.intro (@yJz) (@yIv)))) (And.intro (And.intro (@yIw) (And.intro (@yIx) (@yIy))) (And.intro (@yIz) (And.intro (@yHv) (@yHw)))))) (And.intro (And.intro (And.intro (And.intro (@yHx) (@yHy)) (And.intro (@yHz) (And.intro (@yGv) (@yGw)))) (And.intro (And.intro (@yGx) (And.intro (@zYz) (@zXv))) (And.intro (@yGy) (And.intro (@yGz) (@yFv))))) (And.intro (And.intro (And.intro (@yFw) (And.intro (@yFx) (@yFy))) (And.intro (@yFz) (And.intro (@yEv) (@yEw)))) (And.intro (And.intro (@yEx) (And.intro (@yEy) (@zXw))) (And.intro (@yEz) (And.intro (@yDv) (@zXx))))))))
def teC (T:Te):List AV:=[ii T.sp,ii T.lo,ii T.we,ii T.al,ii T.f0,ii T.f1,ii T.t0,ii T.t1,ii T.s0,ii T.s1,ii T.o0,ii T.o1,ii T.b0,ii T.b1,ii T.r0,ii T.r1]
theorem teC_length (T:Te):(teC T).length=16:=rfl
structure TestsR (h:H) (s:AV) (ts:List Te):Prop where
  wf:Wf h
  sl:Sl h s 16 ts.length (ts.flatMap teC)
theorem TestsR.up {h:H} {s:AV} {ts:List Te} (x:TestsR h s ts) (l:List AO) (w:Nat) (hw:w≤h.clock+l.length):TestsR (X h l w) s ts:=⟨x.wf.X hw,x.sl.up x.wf l w⟩
theorem TestsR.at {h:H} {s:AV} {ts:List Te} (x:TestsR h s ts) {i:Nat} (hi:i<ts.length) : ∃ id off,indexAddrE Try.prog 51 s (.int .i64 (i:Int))=some (.ptr id off)∧(∀ J w,loadAgg id off (some 16) (X h J w)=some (.agg (teC ts[i]))):=by
  obtain ⟨id,off,h1,h2⟩:=x.sl.at x.wf hi ik_51
  refine ⟨id,off,h1,fun J w=>?_⟩
  rw [(h2 J w).2,flat_at teC_length hi]
def rgC (p:Int × Int):List AV:=[ii p.1,ii p.2]
theorem rgC_length (p:Int × Int):(rgC p).length=2:=rfl
def holdN :List Int→List Int→Nat
  | v :: vs,m :: ms=>if v≤m then holdN vs ms+1 else 0
  | _,_=>0
theorem holdN_at : ∀ {vs ms:List Int} {i:Nat},i<vs.length→vs.length≤ms.length→(∀ j,j<i→vs.getD j 0≤ms.getD j 0)→ms.getD i 0<vs.getD i 0→holdN vs ms=i
  | v :: vs,m :: ms,0,_,_,_,h=>by
    have h':m<v:=h
    show (if v≤m then _ else 0)=0
    rw [if_neg (by omega)]
  | v :: vs,m :: ms,i+1,h1,h2,h3,h=>by
    have h0:v≤m:=h3 0 (by omega)
    have:=holdN_at (vs:=vs) (ms:=ms) (i:=i) (by simpa using h1) (by simpa using h2) (fun j hj=>h3 (j+1) (by omega)) h
    show (if v≤m then holdN vs ms+1 else 0)=i+1
    rw [if_pos h0,this]
  | v :: vs,[],i,h1,h2,_,_=>by simp at h2
  | [],_,i,h1,_,_,_=>by simp at h1
theorem holdN_all : ∀ {vs ms:List Int},vs.length≤ms.length→(∀ j,j<vs.length→vs.getD j 0≤ms.getD j 0)→holdN vs ms=vs.length
  | [],ms,_,_=>by cases ms <;> rfl
  | v :: vs,m :: ms,h2,h3=>by
    have h0:v≤m:=h3 0 (by simp)
    have:=holdN_all (vs:=vs) (ms:=ms) (by simpa using h2) (fun j hj=>h3 (j+1) (by simpa using hj))
    show (if v≤m then holdN vs ms+1 else 0)=vs.length+1
    rw [if_pos h0,this]
  | v :: vs,[],h2,_=>by simp at h2

theorem hiOf (u v:Int) (h:H) (wf:Wf h):(om Try.prog KK).call (.fn 63 [.agg [ii u,ii v]]) h = .ok (ii v) h:=by
  refine zWy (zLx (fn:=Try.f63) Try.func63 rfl rfl rfl rfl rfl ?_)
  simp only [zLy]
  (repeat' (first
  | (with_reducible first|refine zJw ?_|refine zHz ?_|refine zEv ?_|refine zEw ?_|refine zFz ?_|refine zJv ?_|refine zHy ?_|refine zBv ?_|refine zDx ?_|refine zCz ?_|refine zCw ?_|refine zEy ?_|refine zCv ?_|refine zCy ?_|refine zBy ?_|refine zDv ?_|refine zEz ?_|refine zAw ?_|refine zBz ?_)
  | refine zDz ?_|refine zEx rfl ?_|refine zJy ?_|refine zJx ?_
  | ((first|refine zGv rfl rfl rfl rfl rfl fun K_ hK_=>?_|refine zGw rfl rfl rfl rfl rfl fun K_ hK_=>?_);simp only [zAz,zDy,zGx,↓reduceIte,reduceCtorEq,Nat.reduceEqDiff,Bool.not_true,Bool.not_false];refine hK_ _ ?_;clear hK_ K_)
  | refine zDw (by decide) ?_
  | ((try first|refine zKy rfl rfl rfl ?_|refine zJz rfl rfl ?_|refine zKx rfl rfl rfl ?_|refine zIv rfl rfl ?_);(refine zIw fun Q_ hQ_=>?_;simp (disch:=first|omega|(simp only [List.length_cons,List.length_nil,List.length_append];omega)) only [bb,bp,zLy,↓reduceIte,reduceCtorEq,Nat.reduceEqDiff,Nat.reduceLT,Nat.reduceLeDiff,Nat.reduceAdd,Nat.reduceMul,Nat.reduceSub,Nat.reduceBEq,Int.reduceToNat,cond_true,cond_false,eq_self,beq_self_eq_true,zFx wf,zGy wf,zBw wf,zFy wf,zAy wf,zAx,tEvD24,zIx,zIy,zIz,zHv,zFv,zAv wf];first|(refine zCx (Q:=Q_) (fun hp_=>?_) (fun hp_=>?_) <;> first|(exfalso;omega)|(refine hQ_ _ _ ?_;clear hQ_ Q_))|(refine zBx (Q:=Q_) (fun hp_=>?_) (fun hp_=>?_) <;> first|(exfalso;omega)|(refine hQ_ _ _ ?_;clear hQ_ Q_))|(refine hQ_ _ _ ?_;clear hQ_ Q_)))
  | (refine zHx fun K_ hK_=>?_;simp (disch:=omega) only [zGz,zAz,zHw,↓reduceIte,reduceCtorEq,Nat.reduceEqDiff,Nat.reduceLT];refine hK_ _ ?_;clear hK_ K_)))
  (refine zKz _ _ rfl (ret1 (by decide)) ?_;simp only [zAz,↓reduceIte,reduceCtorEq,Nat.reduceEqDiff];refine zKw rfl (by omega) ?_)
  exact ⟨rfl,rfl⟩
theorem loOf (u v:Int) (h:H) (wf:Wf h):(om Try.prog KK).call (.fn 64 [.agg [ii u,ii v]]) h = .ok (ii u) h:=by
  refine zWy (zLx (fn:=Try.f64) Try.func64 rfl rfl rfl rfl rfl ?_)
  simp only [zLy]
  (repeat' (first
  | (with_reducible first|refine zJw ?_|refine zHz ?_|refine zEv ?_|refine zEw ?_|refine zFz ?_|refine zJv ?_|refine zHy ?_|refine zBv ?_|refine zDx ?_|refine zCz ?_|refine zCw ?_|refine zEy ?_|refine zCv ?_|refine zCy ?_|refine zBy ?_|refine zDv ?_|refine zEz ?_|refine zAw ?_|refine zBz ?_)
  | refine zDz ?_|refine zEx rfl ?_|refine zJy ?_|refine zJx ?_
  | ((first|refine zGv rfl rfl rfl rfl rfl fun K_ hK_=>?_|refine zGw rfl rfl rfl rfl rfl fun K_ hK_=>?_);simp only [zAz,zDy,zGx,↓reduceIte,reduceCtorEq,Nat.reduceEqDiff,Bool.not_true,Bool.not_false];refine hK_ _ ?_;clear hK_ K_)
  | refine zDw (by decide) ?_
  | ((try first|refine zKy rfl rfl rfl ?_|refine zJz rfl rfl ?_|refine zKx rfl rfl rfl ?_|refine zIv rfl rfl ?_);(refine zIw fun Q_ hQ_=>?_;simp (disch:=first|omega|(simp only [List.length_cons,List.length_nil,List.length_append];omega)) only [bb,bp,zLy,↓reduceIte,reduceCtorEq,Nat.reduceEqDiff,Nat.reduceLT,Nat.reduceLeDiff,Nat.reduceAdd,Nat.reduceMul,Nat.reduceSub,Nat.reduceBEq,Int.reduceToNat,cond_true,cond_false,eq_self,beq_self_eq_true,zFx wf,zGy wf,zBw wf,zFy wf,zAy wf,zAx,tEvD24,zIx,zIy,zIz,zHv,zFv,zAv wf];first|(refine zCx (Q:=Q_) (fun hp_=>?_) (fun hp_=>?_) <;> first|(exfalso;omega)|(refine hQ_ _ _ ?_;clear hQ_ Q_))|(refine zBx (Q:=Q_) (fun hp_=>?_) (fun hp_=>?_) <;> first|(exfalso;omega)|(refine hQ_ _ _ ?_;clear hQ_ Q_))|(refine hQ_ _ _ ?_;clear hQ_ Q_)))
  | (refine zHx fun K_ hK_=>?_;simp (disch:=omega) only [zGz,zAz,zHw,↓reduceIte,reduceCtorEq,Nat.reduceEqDiff,Nat.reduceLT];refine hK_ _ ?_;clear hK_ K_)))
  (refine zKz _ _ rfl (ret1 (by decide)) ?_;simp only [zAz,↓reduceIte,reduceCtorEq,Nat.reduceEqDiff];refine zKw rfl (by omega) ?_)
  exact ⟨rfl,rfl⟩
theorem held (g:Nat) (hg:g=63∨g=64) (m p:AV) (ms:List Int) (ps:List (Int × Int)) (hlen:ps.length=ms.length) (hn:ms.length≤1000) (h:H) (wf:Wf h) (hm:Sl h m 1 ms.length (ms.map ii)) (hp:Sl h p 2 ps.length (ps.flatMap rgC)) (fm:AV.cells m=[m]∧oneB m=true) (fp:AV.cells p=[p]∧oneB p=true) :
    (om Try.prog KK).call (.fn 62 [.agg [m,p],.fn g [] []]) h = .ok (ii (holdN (ps.map fun q=>if g=63 then q.2 else q.1) ms:Nat)) h:=by
  obtain ⟨f1,f2⟩:=fm
  obtain ⟨f3,f4⟩:=fp
  have hl : ∀ h',lenE Try.prog 96 p h'=some (ii (ps.length:Int)):=fun h'=>hp.len un_96
  have hpb:plainB Try.prog g=true:=by rcases hg with rfl|rfl <;> first|exact zYz|exact zXv
  have cg : ∀ u v l w,w≤h.clock+l.length→(om Try.prog KK).call (.fn g [.agg [ii u,ii v]]) (X h l w) = .ok (ii (if g=63 then v else u)) (X h l w):=fun u v l w hw=>by
    rcases hg with rfl|rfl
    · exact hiOf u v _ (wf.X hw)
    · exact loOf u v _ (wf.X hw)
  have vl:(ps.map fun q=>if g=63 then q.2 else q.1).length=ps.length:=by simp
  have vg : ∀ j (hj:j<ps.length),(ps.map fun q=>if g=63 then q.2 else q.1).getD j 0=if g=63 then ps[j].2 else ps[j].1:=fun j hj=>by simp [List.getD,hj]
  generalize (ps.map fun q=>if g=63 then q.2 else q.1)=vs at *
  refine zWy (zLx (fn:=Try.f62) Try.func62 rfl rfl rfl rfl rfl ?_)
  simp only [zLy]
  (repeat' (first
  | (with_reducible first|refine zJw ?_|refine zHz ?_|refine zEv ?_|refine zEw ?_|refine zFz ?_|refine zJv ?_|refine zHy ?_|refine zBv ?_|refine zDx ?_|refine zCz ?_|refine zCw ?_|refine zEy ?_|refine zCv ?_|refine zCy ?_|refine zBy ?_|refine zDv ?_|refine zEz ?_|refine zAw ?_|refine zBz ?_)
  | refine zDz ?_|refine zEx rfl ?_|refine zJy ?_|refine zJx ?_
  | ((first|refine zGv rfl rfl rfl rfl rfl fun K_ hK_=>?_|refine zGw rfl rfl rfl rfl rfl fun K_ hK_=>?_);simp only [zAz,zDy,zGx,↓reduceIte,reduceCtorEq,Nat.reduceEqDiff,Bool.not_true,Bool.not_false];refine hK_ _ ?_;clear hK_ K_)
  | refine zDw (by decide) ?_
  | ((try first|refine zKy rfl rfl rfl ?_|refine zJz rfl rfl ?_|refine zKx rfl rfl rfl ?_|refine zIv rfl rfl ?_);(refine zIw fun Q_ hQ_=>?_;simp (disch:=first|omega|(simp only [List.length_cons,List.length_nil,List.length_append];omega)) only [bb,bp,zLy,↓reduceIte,reduceCtorEq,Nat.reduceEqDiff,Nat.reduceLT,Nat.reduceLeDiff,Nat.reduceAdd,Nat.reduceMul,Nat.reduceSub,Nat.reduceBEq,Int.reduceToNat,cond_true,cond_false,eq_self,beq_self_eq_true,hl,f1,f2,f3,f4,zFx wf,zGy wf,zBw wf,zFy wf,zAy wf,zAx,tEvD24,zIx,zIy,zIz,zHv,zFv,zAv wf];first|(refine zCx (Q:=Q_) (fun hp_=>?_) (fun hp_=>?_) <;> first|(exfalso;omega)|(refine hQ_ _ _ ?_;clear hQ_ Q_))|(refine zBx (Q:=Q_) (fun hp_=>?_) (fun hp_=>?_) <;> first|(exfalso;omega)|(refine hQ_ _ _ ?_;clear hQ_ Q_))|(refine hQ_ _ _ ?_;clear hQ_ Q_)))
  | (refine zHx fun K_ hK_=>?_;simp (disch:=omega) only [zGz,zAz,zHw,↓reduceIte,reduceCtorEq,Nat.reduceEqDiff,Nat.reduceLT];refine hK_ _ ?_;clear hK_ K_)))
  refine zVw (fun (i:Nat) f d h'=>i≤ps.length∧(∀ j,j<i→vs.getD j 0≤ms.getD j 0)∧f 1 = .fn g [] []∧f 2 = .ptr (nx h 0) 0∧f 8=p∧f 9=ii (ps.length:Int)∧f 10=ii (i:Int)∧d=[] ∧ ∃ G,h'=X h (.cells (zFw [m,p]) 98 :: G) h.clock) (fun i=>ps.length - i) ?_ (ps.length+1) 0 (by omega) ?_
  · rintro i f d h' ⟨hi,hall,g1,g2,g8,g9,g10,rfl,G,rfl⟩
    by_cases hlt:i<ps.length
    · obtain ⟨id,off,hix,hld⟩:=hp.at wf hlt ik_96
      have hrow : ∀ l w,loadAgg id off (some 2) (X h l w)=some (.agg [ii ps[i].1,ii ps[i].2]):=fun l w=>by rw [(hld l w).2,flat_at rgC_length hlt];rfl
      obtain ⟨ie,oe,hxe,hle⟩:=hm.at1 wf (i:=i) (by omega) ik_22
      have hle' : ∀ J w,load1 ie oe (X h J w)=some (ii (ms.getD i 0)):=fun J w=>by
        rw [hle,List.getElem?_map];simp [List.getD,show i<ms.length by omega]
      have hv:=vg i hlt
      generalize ps[i].1=p1 at *
      generalize ps[i].2=p2 at *
      generalize hmi:ms.getD i 0=mi at *
      have cgi:=cg p1 p2
      rw [← hv] at cgi
      generalize hvi:vs.getD i 0=vi at *
      (repeat' (first
  | (with_reducible first|refine zJw ?_|refine zHz ?_|refine zEv ?_|refine zEw ?_|refine zFz ?_|refine zJv ?_|refine zHy ?_|refine zBv ?_|refine zDx ?_|refine zCz ?_|refine zCw ?_|refine zEy ?_|refine zCv ?_|refine zCy ?_|refine zBy ?_|refine zDv ?_|refine zEz ?_|refine zAw ?_|refine zBz ?_)
  | refine zDz ?_|refine zEx rfl ?_|refine zJy ?_|refine zJx ?_
  | ((first|refine zGv rfl rfl rfl rfl rfl fun K_ hK_=>?_|refine zGw rfl rfl rfl rfl rfl fun K_ hK_=>?_);simp only [zAz,zDy,zGx,↓reduceIte,reduceCtorEq,Nat.reduceEqDiff,Bool.not_true,Bool.not_false];refine hK_ _ ?_;clear hK_ K_)
  | refine zDw (by decide) ?_
  | ((try first|refine zKy rfl rfl rfl ?_|refine zJz rfl rfl ?_|refine zKx rfl rfl rfl ?_|refine zIv rfl rfl ?_);(refine zIw fun Q_ hQ_=>?_;simp (disch:=first|omega|(simp only [List.length_cons,List.length_nil,List.length_append];omega)) only [bb,bp,zLy,↓reduceIte,reduceCtorEq,Nat.reduceEqDiff,Nat.reduceLT,Nat.reduceLeDiff,Nat.reduceAdd,Nat.reduceMul,Nat.reduceSub,Nat.reduceBEq,Int.reduceToNat,cond_true,cond_false,eq_self,beq_self_eq_true,g1,g2,g8,g9,g10,hix,hrow,zFx wf,zGy wf,zBw wf,zFy wf,zAy wf,zAx,tEvD24,zIx,zIy,zIz,zHv,zFv,zAv wf];first|(refine zCx (Q:=Q_) (fun hp_=>?_) (fun hp_=>?_) <;> first|(exfalso;omega)|(refine hQ_ _ _ ?_;clear hQ_ Q_))|(refine zBx (Q:=Q_) (fun hp_=>?_) (fun hp_=>?_) <;> first|(exfalso;omega)|(refine hQ_ _ _ ?_;clear hQ_ Q_))|(refine hQ_ _ _ ?_;clear hQ_ Q_)))
  | (refine zHx fun K_ hK_=>?_;simp (disch:=omega) only [zGz,zAz,zHw,↓reduceIte,reduceCtorEq,Nat.reduceEqDiff,Nat.reduceLT];refine hK_ _ ?_;clear hK_ K_)))
      refine zLv (List.replicate 8 .no++[.full]) (by kernel_rfl) ?_
      (repeat' (first
  | (with_reducible first|refine zJw ?_|refine zHz ?_|refine zEv ?_|refine zEw ?_|refine zFz ?_|refine zJv ?_|refine zHy ?_|refine zBv ?_|refine zDx ?_|refine zCz ?_|refine zCw ?_|refine zEy ?_|refine zCv ?_|refine zCy ?_|refine zBy ?_|refine zDv ?_|refine zEz ?_|refine zAw ?_|refine zBz ?_)
  | refine zDz ?_|refine zEx rfl ?_|refine zJy ?_|refine zJx ?_
  | ((first|refine zGv rfl rfl rfl rfl rfl fun K_ hK_=>?_|refine zGw rfl rfl rfl rfl rfl fun K_ hK_=>?_);simp only [zAz,zDy,zGx,↓reduceIte,reduceCtorEq,Nat.reduceEqDiff,Bool.not_true,Bool.not_false];refine hK_ _ ?_;clear hK_ K_)
  | refine zDw (by decide) ?_
  | ((try first|refine zKy rfl rfl rfl ?_|refine zJz rfl rfl ?_|refine zKx rfl rfl rfl ?_|refine zIv rfl rfl ?_);(refine zIw fun Q_ hQ_=>?_;simp (disch:=first|omega|(simp only [List.length_cons,List.length_nil,List.length_append];omega)) only [bb,bp,zLy,↓reduceIte,reduceCtorEq,Nat.reduceEqDiff,Nat.reduceLT,Nat.reduceLeDiff,Nat.reduceAdd,Nat.reduceMul,Nat.reduceSub,Nat.reduceBEq,Int.reduceToNat,cond_true,cond_false,eq_self,beq_self_eq_true,g1,g2,g8,g9,g10,hpb,xGx,cgi,hxe,hle',f1,f2,f3,f4,zFx wf,zGy wf,zBw wf,zFy wf,zAy wf,zAx,tEvD24,zIx,zIy,zIz,zHv,zFv,zAv wf];first|(refine zCx (Q:=Q_) (fun hp_=>?_) (fun hp_=>?_) <;> first|(exfalso;omega)|(refine hQ_ _ _ ?_;clear hQ_ Q_))|(refine zBx (Q:=Q_) (fun hp_=>?_) (fun hp_=>?_) <;> first|(exfalso;omega)|(refine hQ_ _ _ ?_;clear hQ_ Q_))|(refine hQ_ _ _ ?_;clear hQ_ Q_)))
  | (refine zHx fun K_ hK_=>?_;simp (disch:=omega) only [zGz,zAz,zHw,↓reduceIte,reduceCtorEq,Nat.reduceEqDiff,Nat.reduceLT];refine hK_ _ ?_;clear hK_ K_)))
      · (refine zKz _ _ rfl (ret1 (by decide)) ?_;simp only [zAz,↓reduceIte,reduceCtorEq,Nat.reduceEqDiff];refine zKw rfl (by omega) ?_)
        exact ⟨by rw [holdN_at (vs:=vs) (ms:=ms) (i:=i) (by omega) (by omega) hall (by omega)],rfl⟩
      · refine zLz (i+1) (by omega) ⟨hlt,fun j hj=>?_,by simp only [zAz,↓reduceIte,reduceCtorEq,Nat.reduceEqDiff];exact g1,by simp only [zAz,↓reduceIte,reduceCtorEq,Nat.reduceEqDiff];exact g2,by simp only [zAz,↓reduceIte,reduceCtorEq,Nat.reduceEqDiff];exact g8,by simp only [zAz,↓reduceIte,reduceCtorEq,Nat.reduceEqDiff];exact g9,by simp only [zAz,↓reduceIte,reduceCtorEq,Nat.reduceEqDiff];rfl,rfl,_,rfl⟩
        by_cases hji:j=i
        · rw [hji,hvi,hmi];omega
        · exact hall j (by omega)
    · have hie:i=ps.length:=by omega
      (repeat' (first
  | (with_reducible first|refine zJw ?_|refine zHz ?_|refine zEv ?_|refine zEw ?_|refine zFz ?_|refine zJv ?_|refine zHy ?_|refine zBv ?_|refine zDx ?_|refine zCz ?_|refine zCw ?_|refine zEy ?_|refine zCv ?_|refine zCy ?_|refine zBy ?_|refine zDv ?_|refine zEz ?_|refine zAw ?_|refine zBz ?_)
  | refine zDz ?_|refine zEx rfl ?_|refine zJy ?_|refine zJx ?_
  | ((first|refine zGv rfl rfl rfl rfl rfl fun K_ hK_=>?_|refine zGw rfl rfl rfl rfl rfl fun K_ hK_=>?_);simp only [zAz,zDy,zGx,↓reduceIte,reduceCtorEq,Nat.reduceEqDiff,Bool.not_true,Bool.not_false];refine hK_ _ ?_;clear hK_ K_)
  | refine zDw (by decide) ?_
  | ((try first|refine zKy rfl rfl rfl ?_|refine zJz rfl rfl ?_|refine zKx rfl rfl rfl ?_|refine zIv rfl rfl ?_);(refine zIw fun Q_ hQ_=>?_;simp (disch:=first|omega|(simp only [List.length_cons,List.length_nil,List.length_append];omega)) only [bb,bp,zLy,↓reduceIte,reduceCtorEq,Nat.reduceEqDiff,Nat.reduceLT,Nat.reduceLeDiff,Nat.reduceAdd,Nat.reduceMul,Nat.reduceSub,Nat.reduceBEq,Int.reduceToNat,cond_true,cond_false,eq_self,beq_self_eq_true,g1,g2,g8,g9,g10,hl,zFx wf,zGy wf,zBw wf,zFy wf,zAy wf,zAx,tEvD24,zIx,zIy,zIz,zHv,zFv,zAv wf];first|(refine zCx (Q:=Q_) (fun hp_=>?_) (fun hp_=>?_) <;> first|(exfalso;omega)|(refine hQ_ _ _ ?_;clear hQ_ Q_))|(refine zBx (Q:=Q_) (fun hp_=>?_) (fun hp_=>?_) <;> first|(exfalso;omega)|(refine hQ_ _ _ ?_;clear hQ_ Q_))|(refine hQ_ _ _ ?_;clear hQ_ Q_)))
  | (refine zHx fun K_ hK_=>?_;simp (disch:=omega) only [zGz,zAz,zHw,↓reduceIte,reduceCtorEq,Nat.reduceEqDiff,Nat.reduceLT];refine hK_ _ ?_;clear hK_ K_)))
      (refine zKz _ _ rfl (ret1 (by decide)) ?_;simp only [zAz,↓reduceIte,reduceCtorEq,Nat.reduceEqDiff];refine zKw rfl (by omega) ?_)
      exact ⟨by rw [holdN_all (vs:=vs) (ms:=ms) (by omega) (fun j hj=>hall j (by omega)),vl],rfl⟩
  · exact ⟨Nat.zero_le _,fun j hj=>absurd hj (Nat.not_lt_zero j),by simp only [zAz,↓reduceIte,reduceCtorEq,Nat.reduceEqDiff],by simp only [zAz,↓reduceIte,reduceCtorEq,Nat.reduceEqDiff],by simp only [zAz,↓reduceIte,reduceCtorEq,Nat.reduceEqDiff],by simp only [zAz,↓reduceIte,reduceCtorEq,Nat.reduceEqDiff],by first|(simp only [zAz,↓reduceIte,reduceCtorEq,Nat.reduceEqDiff];done)|(simp only [zAz,↓reduceIte,reduceCtorEq,Nat.reduceEqDiff];rfl),rfl,[],rfl⟩
end Go.Proofs.Ythaleckfgcgegaa
end

section
namespace Go.Proofs.Ythaleckfgcgegaa
open Go.ChangeShapes Go.WideShapes Go.ChangeAt Go.RowKit Go.Ev
set_option maxRecDepth 100000
set_option maxHeartbeats 0
instance:Inhabited Ln:=⟨⟨.nils,.nils,[],[]⟩⟩
instance:Inhabited Te:=⟨⟨0,0,0,0,0,0,0,0,0,0,0,0,0,0,0,0⟩⟩
theorem cells33 :Try.prog.cellsOf 33=2:=by kernel_rfl
theorem under35 : ∃ f0 f1 f2 f3 f4 f5 f6 f7 f8 f9:Field,Try.prog.underlying 35=some (.struct #[f0,f1,f2,f3,f4,f5,f6,f7,f8,f9])∧(f0.offset=0∧f1.offset=1∧f2.offset=2∧f3.offset=3∧f4.offset=4∧f5.offset=6∧f6.offset=8∧f7.offset=10∧f8.offset=12∧f9.offset=14) ∧
    (f0.type=2∧f1.type=2∧f2.type=2∧f3.type=2)∧(f4.type=33∧f5.type=33∧f6.type=33∧f7.type=33∧f8.type=33∧f9.type=33):=
  ⟨_,_,_,_,_,_,_,_,_,_,Try.underlying35,⟨rfl,rfl,rfl,rfl,rfl,rfl,rfl,rfl,rfl,rfl⟩,⟨rfl,rfl,rfl,rfl⟩,rfl,rfl,rfl,rfl,rfl,rfl⟩
section
variable {H:Type} {enc:TypeId × Value→H} {r:Reach} {bs:Nat}
theorem lines_in {W:World} {v:Value} {fuel:Nat} {x:DataW H × List MemPlace} (hval:Cell.okWide Try.prog W r bs 43 v) (h:DataW.trod enc Try.prog W 0 (fun _=>true) true fuel 43 [v]=some x) :
    ∃ (a:AV) (ls:List Ln),VR (startWR W) a v∧CapU 2 a∧LinesR (startW W) a ls:=by
  obtain ⟨f0,f1,hu,o0,o1,t0,t1⟩:=under24
  obtain ⟨ls,b,h1,h2,h3,h4⟩:=open_elems (f:=lnC) (R:=fun l=>LineR (startW W) l.a l.b l.re l.cf) Try.underlying43 cells24 (by decide) xJv hval h (fun cs n y hl hy=>by
    obtain ⟨xs,k,_,_,_,hxl,hf⟩:=DataW.trod_struct hu hy
    have g0:=hf 0 f0 rfl
    have g1:=hf 1 f1 rfl
    rw [o0,t0,cells22] at g0
    rw [o1,t1,cells22] at g1
    have hl2:xs.length=2:=hxl
    rw [List.getElem?_eq_getElem (by omega)] at g0 g1
    match cs,hl with
    | [u,w],_=>
      obtain ⟨re,a,q1,_,q3⟩:=xPw Try.underlying22 Try.underlying2 cells2 g0
      obtain ⟨cf,b,q4,_,q6⟩:=xPw Try.underlying22 Try.underlying2 cells2 g1
      refine ⟨⟨a,b,re,cf⟩,fun k hk=>?_,startW_wf W,q3,q6⟩
      match k,hk with
      | 0,_=>exact q1
      | 1,_=>exact q4)
  exact ⟨b,ls,h1,h2.capu 2,startW_wf W,h3,h4⟩
theorem xJw {W:World} {n:Nat} {u v:Value} {y:DataW H × List MemPlace} (h:DataW.trod enc Try.prog W 0 (fun _=>true) true n 33 [u,v]=some y) : ∃ a b:Int,u = .int .i64 a∧v = .int .i64 b:=by
  obtain ⟨xs,k,_,_,_,hxl,hf⟩:=DataW.trod_struct Try.underlying33 h
  have g0:=hf 0 _ rfl
  have g1:=hf 1 _ rfl
  have hl2:xs.length=2:=hxl
  rw [List.getElem?_eq_getElem (by omega)] at g0 g1
  have g0':DataW.trod enc Try.prog W 0 (fun _=>true) true k 2 (([u,v].drop 0).take (Try.prog.cellsOf 2))=some _:=g0
  have g1':DataW.trod enc Try.prog W 0 (fun _=>true) true k 2 (([u,v].drop 1).take (Try.prog.cellsOf 2))=some _:=g1
  rw [cells2] at g0' g1'
  obtain ⟨a,h1,_⟩:=DataW.trod_int Try.underlying2 g0'
  obtain ⟨b,h2,_⟩:=DataW.trod_int Try.underlying2 g1'
  cases h1
  cases h2
  exact ⟨a,b,rfl,rfl⟩
theorem tests_in {W:World} {v:Value} {fuel:Nat} {x:DataW H × List MemPlace} (hval:Cell.okWide Try.prog W r bs 51 v) (h:DataW.trod enc Try.prog W 0 (fun _=>true) true fuel 51 [v]=some x) :
    ∃ (a:AV) (ts:List Te),VR (startWR W) a v∧TestsR (startW W) a ts:=by
  obtain ⟨f0,f1,f2,f3,f4,f5,f6,f7,f8,f9,hu,⟨o0,o1,o2,o3,o4,o5,o6,o7,o8,o9⟩,⟨t0,t1,t2,t3⟩,t4,t5,t6,t7,t8,t9⟩:=under35
  obtain ⟨ls,b,h1,h2,h3,h4⟩:=open_elems (f:=teC) (R:=fun _=>True) Try.underlying51 cells35 (by decide) teC_length hval h (fun cs n y hl hy=>by
    obtain ⟨xs,k,_,_,_,hxl,hf⟩:=DataW.trod_struct hu hy
    have hl2:xs.length=10:=hxl
    have g0:=hf 0 f0 rfl
    have g1:=hf 1 f1 rfl
    have g2:=hf 2 f2 rfl
    have g3:=hf 3 f3 rfl
    have g4:=hf 4 f4 rfl
    have g5:=hf 5 f5 rfl
    have g6:=hf 6 f6 rfl
    have g7:=hf 7 f7 rfl
    have g8:=hf 8 f8 rfl
    have g9:=hf 9 f9 rfl
    rw [List.getElem?_eq_getElem (by omega)] at g0 g1 g2 g3 g4 g5 g6 g7 g8 g9
    rw [o0,t0,cells2] at g0
    rw [o1,t1,cells2] at g1
    rw [o2,t2,cells2] at g2
    rw [o3,t3,cells2] at g3
    rw [o4,t4,cells33] at g4
    rw [o5,t5,cells33] at g5
    rw [o6,t6,cells33] at g6
    rw [o7,t7,cells33] at g7
    rw [o8,t8,cells33] at g8
    rw [o9,t9,cells33] at g9
    match cs,hl with
    | [c0,c1,c2,c3,c4,c5,c6,c7,c8,c9,c10,c11,c12,c13,c14,c15],_=>
      obtain ⟨a0,e0,_⟩:=DataW.trod_int Try.underlying2 g0
      obtain ⟨a1,e1,_⟩:=DataW.trod_int Try.underlying2 g1
      obtain ⟨a2,e2,_⟩:=DataW.trod_int Try.underlying2 g2
      obtain ⟨a3,e3,_⟩:=DataW.trod_int Try.underlying2 g3
      cases e0
      cases e1
      cases e2
      cases e3
      obtain ⟨a4,a5,rfl,rfl⟩:=xJw g4
      obtain ⟨a6,a7,rfl,rfl⟩:=xJw g5
      obtain ⟨a8,a9,rfl,rfl⟩:=xJw g6
      obtain ⟨a10,a11,rfl,rfl⟩:=xJw g7
      obtain ⟨a12,a13,rfl,rfl⟩:=xJw g8
      obtain ⟨a14,a15,rfl,rfl⟩:=xJw g9
      refine ⟨⟨a0,a1,a2,a3,a4,a5,a6,a7,a8,a9,a10,a11,a12,a13,a14,a15⟩,fun k hk=>?_,trivial⟩
      match k,hk with
      | 0,_=>rfl|1,_=>rfl|2,_=>rfl|3,_=>rfl|4,_=>rfl|5,_=>rfl|6,_=>rfl|7,_=>rfl
      | 8,_=>rfl|9,_=>rfl|10,_=>rfl|11,_=>rfl|12,_=>rfl|13,_=>rfl|14,_=>rfl|15,_=>rfl
      | k+16,hk=>exact absurd hk (by omega))
  exact ⟨b,ls,h1,startW_wf W,h3⟩
theorem limits_in {W:World} {v:Value} {fuel:Nat} {x:DataW H × List MemPlace} (hval:Cell.okWide Try.prog W r bs 22 v) (h:DataW.trod enc Try.prog W 0 (fun _=>true) true fuel 22 [v]=some x) :
    ∃ (a:AV) (ms:List Int),VR (startWR W) a v∧Capd a∧Sl (startW W) a 1 ms.length (ms.map ii):=by
  obtain ⟨ms,b,h1,h2,h3⟩:=open_i64s Try.underlying22 Try.underlying2 cells2 hval h
  exact ⟨b,ms,h1,h2,h3⟩
end
end Go.Proofs.Ythaleckfgcgegaa
end

section
namespace Go.Proofs.Ythaleckfgcgegaa
open Go.Ev
set_option maxRecDepth 100000
set_option linter.unusedSimpArgs false
set_option linter.unusedVariables false
set_option maxHeartbeats 2000000
theorem tEvD25 :type_of% (And.intro (And.intro (And.intro (And.intro (And.intro (And.intro (And.intro (@yWz) (@yVv)) (And.intro (@yVw) (And.intro (@yVx) (@yVy)))) (And.intro (And.intro (@yVz) (And.intro (@yUv) (@yUw))) (And.intro (@zVy) (And.intro (@ia_2) (@sz_2))))) (And.intro (And.intro (And.intro (@ia_3) (@sz_3)) (And.intro (@ia_4) (And.intro (@sz_4) (@yUx)))) (And.intro (And.intro (@yDw) (And.intro (@yUy) (@yDx))) (And.intro (@yUz) (And.intro (@yDy) (@yTv)))))) (And.intro (And.intro (And.intro (And.intro (@zWw) (@yTw)) (And.intro (@yDz) (And.intro (@yTx) (@yCv)))) (And.intro (And.intro (@yTy) (And.intro (@yCw) (@yTz))) (And.intro (@yCx) (And.intro (@ySv) (@yCy))))) (And.intro (And.intro (And.intro (@ySw) (And.intro (@yCz) (@ySx))) (And.intro (@zXz) (And.intro (@ySy) (@yBv)))) (And.intro (And.intro (@ySz) (And.intro (@yBw) (@yRv))) (And.intro (@yBx) (And.intro (@yRw) (@yBy))))))) (And.intro (And.intro (And.intro (And.intro (And.intro (@yRx) (@yBz)) (And.intro (@yRy) (And.intro (@yAv) (@yRz)))) (And.intro (And.intro (@yAw) (And.intro (@yQv) (@yAx))) (And.intro (@yQw) (And.intro (@yAy) (@yQx))))) (And.intro (And.intro (And.intro (@yAz) (@zVz)) (And.intro (@zTw) (And.intro (@zUv) (@zTx)))) (And.intro (And.intro (@zUw) (And.intro (@zTy) (@zUx))) (And.intro (@zTz) (And.intro (@zUy) (@zSv)))))) (And.intro (And.intro (And.intro (And.intro (@zUz) (@zSw)) (And.intro (@zTv) (And.intro (@zSx) (@ze_2)))) (And.intro (And.intro (@ze_3) (And.intro (@ze_4) (@zZv))) (And.intro (@zZw) (And.intro (@zZx) (@zZy))))) (And.intro (And.intro (And.intro (@zZz) (And.intro (@zYv) (@xDx))) (And.intro (@zYw) (And.intro (@zYx) (@zYy)))) (And.intro (And.intro (@zSy) (And.intro (@zRx) (@zRy))) (And.intro (@zRz) (And.intro (@zQv) (@zQw)))))))) (And.intro (And.intro (And.intro (And.intro (And.intro (And.intro (@zQx) (@zQy)) (And.intro (@zQz) (And.intro (@zPv) (@zPw)))) (And.intro (And.intro (@zPx) (And.intro (@zPy) (@zPz))) (And.intro (@zOv) (And.intro (@zOw) (@zOx))))) (And.intro (And.intro (And.intro (@zOy) (@zOz)) (And.intro (@zNv) (And.intro (@zNw) (@zNx)))) (And.intro (And.intro (@zNy) (And.intro (@zNz) (@zMv))) (And.intro (@zMw) (And.intro (@zMx) (@zMy)))))) (And.intro (And.intro (And.intro (And.intro (@zMz) (@yQy)) (And.intro (@yQz) (And.intro (@yPv) (@yPw)))) (And.intro (And.intro (@yPx) (And.intro (@yPy) (@yPz))) (And.intro (@yOv) (And.intro (@yOw) (@yOx))))) (And.intro (And.intro (And.intro (@yOy) (And.intro (@yOz) (@yNv))) (And.intro (@yNw) (And.intro (@yNx) (@yNy)))) (And.intro (And.intro (@yNz) (And.intro (@yMv) (@yMw))) (And.intro (@yMx) (And.intro (@yMy) (@yMz))))))) (And.intro (And.intro (And.intro (And.intro (And.intro (@yLv) (@yLw)) (And.intro (@yLx) (And.intro (@yLy) (@yLz)))) (And.intro (And.intro (@yKv) (And.intro (@yKw) (@yKx))) (And.intro (@yKy) (And.intro (@yKz) (@yJv))))) (And.intro (And.intro (And.intro (@yJw) (@yJx)) (And.intro (@yJy) (And.intro (@yJz) (@yIv)))) (And.intro (And.intro (@yIw) (And.intro (@yIx) (@yIy))) (And.intro (@yIz) (And.intro (@yHv) (@yHw)))))) (And.intro (And.intro (And.intro (And.intro (@yHx) (@yHy)) (And.intro (@yHz) (And.intro (@yGv) (@yGw)))) (And.intro (And.intro (@yGx) (And.intro (@zYz) (@zXv))) (And.intro (@yGy) (And.intro (@yGz) (@yFv))))) (And.intro (And.intro (And.intro (@yFw) (And.intro (@yFx) (@yFy))) (And.intro (@yFz) (And.intro (@yEv) (@yEw)))) (And.intro (And.intro (@yEx) (And.intro (@yEy) (@zXw))) (And.intro (@yEz) (And.intro (@yDv) (@zXx))))))))):=And.intro (And.intro (And.intro (And.intro (And.intro (And.intro (And.intro (@yWz) (@yVv)) (And.intro (@yVw) (And.intro (@yVx) (@yVy)))) (And.intro (And.intro (@yVz) (And.intro (@yUv) (@yUw))) (And.intro (@zVy) (And.intro (@ia_2) (@sz_2))))) (And.intro (And.intro (And.intro (@ia_3) (@sz_3)) (And.intro (@ia_4) (And.intro (@sz_4) (@yUx)))) (And.intro (And.intro (@yDw) (And.intro (@yUy) (@yDx))) (And.intro (@yUz) (And.intro (@yDy) (@yTv)))))) (And.intro (And.intro (And.intro (And.intro (@zWw) (@yTw)) (And.intro (@yDz) (And.intro (@yTx) (@yCv)))) (And.intro (And.intro (@yTy) (And.intro (@yCw) (@yTz))) (And.intro (@yCx) (And.intro (@ySv) (@yCy))))) (And.intro (And.intro (And.intro (@ySw) (And.intro (@yCz) (@ySx))) (And.intro (@zXz) (And.intro (@ySy) (@yBv)))) (And.intro (And.intro (@ySz) (And.intro (@yBw) (@yRv))) (And.intro (@yBx) (And.intro (@yRw) (@yBy))))))) (And.intro (And.intro (And.intro (And.intro (And.intro (@yRx) (@yBz)) (And.intro (@yRy) (And.intro (@yAv) (@yRz)))) (And.intro (And.intro (@yAw) (And.intro (@yQv) (@yAx))) (And.intro (@yQw) (And.intro (@yAy) (@yQx))))) (And.intro (And.intro (And.intro (@yAz) (@zVz)) (And.intro (@zTw) (And.intro (@zUv) (@zTx)))) (And.intro (And.intro (@zUw) (And.intro (@zTy) (@zUx))) (And.intro (@zTz) (And.intro (@zUy) (@zSv)))))) (And.intro (And.intro (And.intro (And.intro (@zUz) (@zSw)) (And.intro (@zTv) (And.intro (@zSx) (@ze_2)))) (And.intro (And.intro (@ze_3) (And.intro (@ze_4) (@zZv))) (And.intro (@zZw) (And.intro (@zZx) (@zZy))))) (And.intro (And.intro (And.intro (@zZz) (And.intro (@zYv) (@xDx))) (And.intro (@zYw) (And.intro (@zYx) (@zYy)))) (And.intro (And.intro (@zSy) (And.intro (@zRx) (@zRy))) (And.intro (@zRz) (And.intro (@zQv) (@zQw)))))))) (And.intro (And.intro (And.intro (And.intro (And.intro (And.intro (@zQx) (@zQy)) (And.intro (@zQz) (And.intro (@zPv) (@zPw)))) (And.intro (And.intro (@zPx) (And.intro (@zPy) (@zPz))) (And.intro (@zOv) (And.intro (@zOw) (@zOx))))) (And.intro (And.intro (And.intro (@zOy) (@zOz)) (And.intro (@zNv) (And.intro (@zNw) (@zNx)))) (And.intro (And.intro (@zNy) (And.intro (@zNz) (@zMv))) (And.intro (@zMw) (And.intro (@zMx) (@zMy)))))) (And.intro (And.intro (And.intro (And.intro (@zMz) (@yQy)) (And.intro (@yQz) (And.intro (@yPv) (@yPw)))) (And.intro (And.intro (@yPx) (And.intro (@yPy) (@yPz))) (And.intro (@yOv) (And.intro (@yOw) (@yOx))))) (And.intro (And.intro (And.intro (@yOy) (And.intro (@yOz) (@yNv))) (And.intro (@yNw) (And.intro (@yNx) (@yNy)))) (And.intro (And.intro (@yNz) (And.intro (@yMv) (@yMw))) (And.intro (@yMx) (And.intro (@yMy) (@yMz))))))) (And.intro (And.intro (And.intro (And.intro (And.intro (@yLv) (@yLw)) (And.intro (@yLx) (And.intro (@yLy) (@yLz)))) (And.intro (And.intro (@yKv) (And.intro (@yKw) (@yKx))) (And.intro (@yKy) (And.intro (@yKz) (@yJv))))) (And.intro (And.intro (And.intro (@yJw) (@yJx)) (And.intro (@yJy) (And.intro (@yJz) (@yIv)))) (And.intro (And.intro (@yIw) (And.intro (@yIx) (@yIy))) (And.intro (@yIz) (And.intro (@yHv) (@yHw)))))) (And.intro (And.intro (And.intro (And.intro (@yHx) (@yHy)) (And.intro (@yHz) (And.intro (@yGv) (@yGw)))) (And.intro (And.intro (@yGx) (And.intro (@zYz) (@zXv))) (And.intro (@yGy) (And.intro (@yGz) (@yFv))))) (And.intro (And.intro (And.intro (@yFw) (And.intro (@yFx) (@yFy))) (And.intro (@yFz) (And.intro (@yEv) (@yEw)))) (And.intro (And.intro (@yEx) (And.intro (@yEy) (@zXw))) (And.intro (@yEz) (And.intro (@yDv) (@zXx))))))))
theorem copyE_none {P:Program} {t e:TypeId} {size len off esz:Nat} {id:Pos} {cap:Option Nat} {x:AV} {cs:List AV} {h:H} (hu:P.underlying t=some (.slice e)) (hz:sizeE P e=some size) (hs:srcCells h size x=some (0,cs)) :
    copyE P t (.sl id off len cap esz) x h = .ok (.int .i64 0) h:=by
  unfold copyE
  rw [hu]
  dsimp only
  rw [hz]
  dsimp only
  rw [hs]
  dsimp only
  rw [zLw,Nat.ble_eq_true_of_le (Nat.zero_le len)]
  rfl
theorem limitsOf (q:AV) (hcap:Capd q) (ms:List Int) (hn:ms.length≤1000) (h:H) (wf:Wf h) (hq:Sl h q 1 ms.length (ms.map ii)) (L:List AO) (w:Nat) (hw:w≤h.clock+L.length) :
    (om Try.prog KK).call (.fn 61 [q]) (X h L w) = .ok (.agg [.sl (nx h (L.length+1)) 0 ms.length (some ms.length) 1,.nils]) (X h (L++[.cells (zFw [.sl (nx h (L.length+1)) 0 ms.length (some ms.length) 1,.nils]) 98,.cells (zFw (ms.map ii)) 2,.cells (zFw [.sl (nx h (L.length+1)) 0 ms.length (some ms.length) 1,.nils]) 98]) w):=by
  have key : ∀ hb,Wf hb→Sl hb q 1 ms.length (ms.map ii)→(om Try.prog KK).call (.fn 61 [q]) hb = .ok (.agg [.sl (nx hb 1) 0 ms.length (some ms.length) 1,.nils]) (X hb [.cells (zFw [.sl (nx hb 1) 0 ms.length (some ms.length) 1,.nils]) 98,.cells (zFw (ms.map ii)) 2,.cells (zFw [.sl (nx hb 1) 0 ms.length (some ms.length) 1,.nils]) 98] hb.w):=by
    clear hq wf hw
    intro h wf hq
    have hl : ∀ h',lenE Try.prog 22 q h'=some (ii (ms.length:Int)):=fun h'=>hq.len yZw
    have hmk : ∀ l w,makeSliceE Try.prog 22 (.int .i64 (ms.length:Int)) (.int .i64 (ms.length:Int)) (X h l w) = .ok (.sl (nx h l.length) 0 ms.length (some ms.length) 1) (X h (l++[.cells (zFw (List.replicate ms.length (ii 0))) 2]) w):=
      fun l w=>makeSlice_X wf yZw sz_2 el_2 hn (by decide) rfl
    have hcp : ∀ c0 c2,copyE Try.prog 22 (.sl (nx h 1) 0 ms.length (some ms.length) 1) (reszT Try.prog 22 q) (X h [c0,.cells (zFw (List.replicate ms.length (ii 0))) 2,c2] h.clock) = .ok (ii (ms.length:Int)) (X h [c0,.cells (zFw (ms.map ii)) 2,c2] h.clock):=fun c0 c2=>by
      have hs:=(hq.up wf [c0,.cells (zFw (List.replicate ms.length (ii 0))) 2,c2] h.clock).src hcap yZw sz_2
      by_cases h0:ms.length=0
      · have e:ms=[]:=List.eq_nil_of_length_eq_zero h0
        subst e
        exact copyE_none yZw sz_2 hs
      · rw [copyE_X wf yZw sz_2 hs h0 (Nat.le_refl _) (by simp) (k:=1) (ee:=2) (old:=List.replicate ms.length (ii 0)) rfl (by simp) (allOne_map (fun _=>rfl) _)]
        rw [splice_all (by simp),Nat.min_eq_right (by omega)]
        rfl
    refine zWy (zLx (fn:=Try.f61) Try.func61 rfl rfl rfl rfl rfl ?_)
    simp only [zLy]
    (repeat' (first
  | (with_reducible first|refine zJw ?_|refine zHz ?_|refine zEv ?_|refine zEw ?_|refine zFz ?_|refine zJv ?_|refine zHy ?_|refine zBv ?_|refine zDx ?_|refine zCz ?_|refine zCw ?_|refine zEy ?_|refine zCv ?_|refine zCy ?_|refine zBy ?_|refine zDv ?_|refine zEz ?_|refine zAw ?_|refine zBz ?_)
  | refine zDz ?_|refine zEx rfl ?_|refine zJy ?_|refine zJx ?_
  | ((first|refine zGv rfl rfl rfl rfl rfl fun K_ hK_=>?_|refine zGw rfl rfl rfl rfl rfl fun K_ hK_=>?_);simp only [zAz,zDy,zGx,↓reduceIte,reduceCtorEq,Nat.reduceEqDiff,Bool.not_true,Bool.not_false];refine hK_ _ ?_;clear hK_ K_)
  | refine zDw (by decide) ?_
  | ((try first|refine zKy rfl rfl rfl ?_|refine zJz rfl rfl ?_|refine zKx rfl rfl rfl ?_|refine zIv rfl rfl ?_);(refine zIw fun Q_ hQ_=>?_;simp (disch:=first|omega|(simp only [List.length_cons,List.length_nil,List.length_append];omega)) only [bb,bp,zLy,↓reduceIte,reduceCtorEq,Nat.reduceEqDiff,Nat.reduceLT,Nat.reduceLeDiff,Nat.reduceAdd,Nat.reduceMul,Nat.reduceSub,Nat.reduceBEq,Int.reduceToNat,cond_true,cond_false,eq_self,beq_self_eq_true,hl,hmk,zFx wf,zGy wf,zBw wf,zFy wf,zAy wf,zAx,tEvD25,zIx,zIy,zIz,zHv,zFv,zAv wf];first|(refine zCx (Q:=Q_) (fun hp_=>?_) (fun hp_=>?_) <;> first|(exfalso;omega)|(refine hQ_ _ _ ?_;clear hQ_ Q_))|(refine zBx (Q:=Q_) (fun hp_=>?_) (fun hp_=>?_) <;> first|(exfalso;omega)|(refine hQ_ _ _ ?_;clear hQ_ Q_))|(refine hQ_ _ _ ?_;clear hQ_ Q_)))
  | (refine zHx fun K_ hK_=>?_;simp (disch:=omega) only [zGz,zAz,zHw,↓reduceIte,reduceCtorEq,Nat.reduceEqDiff,Nat.reduceLT];refine hK_ _ ?_;clear hK_ K_)))
    (repeat' (first
  | (with_reducible first|refine zJw ?_|refine zHz ?_|refine zEv ?_|refine zEw ?_|refine zFz ?_|refine zJv ?_|refine zHy ?_|refine zBv ?_|refine zDx ?_|refine zCz ?_|refine zCw ?_|refine zEy ?_|refine zCv ?_|refine zCy ?_|refine zBy ?_|refine zDv ?_|refine zEz ?_|refine zAw ?_|refine zBz ?_)
  | refine zDz ?_|refine zEx rfl ?_|refine zJy ?_|refine zJx ?_
  | ((first|refine zGv rfl rfl rfl rfl rfl fun K_ hK_=>?_|refine zGw rfl rfl rfl rfl rfl fun K_ hK_=>?_);simp only [zAz,zDy,zGx,↓reduceIte,reduceCtorEq,Nat.reduceEqDiff,Bool.not_true,Bool.not_false];refine hK_ _ ?_;clear hK_ K_)
  | refine zDw (by decide) ?_
  | ((try first|refine zKy rfl rfl rfl ?_|refine zJz rfl rfl ?_|refine zKx rfl rfl rfl ?_|refine zIv rfl rfl ?_);(refine zIw fun Q_ hQ_=>?_;simp (disch:=first|omega|(simp only [List.length_cons,List.length_nil,List.length_append];omega)) only [bb,bp,zLy,↓reduceIte,reduceCtorEq,Nat.reduceEqDiff,Nat.reduceLT,Nat.reduceLeDiff,Nat.reduceAdd,Nat.reduceMul,Nat.reduceSub,Nat.reduceBEq,Int.reduceToNat,cond_true,cond_false,eq_self,beq_self_eq_true,hcp,zFx wf,zGy wf,zBw wf,zFy wf,zAy wf,zAx,tEvD25,zIx,zIy,zIz,zHv,zFv,zAv wf];first|(refine zCx (Q:=Q_) (fun hp_=>?_) (fun hp_=>?_) <;> first|(exfalso;omega)|(refine hQ_ _ _ ?_;clear hQ_ Q_))|(refine zBx (Q:=Q_) (fun hp_=>?_) (fun hp_=>?_) <;> first|(exfalso;omega)|(refine hQ_ _ _ ?_;clear hQ_ Q_))|(refine hQ_ _ _ ?_;clear hQ_ Q_)))
  | (refine zHx fun K_ hK_=>?_;simp (disch:=omega) only [zGz,zAz,zHw,↓reduceIte,reduceCtorEq,Nat.reduceEqDiff,Nat.reduceLT];refine hK_ _ ?_;clear hK_ K_)))
    refine zKz _ _ rfl (retc0 (by decide) (by simp (disch:=first|omega|(simp only [List.length_cons,List.length_nil,List.length_append];omega)) only [bb,bp,zLy,↓reduceIte,reduceCtorEq,Nat.reduceEqDiff,Nat.reduceLT,Nat.reduceLeDiff,Nat.reduceAdd,Nat.reduceMul,Nat.reduceSub,Nat.reduceBEq,Int.reduceToNat,cond_true,cond_false,eq_self,beq_self_eq_true,zBw wf,tEvD25,zIx,zIy,zIz,zHv,zFv,zAv wf];rfl)) ?_
    refine WV_ext (by exact Bool.and_false _) ?_
    refine ⟨rfl,?_⟩
    rw [Nat.min_eq_left wf.wle]
  rw [key _ (wf.X hw) (hq.up wf L w),X_X,nx_X,X_w]

def holdsErr (ts:List Te) (ls:List Ln) (n:Nat):Int:=if 20<ts.length then 6 else if ¬ ∀ t ∈ ts,okT t then 2 else if linesErr ls≠0 then linesErr ls else if n≠ts.length then 15 else if ∀ t ∈ ts,rk t ls then 0 else 19
def spansOf (ts:List Te) (ls:List Ln):List (Int × Int):=ts.map fun t=>(spanV t ls false,spanV t ls true)
theorem Holds2 (s lv q:AV) (hcap:Capd q) (ts:List Te) (ls:List Ln) (ms:List Int) (h:H) (xt:TestsR h s ts) (xl:LinesR h lv ls) (hq:Sl h q 1 ms.length (ms.map ii)) (hn:ts.length≤20) (hok : ∀ t ∈ ts,okT t) (hk:okLs ls) (hnm:ms.length=ts.length) (hr : ∀ t ∈ ts,rk t ls) :
    (om Try.prog KK).call (.fn 30 [s,lv,q]) h = .ok (.tup [ii (holdN ((spansOf ts ls).map (·.2)) ms:Nat),ii (holdN ((spansOf ts ls).map (·.1)) ms:Nat),ii 0]) h:=by
  have wf:=xt.wf
  obtain ⟨fl1,fl2⟩:=xl.flat
  have hls : ∀ h',lenE Try.prog 51 s h'=some (ii (ts.length:Int)):=fun h'=>xt.sl.len un_51
  have hlq : ∀ h',lenE Try.prog 22 q h'=some (ii (ms.length:Int)):=fun h'=>hq.len yZw
  have hz:=yWv.2 hk
  refine zWy (zLx (fn:=Try.f30) Try.func30 rfl rfl rfl rfl rfl ?_)
  simp only [zLy]
  (repeat' (first
  | (with_reducible first|refine zJw ?_|refine zHz ?_|refine zEv ?_|refine zEw ?_|refine zFz ?_|refine zJv ?_|refine zHy ?_|refine zBv ?_|refine zDx ?_|refine zCz ?_|refine zCw ?_|refine zEy ?_|refine zCv ?_|refine zCy ?_|refine zBy ?_|refine zDv ?_|refine zEz ?_|refine zAw ?_|refine zBz ?_)
  | refine zDz ?_|refine zEx rfl ?_|refine zJy ?_|refine zJx ?_
  | ((first|refine zGv rfl rfl rfl rfl rfl fun K_ hK_=>?_|refine zGw rfl rfl rfl rfl rfl fun K_ hK_=>?_);simp only [zAz,zDy,zGx,↓reduceIte,reduceCtorEq,Nat.reduceEqDiff,Bool.not_true,Bool.not_false];refine hK_ _ ?_;clear hK_ K_)
  | refine zDw (by decide) ?_
  | ((try first|refine zKy rfl rfl rfl ?_|refine zJz rfl rfl ?_|refine zKx rfl rfl rfl ?_|refine zIv rfl rfl ?_);(refine zIw fun Q_ hQ_=>?_;simp (disch:=first|omega|(simp only [List.length_cons,List.length_nil,List.length_append];omega)) only [bb,bp,zLy,↓reduceIte,reduceCtorEq,Nat.reduceEqDiff,Nat.reduceLT,Nat.reduceLeDiff,Nat.reduceAdd,Nat.reduceMul,Nat.reduceSub,Nat.reduceBEq,Int.reduceToNat,cond_true,cond_false,eq_self,beq_self_eq_true,hls,zFx wf,zGy wf,zBw wf,zFy wf,zAy wf,zAx,tEvD25,zIx,zIy,zIz,zHv,zFv,zAv wf];first|(refine zCx (Q:=Q_) (fun hp_=>?_) (fun hp_=>?_) <;> first|(exfalso;omega)|(refine hQ_ _ _ ?_;clear hQ_ Q_))|(refine zBx (Q:=Q_) (fun hp_=>?_) (fun hp_=>?_) <;> first|(exfalso;omega)|(refine hQ_ _ _ ?_;clear hQ_ Q_))|(refine hQ_ _ _ ?_;clear hQ_ Q_)))
  | (refine zHx fun K_ hK_=>?_;simp (disch:=omega) only [zGz,zAz,zHw,↓reduceIte,reduceCtorEq,Nat.reduceEqDiff,Nat.reduceLT];refine hK_ _ ?_;clear hK_ K_)))
  refine zVw (fun (i:Nat) f d h'=>i≤ts.length∧f 0=s∧f 1=lv∧f 2=q∧f 23=s∧f 24=ii (ts.length:Int)∧f 25=ii (i:Int)∧d=[] ∧ ∃ G,h'=X h G h.clock) (fun i=>ts.length - i) ?_ (ts.length+1) 0 (by omega) ?_
  · rintro i f d h' ⟨hi,g0,g1,g2,g23,g24,g25,rfl,G,rfl⟩
    by_cases hlt:i<ts.length
    · obtain ⟨id,off,hix,hld⟩:=xt.at hlt
      simp only [teC] at hld
      have e0:=zWx (hok _ (List.getElem_mem hlt))
      generalize ts[i]=T at *
      (repeat' (first
  | (with_reducible first|refine zJw ?_|refine zHz ?_|refine zEv ?_|refine zEw ?_|refine zFz ?_|refine zJv ?_|refine zHy ?_|refine zBv ?_|refine zDx ?_|refine zCz ?_|refine zCw ?_|refine zEy ?_|refine zCv ?_|refine zCy ?_|refine zBy ?_|refine zDv ?_|refine zEz ?_|refine zAw ?_|refine zBz ?_)
  | refine zDz ?_|refine zEx rfl ?_|refine zJy ?_|refine zJx ?_
  | ((first|refine zGv rfl rfl rfl rfl rfl fun K_ hK_=>?_|refine zGw rfl rfl rfl rfl rfl fun K_ hK_=>?_);simp only [zAz,zDy,zGx,↓reduceIte,reduceCtorEq,Nat.reduceEqDiff,Bool.not_true,Bool.not_false];refine hK_ _ ?_;clear hK_ K_)
  | refine zDw (by decide) ?_
  | ((try first|refine zKy rfl rfl rfl ?_|refine zJz rfl rfl ?_|refine zKx rfl rfl rfl ?_|refine zIv rfl rfl ?_);(refine zIw fun Q_ hQ_=>?_;simp (disch:=first|omega|(simp only [List.length_cons,List.length_nil,List.length_append];omega)) only [bb,bp,zLy,↓reduceIte,reduceCtorEq,Nat.reduceEqDiff,Nat.reduceLT,Nat.reduceLeDiff,Nat.reduceAdd,Nat.reduceMul,Nat.reduceSub,Nat.reduceBEq,Int.reduceToNat,cond_true,cond_false,eq_self,beq_self_eq_true,g0,g1,g2,g23,g24,g25,hix,hld,zFx wf,zGy wf,zBw wf,zFy wf,zAy wf,zAx,tEvD25,zIx,zIy,zIz,zHv,zFv,zAv wf];first|(refine zCx (Q:=Q_) (fun hp_=>?_) (fun hp_=>?_) <;> first|(exfalso;omega)|(refine hQ_ _ _ ?_;clear hQ_ Q_))|(refine zBx (Q:=Q_) (fun hp_=>?_) (fun hp_=>?_) <;> first|(exfalso;omega)|(refine hQ_ _ _ ?_;clear hQ_ Q_))|(refine hQ_ _ _ ?_;clear hQ_ Q_)|(refine zRv ((CheckTest T _ (wf.X (by first|omega|(simp only [List.length_append,List.length_cons,List.length_nil];omega)))).trans (by rw [e0])) ?_;refine hQ_ _ _ ?_;clear hQ_ Q_)))
  | (refine zHx fun K_ hK_=>?_;simp (disch:=omega) only [zGz,zAz,zHw,↓reduceIte,reduceCtorEq,Nat.reduceEqDiff,Nat.reduceLT];refine hK_ _ ?_;clear hK_ K_)))
      refine zLz (i+1) (by omega) ⟨hlt,by simp only [zAz,↓reduceIte,reduceCtorEq,Nat.reduceEqDiff];exact g0,by simp only [zAz,↓reduceIte,reduceCtorEq,Nat.reduceEqDiff];exact g1,by simp only [zAz,↓reduceIte,reduceCtorEq,Nat.reduceEqDiff];exact g2,by simp only [zAz,↓reduceIte,reduceCtorEq,Nat.reduceEqDiff];exact g23,by simp only [zAz,↓reduceIte,reduceCtorEq,Nat.reduceEqDiff];exact g24,by simp only [zAz,↓reduceIte,reduceCtorEq,Nat.reduceEqDiff];rfl,rfl,_,rfl⟩
    · have hie:i=ts.length:=by omega
      have hms:ms.length≤1000:=by omega
      have hnm':(ms.length:Int)=(ts.length:Int):=by omega
      have hlim:=limitsOf q hcap ms hms h wf hq
      (repeat' (first
  | (with_reducible first|refine zJw ?_|refine zHz ?_|refine zEv ?_|refine zEw ?_|refine zFz ?_|refine zJv ?_|refine zHy ?_|refine zBv ?_|refine zDx ?_|refine zCz ?_|refine zCw ?_|refine zEy ?_|refine zCv ?_|refine zCy ?_|refine zBy ?_|refine zDv ?_|refine zEz ?_|refine zAw ?_|refine zBz ?_)
  | refine zDz ?_|refine zEx rfl ?_|refine zJy ?_|refine zJx ?_
  | ((first|refine zGv rfl rfl rfl rfl rfl fun K_ hK_=>?_|refine zGw rfl rfl rfl rfl rfl fun K_ hK_=>?_);simp only [zAz,zDy,zGx,↓reduceIte,reduceCtorEq,Nat.reduceEqDiff,Bool.not_true,Bool.not_false];refine hK_ _ ?_;clear hK_ K_)
  | refine zDw (by decide) ?_
  | ((try first|refine zKy rfl rfl rfl ?_|refine zJz rfl rfl ?_|refine zKx rfl rfl rfl ?_|refine zIv rfl rfl ?_);(refine zIw fun Q_ hQ_=>?_;simp (disch:=first|omega|(simp only [List.length_cons,List.length_nil,List.length_append];omega)) only [bb,bp,zLy,↓reduceIte,reduceCtorEq,Nat.reduceEqDiff,Nat.reduceLT,Nat.reduceLeDiff,Nat.reduceAdd,Nat.reduceMul,Nat.reduceSub,Nat.reduceBEq,Int.reduceToNat,cond_true,cond_false,eq_self,beq_self_eq_true,g0,g1,g2,g23,g24,g25,hls,hlq,zFx wf,zGy wf,zBw wf,zFy wf,zAy wf,zAx,tEvD25,zIx,zIy,zIz,zHv,zFv,zAv wf];first|(refine zCx (Q:=Q_) (fun hp_=>?_) (fun hp_=>?_) <;> first|(exfalso;omega)|(refine hQ_ _ _ ?_;clear hQ_ Q_))|(refine zBx (Q:=Q_) (fun hp_=>?_) (fun hp_=>?_) <;> first|(exfalso;omega)|(refine hQ_ _ _ ?_;clear hQ_ Q_))|(refine hQ_ _ _ ?_;clear hQ_ Q_)|(refine zRv ((checkLines lv ls _ (xl.up _ _ (by first|omega|(simp only [List.length_append,List.length_cons,List.length_nil];omega)))).trans (by rw [hz])) ?_;refine hQ_ _ _ ?_;clear hQ_ Q_)|(refine zRv (hlim _ _ (by first|omega|(simp only [List.length_append,List.length_cons,List.length_nil];omega))) ?_;refine hQ_ _ _ ?_;clear hQ_ Q_)))
  | (refine zHx fun K_ hK_=>?_;simp (disch:=omega) only [zGz,zAz,zHw,↓reduceIte,reduceCtorEq,Nat.reduceEqDiff,Nat.reduceLT];refine hK_ _ ?_;clear hK_ K_)))
      generalize hsm:AV.sl (nx h (G.length+1)) 0 ms.length (some ms.length) 1=slm at *
      have fsm:AV.cells slm=[slm]∧oneB slm=true:=by rw [← hsm];exact ⟨rfl,rfl⟩
      obtain ⟨fs1,fs2⟩:=fsm
      have hsl : ∀ (L:List AO) (w:Nat),L[G.length+1]? = some (.cells (zFw (ms.map ii)) 2)→Sl (X h L w) slm 1 ms.length (ms.map ii):=fun L w hL=>by rw [← hsm];exact Sl.new wf (by simp) hL
      refine zVw (fun (i:Nat) f d h'=>i≤ts.length∧f 0=s∧f 1=lv∧f 2=q∧f 13 = .ptr (nx h (G.length+3)) 0∧f 47=s∧f 48=ii (ts.length:Int)∧f 49=ii (i:Int)∧d=[] ∧
        ∃ L0 G2 v,L0.length=G.length+4∧L0[G.length+1]? = some (.cells (zFw (ms.map ii)) 2)∧L0[G.length+3]? = some (.cells (zFw [slm,v]) 98)∧Grow h L0 G2 v 2 33 i (((spansOf ts ls).take i).flatMap rgC)∧h'=X h (L0++G2) h.clock) (fun i=>ts.length - i) ?_ (ts.length+1) 0 (by omega) ?_
      · clear g0 g1 g2 g23 g24 g25
        rintro i f d h' ⟨hi,g0,g1,g2,g13,g47,g48,g49,rfl,L0,G2,v,hL0,hLm,hLl,hgr,rfl⟩
        obtain ⟨fv1,fv2⟩:=hgr.flat
        have hlt13:=zXy hLl
        have ld1 : ∀ J w,load1 (nx h (G.length+3)) 1 (X h (L0++J) w)=some v:=fun J w=>by rw [zGy wf,List.getElem?_append_left hlt13,hLl];rfl
        have lda : ∀ J w,loadAgg (nx h (G.length+3)) 0 (some 2) (X h (L0++J) w)=some (.agg [slm,v]):=fun J w=>by rw [zBw wf,List.getElem?_append_left hlt13,hLl,xCy (by decide)];rfl
        by_cases hlt:i<ts.length
        · obtain ⟨id,off,hix,hld⟩:=xt.at hlt
          simp only [teC] at hld
          have hTok:=hok _ (List.getElem_mem hlt)
          have hTr:=hr _ (List.getElem_mem hlt)
          have hsp:(spansOf ts ls).take (i+1)=(spansOf ts ls).take i++[(spanV ts[i] ls false,spanV ts[i] ls true)]:=by
            rw [List.take_succ_eq_append_getElem (by unfold spansOf;simpa using hlt)]
            simp [spansOf]
          generalize ts[i]=T at *
          obtain ⟨M,lv',hc,hcap',hlr⟩:=reckoned T lv ls hTok hk hTr h xl (L0++(G2++[.cells (zFw [ii T.sp,ii T.lo,ii T.we,ii T.al,ii T.f0,ii T.f1,ii T.t0,ii T.t1,ii T.s0,ii T.s1,ii T.o0,ii T.o1,ii T.b0,ii T.b1,ii T.r0,ii T.r1]) 35])) h.clock (by omega)
          simp only [List.append_assoc,List.cons_append,List.nil_append,List.length_append,List.length_cons,List.length_nil] at hc hlr
          obtain ⟨f1,f2⟩:=(hlr [] h.clock (by omega)).flat
          have sc:=fun R w hw=>span T hTok lv' hcap' ls hk hTr _ (hlr R w hw)
          have hr3:=hgr.resz (P:=Try.prog) 96
          obtain ⟨v',G',hg',happ,_⟩:=(hgr.more (.cells (zFw [ii T.sp,ii T.lo,ii T.we,ii T.al,ii T.f0,ii T.f1,ii T.t0,ii T.t1,ii T.s0,ii T.s1,ii T.o0,ii T.o1,ii T.b0,ii T.b1,ii T.r0,ii T.r1]) 35 :: (M++[.cells (zFw [ii T.sp,ii T.lo,ii T.we,ii T.al,ii T.f0,ii T.f1,ii T.t0,ii T.t1,ii T.s0,ii T.s1,ii T.o0,ii T.o1,ii T.b0,ii T.b1,ii T.r0,ii T.r1,lv']) 76]))).appendD (P:=Try.prog) wf un_96 zWw el_33 (n:=1) (new:=[ii (spanV T ls false),ii (spanV T ls true)]) (by omega) (by omega) (by omega) rfl rfl
          obtain ⟨fw1,fw2⟩:=hg'.flat
          simp only [List.append_assoc,List.cons_append,List.nil_append,List.length_append,List.length_cons,List.length_nil,Nat.zero_add] at happ
          have hst : ∀ w,store1 (nx h (G.length+3)) 1 v' (X h (L0++G') w)=some (X h (L0.set (G.length+3) (.cells (zFw [slm,v']) 98)++G') (min (h.clock+(G.length+3)) w)):=fun w=>by
            have e:storeAt (some (.cells (zFw [slm,v]) 98)) 1 v'=some (.cells (zFw [slm,v']) 98):=by
              rw [yYv,fw2,cond_true];rfl
            rw [zFy wf,List.getElem?_append_left hlt13,hLl,e]
            show some (X h ((L0++G').set (G.length+3) _) _)=_
            rw [List.set_append_left _ _ hlt13]
          (repeat' (first
  | (with_reducible first|refine zJw ?_|refine zHz ?_|refine zEv ?_|refine zEw ?_|refine zFz ?_|refine zJv ?_|refine zHy ?_|refine zBv ?_|refine zDx ?_|refine zCz ?_|refine zCw ?_|refine zEy ?_|refine zCv ?_|refine zCy ?_|refine zBy ?_|refine zDv ?_|refine zEz ?_|refine zAw ?_|refine zBz ?_)
  | refine zDz ?_|refine zEx rfl ?_|refine zJy ?_|refine zJx ?_
  | ((first|refine zGv rfl rfl rfl rfl rfl fun K_ hK_=>?_|refine zGw rfl rfl rfl rfl rfl fun K_ hK_=>?_);simp only [zAz,zDy,zGx,↓reduceIte,reduceCtorEq,Nat.reduceEqDiff,Bool.not_true,Bool.not_false];refine hK_ _ ?_;clear hK_ K_)
  | refine zDw (by decide) ?_
  | ((try first|refine zKy rfl rfl rfl ?_|refine zJz rfl rfl ?_|refine zKx rfl rfl rfl ?_|refine zIv rfl rfl ?_);(refine zIw fun Q_ hQ_=>?_;simp (disch:=first|omega|(simp only [List.length_cons,List.length_nil,List.length_append];omega)) only [bb,bp,zLy,↓reduceIte,reduceCtorEq,Nat.reduceEqDiff,Nat.reduceLT,Nat.reduceLeDiff,Nat.reduceAdd,Nat.reduceMul,Nat.reduceSub,Nat.reduceBEq,Int.reduceToNat,cond_true,cond_false,eq_self,beq_self_eq_true,g0,g1,g2,g13,g47,g48,g49,hix,hld,zFx wf,zGy wf,zBw wf,zFy wf,zAy wf,zAx,tEvD25,zIx,zIy,zIz,zHv,zFv,zAv wf];first|(refine zCx (Q:=Q_) (fun hp_=>?_) (fun hp_=>?_) <;> first|(exfalso;omega)|(refine hQ_ _ _ ?_;clear hQ_ Q_))|(refine zBx (Q:=Q_) (fun hp_=>?_) (fun hp_=>?_) <;> first|(exfalso;omega)|(refine hQ_ _ _ ?_;clear hQ_ Q_))|(refine hQ_ _ _ ?_;clear hQ_ Q_)|(refine zRv (hc) ?_;refine hQ_ _ _ ?_;clear hQ_ Q_)))
  | (refine zHx fun K_ hK_=>?_;simp (disch:=omega) only [zGz,zAz,zHw,↓reduceIte,reduceCtorEq,Nat.reduceEqDiff,Nat.reduceLT];refine hK_ _ ?_;clear hK_ K_)))
          (repeat' (first
  | (with_reducible first|refine zJw ?_|refine zHz ?_|refine zEv ?_|refine zEw ?_|refine zFz ?_|refine zJv ?_|refine zHy ?_|refine zBv ?_|refine zDx ?_|refine zCz ?_|refine zCw ?_|refine zEy ?_|refine zCv ?_|refine zCy ?_|refine zBy ?_|refine zDv ?_|refine zEz ?_|refine zAw ?_|refine zBz ?_)
  | refine zDz ?_|refine zEx rfl ?_|refine zJy ?_|refine zJx ?_
  | ((first|refine zGv rfl rfl rfl rfl rfl fun K_ hK_=>?_|refine zGw rfl rfl rfl rfl rfl fun K_ hK_=>?_);simp only [zAz,zDy,zGx,↓reduceIte,reduceCtorEq,Nat.reduceEqDiff,Bool.not_true,Bool.not_false];refine hK_ _ ?_;clear hK_ K_)
  | refine zDw (by decide) ?_
  | ((try first|refine zKy rfl rfl rfl ?_|refine zJz rfl rfl ?_|refine zKx rfl rfl rfl ?_|refine zIv rfl rfl ?_);(refine zIw fun Q_ hQ_=>?_;simp (disch:=first|omega|(simp only [List.length_cons,List.length_nil,List.length_append];omega)) only [bb,bp,zLy,↓reduceIte,reduceCtorEq,Nat.reduceEqDiff,Nat.reduceLT,Nat.reduceLeDiff,Nat.reduceAdd,Nat.reduceMul,Nat.reduceSub,Nat.reduceBEq,Int.reduceToNat,cond_true,cond_false,eq_self,beq_self_eq_true,g0,g1,g2,g13,g47,g48,g49,f1,f2,zFx wf,zGy wf,zBw wf,zFy wf,zAy wf,zAx,tEvD25,zIx,zIy,zIz,zHv,zFv,zAv wf];first|(refine zCx (Q:=Q_) (fun hp_=>?_) (fun hp_=>?_) <;> first|(exfalso;omega)|(refine hQ_ _ _ ?_;clear hQ_ Q_))|(refine zBx (Q:=Q_) (fun hp_=>?_) (fun hp_=>?_) <;> first|(exfalso;omega)|(refine hQ_ _ _ ?_;clear hQ_ Q_))|(refine hQ_ _ _ ?_;clear hQ_ Q_)))
  | (refine zHx fun K_ hK_=>?_;simp (disch:=omega) only [zGz,zAz,zHw,↓reduceIte,reduceCtorEq,Nat.reduceEqDiff,Nat.reduceLT];refine hK_ _ ?_;clear hK_ K_)))
          refine zLv [.no,.no,.no,.no,.no,.full,.full,.full] (by kernel_rfl) ?_
          (repeat' (first
  | (with_reducible first|refine zJw ?_|refine zHz ?_|refine zEv ?_|refine zEw ?_|refine zFz ?_|refine zJv ?_|refine zHy ?_|refine zBv ?_|refine zDx ?_|refine zCz ?_|refine zCw ?_|refine zEy ?_|refine zCv ?_|refine zCy ?_|refine zBy ?_|refine zDv ?_|refine zEz ?_|refine zAw ?_|refine zBz ?_)
  | refine zDz ?_|refine zEx rfl ?_|refine zJy ?_|refine zJx ?_
  | ((first|refine zGv rfl rfl rfl rfl rfl fun K_ hK_=>?_|refine zGw rfl rfl rfl rfl rfl fun K_ hK_=>?_);simp only [zAz,zDy,zGx,↓reduceIte,reduceCtorEq,Nat.reduceEqDiff,Bool.not_true,Bool.not_false];refine hK_ _ ?_;clear hK_ K_)
  | refine zDw (by decide) ?_
  | ((try first|refine zKy rfl rfl rfl ?_|refine zJz rfl rfl ?_|refine zKx rfl rfl rfl ?_|refine zIv rfl rfl ?_);(refine zIw fun Q_ hQ_=>?_;simp (disch:=first|omega|(simp only [List.length_cons,List.length_nil,List.length_append];omega)) only [bb,bp,zLy,↓reduceIte,reduceCtorEq,Nat.reduceEqDiff,Nat.reduceLT,Nat.reduceLeDiff,Nat.reduceAdd,Nat.reduceMul,Nat.reduceSub,Nat.reduceBEq,Int.reduceToNat,cond_true,cond_false,eq_self,beq_self_eq_true,g0,g1,g2,g13,g47,g48,g49,f1,f2,ld1,sc,zFx wf,zGy wf,zBw wf,zFy wf,zAy wf,zAx,tEvD25,zIx,zIy,zIz,zHv,zFv,zAv wf];first|(refine zCx (Q:=Q_) (fun hp_=>?_) (fun hp_=>?_) <;> first|(exfalso;omega)|(refine hQ_ _ _ ?_;clear hQ_ Q_))|(refine zBx (Q:=Q_) (fun hp_=>?_) (fun hp_=>?_) <;> first|(exfalso;omega)|(refine hQ_ _ _ ?_;clear hQ_ Q_))|(refine hQ_ _ _ ?_;clear hQ_ Q_)))
  | (refine zHx fun K_ hK_=>?_;simp (disch:=omega) only [zGz,zAz,zHw,↓reduceIte,reduceCtorEq,Nat.reduceEqDiff,Nat.reduceLT];refine hK_ _ ?_;clear hK_ K_)))
          (repeat' (first
  | (with_reducible first|refine zJw ?_|refine zHz ?_|refine zEv ?_|refine zEw ?_|refine zFz ?_|refine zJv ?_|refine zHy ?_|refine zBv ?_|refine zDx ?_|refine zCz ?_|refine zCw ?_|refine zEy ?_|refine zCv ?_|refine zCy ?_|refine zBy ?_|refine zDv ?_|refine zEz ?_|refine zAw ?_|refine zBz ?_)
  | refine zDz ?_|refine zEx rfl ?_|refine zJy ?_|refine zJx ?_
  | ((first|refine zGv rfl rfl rfl rfl rfl fun K_ hK_=>?_|refine zGw rfl rfl rfl rfl rfl fun K_ hK_=>?_);simp only [zAz,zDy,zGx,↓reduceIte,reduceCtorEq,Nat.reduceEqDiff,Bool.not_true,Bool.not_false];refine hK_ _ ?_;clear hK_ K_)
  | refine zDw (by decide) ?_
  | ((try first|refine zKy rfl rfl rfl ?_|refine zJz rfl rfl ?_|refine zKx rfl rfl rfl ?_|refine zIv rfl rfl ?_);(refine zIw fun Q_ hQ_=>?_;simp (disch:=first|omega|(simp only [List.length_cons,List.length_nil,List.length_append];omega)) only [bb,bp,zLy,↓reduceIte,reduceCtorEq,Nat.reduceEqDiff,Nat.reduceLT,Nat.reduceLeDiff,Nat.reduceAdd,Nat.reduceMul,Nat.reduceSub,Nat.reduceBEq,Int.reduceToNat,cond_true,cond_false,eq_self,beq_self_eq_true,ni_96,hr3,happ,xTw un_96 zWw,g13,g49,fw1,fw2,hst,tEvD25,zIx,zIy,zIz,zHv,zFv,zAv wf];first|(refine zCx (Q:=Q_) (fun hp_=>?_) (fun hp_=>?_) <;> first|(exfalso;omega)|(refine hQ_ _ _ ?_;clear hQ_ Q_))|(refine zBx (Q:=Q_) (fun hp_=>?_) (fun hp_=>?_) <;> first|(exfalso;omega)|(refine hQ_ _ _ ?_;clear hQ_ Q_))|(refine hQ_ _ _ ?_;clear hQ_ Q_)))
  | (refine zHx fun K_ hK_=>?_;simp (disch:=omega) only [zGz,zAz,zHw,↓reduceIte,reduceCtorEq,Nat.reduceEqDiff,Nat.reduceLT];refine hK_ _ ?_;clear hK_ K_)))
          refine zLz (i+1) (by omega) ⟨hlt,by simp only [zAz,↓reduceIte,reduceCtorEq,Nat.reduceEqDiff];exact g0,by simp only [zAz,↓reduceIte,reduceCtorEq,Nat.reduceEqDiff];exact g1,by simp only [zAz,↓reduceIte,reduceCtorEq,Nat.reduceEqDiff];exact g2,by simp only [zAz,↓reduceIte,reduceCtorEq,Nat.reduceEqDiff];exact g13,by simp only [zAz,↓reduceIte,reduceCtorEq,Nat.reduceEqDiff];exact g47,by simp only [zAz,↓reduceIte,reduceCtorEq,Nat.reduceEqDiff];exact g48,by simp only [zAz,↓reduceIte,reduceCtorEq,Nat.reduceEqDiff];rfl,rfl,L0.set (G.length+3) (.cells (zFw [slm,v']) 98),G',v',by rw [List.length_set,hL0],by rw [List.getElem?_set_ne (by omega)];exact hLm,by rw [List.getElem?_set_self hlt13],?_,?_⟩
          · rw [hsp,List.flatMap_append]
            exact hg'.front (List.length_set ..)
          · congr 1
        · have hie:i=ts.length:=by omega
          have hsl2:(spansOf ts ls).length=ts.length:=by unfold spansOf;simp
          have htk:(spansOf ts ls).take i=spansOf ts ls:=List.take_of_length_le (by omega)
          rw [htk] at hgr
          have hgs:=hgr.sl wf h.clock
          rw [hie,← hsl2] at hgs
          have h63:=held 63 (.inl rfl) slm v ms (spansOf ts ls) (by omega) hms _ (wf.X (by first|omega|(simp only [List.length_append,List.length_cons,List.length_nil];omega))) (hsl (L0++G2) h.clock (by rw [List.getElem?_append_left (zXy hLm)];exact hLm)) hgs ⟨fs1,fs2⟩ ⟨fv1,fv2⟩
          have h64:=held 64 (.inr rfl) slm v ms (spansOf ts ls) (by omega) hms _ (wf.X (by first|omega|(simp only [List.length_append,List.length_cons,List.length_nil];omega))) (hsl (L0++G2) h.clock (by rw [List.getElem?_append_left (zXy hLm)];exact hLm)) hgs ⟨fs1,fs2⟩ ⟨fv1,fv2⟩
          simp only [↓reduceIte,Nat.reduceEqDiff] at h63 h64
          (repeat' (first
  | (with_reducible first|refine zJw ?_|refine zHz ?_|refine zEv ?_|refine zEw ?_|refine zFz ?_|refine zJv ?_|refine zHy ?_|refine zBv ?_|refine zDx ?_|refine zCz ?_|refine zCw ?_|refine zEy ?_|refine zCv ?_|refine zCy ?_|refine zBy ?_|refine zDv ?_|refine zEz ?_|refine zAw ?_|refine zBz ?_)
  | refine zDz ?_|refine zEx rfl ?_|refine zJy ?_|refine zJx ?_
  | ((first|refine zGv rfl rfl rfl rfl rfl fun K_ hK_=>?_|refine zGw rfl rfl rfl rfl rfl fun K_ hK_=>?_);simp only [zAz,zDy,zGx,↓reduceIte,reduceCtorEq,Nat.reduceEqDiff,Bool.not_true,Bool.not_false];refine hK_ _ ?_;clear hK_ K_)
  | refine zDw (by decide) ?_
  | ((try first|refine zKy rfl rfl rfl ?_|refine zJz rfl rfl ?_|refine zKx rfl rfl rfl ?_|refine zIv rfl rfl ?_);(refine zIw fun Q_ hQ_=>?_;simp (disch:=first|omega|(simp only [List.length_cons,List.length_nil,List.length_append];omega)) only [bb,bp,zLy,↓reduceIte,reduceCtorEq,Nat.reduceEqDiff,Nat.reduceLT,Nat.reduceLeDiff,Nat.reduceAdd,Nat.reduceMul,Nat.reduceSub,Nat.reduceBEq,Int.reduceToNat,cond_true,cond_false,eq_self,beq_self_eq_true,g0,g1,g2,g13,g47,g48,g49,lda,tEvD25,zIx,zIy,zIz,zHv,zFv,zAv wf];first|(refine zCx (Q:=Q_) (fun hp_=>?_) (fun hp_=>?_) <;> first|(exfalso;omega)|(refine hQ_ _ _ ?_;clear hQ_ Q_))|(refine zBx (Q:=Q_) (fun hp_=>?_) (fun hp_=>?_) <;> first|(exfalso;omega)|(refine hQ_ _ _ ?_;clear hQ_ Q_))|(refine hQ_ _ _ ?_;clear hQ_ Q_)|(refine zRv (h63) ?_;refine hQ_ _ _ ?_;clear hQ_ Q_)|(refine zRv (h64) ?_;refine hQ_ _ _ ?_;clear hQ_ Q_)))
  | (refine zHx fun K_ hK_=>?_;simp (disch:=omega) only [zGz,zAz,zHw,↓reduceIte,reduceCtorEq,Nat.reduceEqDiff,Nat.reduceLT];refine hK_ _ ?_;clear hK_ K_)))
          (refine zKz _ _ rfl (ret3 (by decide) (by decide) (by decide)) ?_;simp only [zAz,↓reduceIte,reduceCtorEq,Nat.reduceEqDiff];refine zKw rfl (by omega) ?_)
          exact ⟨rfl,rfl⟩
      · refine ⟨Nat.zero_le _,by simp only [zAz,↓reduceIte,reduceCtorEq,Nat.reduceEqDiff];exact g0,by simp only [zAz,↓reduceIte,reduceCtorEq,Nat.reduceEqDiff];exact g1,by simp only [zAz,↓reduceIte,reduceCtorEq,Nat.reduceEqDiff];exact g2,by simp only [zAz,↓reduceIte,reduceCtorEq,Nat.reduceEqDiff],by simp only [zAz,↓reduceIte,reduceCtorEq,Nat.reduceEqDiff],by simp only [zAz,↓reduceIte,reduceCtorEq,Nat.reduceEqDiff],by first|(simp only [zAz,↓reduceIte,reduceCtorEq,Nat.reduceEqDiff];done)|(simp only [zAz,↓reduceIte,reduceCtorEq,Nat.reduceEqDiff];rfl),rfl,_,[],.nils,?_,?_,?_,Grow.nil h _ [] 2 33,by rw [List.append_nil]⟩
        · simp
        · rw [xIw];rfl
        · rw [xIw];rfl
  · exact ⟨Nat.zero_le _,by simp only [zAz,↓reduceIte,reduceCtorEq,Nat.reduceEqDiff],by simp only [zAz,↓reduceIte,reduceCtorEq,Nat.reduceEqDiff],by simp only [zAz,↓reduceIte,reduceCtorEq,Nat.reduceEqDiff],by simp only [zAz,↓reduceIte,reduceCtorEq,Nat.reduceEqDiff],by simp only [zAz,↓reduceIte,reduceCtorEq,Nat.reduceEqDiff],by first|(simp only [zAz,↓reduceIte,reduceCtorEq,Nat.reduceEqDiff];done)|(simp only [zAz,↓reduceIte,reduceCtorEq,Nat.reduceEqDiff];rfl),rfl,[],rfl⟩
end Go.Proofs.Ythaleckfgcgegaa
end

section
namespace Go.Proofs.Ythaleckfgcgegaa
open Go.Ev
set_option maxRecDepth 100000
set_option linter.unusedSimpArgs false
set_option linter.unusedVariables false
set_option maxHeartbeats 2000000
theorem tEvD31 :type_of% (And.intro (And.intro (And.intro (And.intro (And.intro (And.intro (And.intro (@yWz) (@yVv)) (And.intro (@yVw) (And.intro (@yVx) (@yVy)))) (And.intro (And.intro (@yVz) (And.intro (@yUv) (@yUw))) (And.intro (@zVy) (And.intro (@ia_2) (@sz_2))))) (And.intro (And.intro (And.intro (@ia_3) (@sz_3)) (And.intro (@ia_4) (And.intro (@sz_4) (@yUx)))) (And.intro (And.intro (@yDw) (And.intro (@yUy) (@yDx))) (And.intro (@yUz) (And.intro (@yDy) (@yTv)))))) (And.intro (And.intro (And.intro (And.intro (@zWw) (@yTw)) (And.intro (@yDz) (And.intro (@yTx) (@yCv)))) (And.intro (And.intro (@yTy) (And.intro (@yCw) (@yTz))) (And.intro (@yCx) (And.intro (@ySv) (@yCy))))) (And.intro (And.intro (And.intro (@ySw) (And.intro (@yCz) (@ySx))) (And.intro (@zXz) (And.intro (@ySy) (@yBv)))) (And.intro (And.intro (@ySz) (And.intro (@yBw) (@yRv))) (And.intro (@yBx) (And.intro (@yRw) (@yBy))))))) (And.intro (And.intro (And.intro (And.intro (And.intro (@yRx) (@yBz)) (And.intro (@yRy) (And.intro (@yAv) (@yRz)))) (And.intro (And.intro (@yAw) (And.intro (@yQv) (@yAx))) (And.intro (@yQw) (And.intro (@yAy) (@yQx))))) (And.intro (And.intro (And.intro (@yAz) (@zVz)) (And.intro (@zTw) (And.intro (@zUv) (@zTx)))) (And.intro (And.intro (@zUw) (And.intro (@zTy) (@zUx))) (And.intro (@zTz) (And.intro (@zUy) (@zSv)))))) (And.intro (And.intro (And.intro (And.intro (@zUz) (@zSw)) (And.intro (@zTv) (And.intro (@zSx) (@ze_2)))) (And.intro (And.intro (@ze_3) (And.intro (@ze_4) (@zZv))) (And.intro (@zZw) (And.intro (@zZx) (@zZy))))) (And.intro (And.intro (And.intro (@zZz) (And.intro (@zYv) (@xDx))) (And.intro (@zYw) (And.intro (@zYx) (@zYy)))) (And.intro (And.intro (@zSy) (And.intro (@zRx) (@zRy))) (And.intro (@zRz) (And.intro (@zQv) (@zQw)))))))) (And.intro (And.intro (And.intro (And.intro (And.intro (And.intro (@zQx) (@zQy)) (And.intro (@zQz) (And.intro (@zPv) (@zPw)))) (And.intro (And.intro (@zPx) (And.intro (@zPy) (@zPz))) (And.intro (@zOv) (And.intro (@zOw) (@zOx))))) (And.intro (And.intro (And.intro (@zOy) (@zOz)) (And.intro (@zNv) (And.intro (@zNw) (@zNx)))) (And.intro (And.intro (@zNy) (And.intro (@zNz) (@zMv))) (And.intro (@zMw) (And.intro (@zMx) (@zMy)))))) (And.intro (And.intro (And.intro (And.intro (@zMz) (@yQy)) (And.intro (@yQz) (And.intro (@yPv) (@yPw)))) (And.intro (And.intro (@yPx) (And.intro (@yPy) (@yPz))) (And.intro (@yOv) (And.intro (@yOw) (@yOx))))) (And.intro (And.intro (And.intro (@yOy) (And.intro (@yOz) (@yNv))) (And.intro (@yNw) (And.intro (@yNx) (@yNy)))) (And.intro (And.intro (@yNz) (And.intro (@yMv) (@yMw))) (And.intro (@yMx) (And.intro (@yMy) (@yMz))))))) (And.intro (And.intro (And.intro (And.intro (And.intro (@yLv) (@yLw)) (And.intro (@yLx) (And.intro (@yLy) (@yLz)))) (And.intro (And.intro (@yKv) (And.intro (@yKw) (@yKx))) (And.intro (@yKy) (And.intro (@yKz) (@yJv))))) (And.intro (And.intro (And.intro (@yJw) (@yJx)) (And.intro (@yJy) (And.intro (@yJz) (@yIv)))) (And.intro (And.intro (@yIw) (And.intro (@yIx) (@yIy))) (And.intro (@yIz) (And.intro (@yHv) (@yHw)))))) (And.intro (And.intro (And.intro (And.intro (@yHx) (@yHy)) (And.intro (@yHz) (And.intro (@yGv) (@yGw)))) (And.intro (And.intro (@yGx) (And.intro (@zYz) (@zXv))) (And.intro (@yGy) (And.intro (@yGz) (@yFv))))) (And.intro (And.intro (And.intro (@yFw) (And.intro (@yFx) (@yFy))) (And.intro (@yFz) (And.intro (@yEv) (@yEw)))) (And.intro (And.intro (@yEx) (And.intro (@yEy) (@zXw))) (And.intro (@yEz) (And.intro (@yDv) (@zXx))))))))):=And.intro (And.intro (And.intro (And.intro (And.intro (And.intro (And.intro (@yWz) (@yVv)) (And.intro (@yVw) (And.intro (@yVx) (@yVy)))) (And.intro (And.intro (@yVz) (And.intro (@yUv) (@yUw))) (And.intro (@zVy) (And.intro (@ia_2) (@sz_2))))) (And.intro (And.intro (And.intro (@ia_3) (@sz_3)) (And.intro (@ia_4) (And.intro (@sz_4) (@yUx)))) (And.intro (And.intro (@yDw) (And.intro (@yUy) (@yDx))) (And.intro (@yUz) (And.intro (@yDy) (@yTv)))))) (And.intro (And.intro (And.intro (And.intro (@zWw) (@yTw)) (And.intro (@yDz) (And.intro (@yTx) (@yCv)))) (And.intro (And.intro (@yTy) (And.intro (@yCw) (@yTz))) (And.intro (@yCx) (And.intro (@ySv) (@yCy))))) (And.intro (And.intro (And.intro (@ySw) (And.intro (@yCz) (@ySx))) (And.intro (@zXz) (And.intro (@ySy) (@yBv)))) (And.intro (And.intro (@ySz) (And.intro (@yBw) (@yRv))) (And.intro (@yBx) (And.intro (@yRw) (@yBy))))))) (And.intro (And.intro (And.intro (And.intro (And.intro (@yRx) (@yBz)) (And.intro (@yRy) (And.intro (@yAv) (@yRz)))) (And.intro (And.intro (@yAw) (And.intro (@yQv) (@yAx))) (And.intro (@yQw) (And.intro (@yAy) (@yQx))))) (And.intro (And.intro (And.intro (@yAz) (@zVz)) (And.intro (@zTw) (And.intro (@zUv) (@zTx)))) (And.intro (And.intro (@zUw) (And.intro (@zTy) (@zUx))) (And.intro (@zTz) (And.intro (@zUy) (@zSv)))))) (And.intro (And.intro (And.intro (And.intro (@zUz) (@zSw)) (And.intro (@zTv) (And.intro (@zSx) (@ze_2)))) (And.intro (And.intro (@ze_3) (And.intro (@ze_4) (@zZv))) (And.intro (@zZw) (And.intro (@zZx) (@zZy))))) (And.intro (And.intro (And.intro (@zZz) (And.intro (@zYv) (@xDx))) (And.intro (@zYw) (And.intro (@zYx) (@zYy)))) (And.intro (And.intro (@zSy) (And.intro (@zRx) (@zRy))) (And.intro (@zRz) (And.intro (@zQv) (@zQw)))))))) (And.intro (And.intro (And.intro (And.intro (And.intro (And.intro (@zQx) (@zQy)) (And.intro (@zQz) (And.intro (@zPv) (@zPw)))) (And.intro (And.intro (@zPx) (And.intro (@zPy) (@zPz))) (And.intro (@zOv) (And.intro (@zOw) (@zOx))))) (And.intro (And.intro (And.intro (@zOy) (@zOz)) (And.intro (@zNv) (And.intro (@zNw) (@zNx)))) (And.intro (And.intro (@zNy) (And.intro (@zNz) (@zMv))) (And.intro (@zMw) (And.intro (@zMx) (@zMy)))))) (And.intro (And.intro (And.intro (And.intro (@zMz) (@yQy)) (And.intro (@yQz) (And.intro (@yPv) (@yPw)))) (And.intro (And.intro (@yPx) (And.intro (@yPy) (@yPz))) (And.intro (@yOv) (And.intro (@yOw) (@yOx))))) (And.intro (And.intro (And.intro (@yOy) (And.intro (@yOz) (@yNv))) (And.intro (@yNw) (And.intro (@yNx) (@yNy)))) (And.intro (And.intro (@yNz) (And.intro (@yMv) (@yMw))) (And.intro (@yMx) (And.intro (@yMy) (@yMz))))))) (And.intro (And.intro (And.intro (And.intro (And.intro (@yLv) (@yLw)) (And.intro (@yLx) (And.intro (@yLy) (@yLz)))) (And.intro (And.intro (@yKv) (And.intro (@yKw) (@yKx))) (And.intro (@yKy) (And.intro (@yKz) (@yJv))))) (And.intro (And.intro (And.intro (@yJw) (@yJx)) (And.intro (@yJy) (And.intro (@yJz) (@yIv)))) (And.intro (And.intro (@yIw) (And.intro (@yIx) (@yIy))) (And.intro (@yIz) (And.intro (@yHv) (@yHw)))))) (And.intro (And.intro (And.intro (And.intro (@yHx) (@yHy)) (And.intro (@yHz) (And.intro (@yGv) (@yGw)))) (And.intro (And.intro (@yGx) (And.intro (@zYz) (@zXv))) (And.intro (@yGy) (And.intro (@yGz) (@yFv))))) (And.intro (And.intro (And.intro (@yFw) (And.intro (@yFx) (@yFy))) (And.intro (@yFz) (And.intro (@yEv) (@yEw)))) (And.intro (And.intro (@yEx) (And.intro (@yEy) (@zXw))) (And.intro (@yEz) (And.intro (@yDv) (@zXx))))))))
theorem firstNot {P:Nat→Prop} : ∀ {n:Nat},(¬ ∀ j,j<n→P j) → ∃ k,k<n ∧ ¬ P k ∧ ∀ j,j<k→P j
  | 0,h=>absurd (fun j hj=>absurd hj (Nat.not_lt_zero j)) h
  | n+1,h=>by
    by_cases h2 : ∀ j,j<n→P j
    · refine ⟨n,by omega,fun hp=>h fun j hj=>?_,h2⟩
      by_cases e:j=n
      · rw [e];exact hp
      · exact h2 j (by omega)
    · obtain ⟨k,hk,a,b⟩:=firstNot h2
      exact ⟨k,by omega,a,b⟩
theorem HoldsE1 (s lv q:AV) (ts:List Te) (ls:List Ln) (ms:List Int) (h:H) (xt:TestsR h s ts) (xl:LinesR h lv ls) (hq:Sl h q 1 ms.length (ms.map ii)) (hn:20<ts.length) :
    (om Try.prog KK).call (.fn 30 [s,lv,q]) h = .ok (.tup [ii 0,ii 0,ii 6]) h:=by
  have wf:=xt.wf
  have hls : ∀ h',lenE Try.prog 51 s h'=some (ii (ts.length:Int)):=fun h'=>xt.sl.len un_51
  have hlq : ∀ h',lenE Try.prog 22 q h'=some (ii (ms.length:Int)):=fun h'=>hq.len yZw
  refine zWy (zLx (fn:=Try.f30) Try.func30 rfl rfl rfl rfl rfl ?_)
  simp only [zLy]
  (repeat' (first
  | (with_reducible first|refine zJw ?_|refine zHz ?_|refine zEv ?_|refine zEw ?_|refine zFz ?_|refine zJv ?_|refine zHy ?_|refine zBv ?_|refine zDx ?_|refine zCz ?_|refine zCw ?_|refine zEy ?_|refine zCv ?_|refine zCy ?_|refine zBy ?_|refine zDv ?_|refine zEz ?_|refine zAw ?_|refine zBz ?_)
  | refine zDz ?_|refine zEx rfl ?_|refine zJy ?_|refine zJx ?_
  | ((first|refine zGv rfl rfl rfl rfl rfl fun K_ hK_=>?_|refine zGw rfl rfl rfl rfl rfl fun K_ hK_=>?_);simp only [zAz,zDy,zGx,↓reduceIte,reduceCtorEq,Nat.reduceEqDiff,Bool.not_true,Bool.not_false];refine hK_ _ ?_;clear hK_ K_)
  | refine zDw (by decide) ?_
  | ((try first|refine zKy rfl rfl rfl ?_|refine zJz rfl rfl ?_|refine zKx rfl rfl rfl ?_|refine zIv rfl rfl ?_);(refine zIw fun Q_ hQ_=>?_;simp (disch:=first|omega|(simp only [List.length_cons,List.length_nil,List.length_append];omega)) only [bb,bp,zLy,↓reduceIte,reduceCtorEq,Nat.reduceEqDiff,Nat.reduceLT,Nat.reduceLeDiff,Nat.reduceAdd,Nat.reduceMul,Nat.reduceSub,Nat.reduceBEq,Int.reduceToNat,cond_true,cond_false,eq_self,beq_self_eq_true,hls,zFx wf,zGy wf,zBw wf,zFy wf,zAy wf,zAx,tEvD31,zIx,zIy,zIz,zHv,zFv,zAv wf];first|(refine zCx (Q:=Q_) (fun hp_=>?_) (fun hp_=>?_) <;> first|(exfalso;omega)|(refine hQ_ _ _ ?_;clear hQ_ Q_))|(refine zBx (Q:=Q_) (fun hp_=>?_) (fun hp_=>?_) <;> first|(exfalso;omega)|(refine hQ_ _ _ ?_;clear hQ_ Q_))|(refine hQ_ _ _ ?_;clear hQ_ Q_)))
  | (refine zHx fun K_ hK_=>?_;simp (disch:=omega) only [zGz,zAz,zHw,↓reduceIte,reduceCtorEq,Nat.reduceEqDiff,Nat.reduceLT];refine hK_ _ ?_;clear hK_ K_)))
  (refine zKz _ _ rfl (ret3 (by decide) (by decide) (by decide)) ?_;simp only [zAz,↓reduceIte,reduceCtorEq,Nat.reduceEqDiff];refine zKw rfl (by omega) ?_)
  exact ⟨rfl,rfl⟩
theorem HoldsE2 (s lv q:AV) (ts:List Te) (ls:List Ln) (ms:List Int) (h:H) (xt:TestsR h s ts) (xl:LinesR h lv ls) (hq:Sl h q 1 ms.length (ms.map ii)) (hn:ts.length≤20) (hno : ¬ ∀ t ∈ ts,okT t) :
    (om Try.prog KK).call (.fn 30 [s,lv,q]) h = .ok (.tup [ii 0,ii 0,ii 2]) h:=by
  have wf:=xt.wf
  have hls : ∀ h',lenE Try.prog 51 s h'=some (ii (ts.length:Int)):=fun h'=>xt.sl.len un_51
  have hlq : ∀ h',lenE Try.prog 22 q h'=some (ii (ms.length:Int)):=fun h'=>hq.len yZw
  obtain ⟨k,hkn,hbad,hgood⟩:=firstNot (P:=fun j=>∀ hj:j<ts.length,okT ts[j]) (n:=ts.length) (fun hall=>hno fun t ht=>by
    obtain ⟨j,hj,rfl⟩:=List.getElem_of_mem ht
    exact hall j hj hj)
  have hbad' : ¬ okT ts[k]:=fun q=>hbad fun _=>q
  refine zWy (zLx (fn:=Try.f30) Try.func30 rfl rfl rfl rfl rfl ?_)
  simp only [zLy]
  (repeat' (first
  | (with_reducible first|refine zJw ?_|refine zHz ?_|refine zEv ?_|refine zEw ?_|refine zFz ?_|refine zJv ?_|refine zHy ?_|refine zBv ?_|refine zDx ?_|refine zCz ?_|refine zCw ?_|refine zEy ?_|refine zCv ?_|refine zCy ?_|refine zBy ?_|refine zDv ?_|refine zEz ?_|refine zAw ?_|refine zBz ?_)
  | refine zDz ?_|refine zEx rfl ?_|refine zJy ?_|refine zJx ?_
  | ((first|refine zGv rfl rfl rfl rfl rfl fun K_ hK_=>?_|refine zGw rfl rfl rfl rfl rfl fun K_ hK_=>?_);simp only [zAz,zDy,zGx,↓reduceIte,reduceCtorEq,Nat.reduceEqDiff,Bool.not_true,Bool.not_false];refine hK_ _ ?_;clear hK_ K_)
  | refine zDw (by decide) ?_
  | ((try first|refine zKy rfl rfl rfl ?_|refine zJz rfl rfl ?_|refine zKx rfl rfl rfl ?_|refine zIv rfl rfl ?_);(refine zIw fun Q_ hQ_=>?_;simp (disch:=first|omega|(simp only [List.length_cons,List.length_nil,List.length_append];omega)) only [bb,bp,zLy,↓reduceIte,reduceCtorEq,Nat.reduceEqDiff,Nat.reduceLT,Nat.reduceLeDiff,Nat.reduceAdd,Nat.reduceMul,Nat.reduceSub,Nat.reduceBEq,Int.reduceToNat,cond_true,cond_false,eq_self,beq_self_eq_true,hls,zFx wf,zGy wf,zBw wf,zFy wf,zAy wf,zAx,tEvD31,zIx,zIy,zIz,zHv,zFv,zAv wf];first|(refine zCx (Q:=Q_) (fun hp_=>?_) (fun hp_=>?_) <;> first|(exfalso;omega)|(refine hQ_ _ _ ?_;clear hQ_ Q_))|(refine zBx (Q:=Q_) (fun hp_=>?_) (fun hp_=>?_) <;> first|(exfalso;omega)|(refine hQ_ _ _ ?_;clear hQ_ Q_))|(refine hQ_ _ _ ?_;clear hQ_ Q_)))
  | (refine zHx fun K_ hK_=>?_;simp (disch:=omega) only [zGz,zAz,zHw,↓reduceIte,reduceCtorEq,Nat.reduceEqDiff,Nat.reduceLT];refine hK_ _ ?_;clear hK_ K_)))
  refine zVw (fun (i:Nat) f d h'=>i≤k∧f 0=s∧f 1=lv∧f 2=q∧f 23=s∧f 24=ii (ts.length:Int)∧f 25=ii (i:Int)∧d=[] ∧ ∃ G,h'=X h G h.clock) (fun i=>k - i) ?_ (k+1) 0 (by omega) ?_
  · rintro i f d h' ⟨hi,g0,g1,g2,g23,g24,g25,rfl,G,rfl⟩
    by_cases hlt:i<k
    · obtain ⟨id,off,hix,hld⟩:=xt.at (i:=i) (by omega)
      simp only [teC] at hld
      have e0:=zWx (hgood i hlt (by omega))
      generalize ts[i]=T at *
      (repeat' (first
  | (with_reducible first|refine zJw ?_|refine zHz ?_|refine zEv ?_|refine zEw ?_|refine zFz ?_|refine zJv ?_|refine zHy ?_|refine zBv ?_|refine zDx ?_|refine zCz ?_|refine zCw ?_|refine zEy ?_|refine zCv ?_|refine zCy ?_|refine zBy ?_|refine zDv ?_|refine zEz ?_|refine zAw ?_|refine zBz ?_)
  | refine zDz ?_|refine zEx rfl ?_|refine zJy ?_|refine zJx ?_
  | ((first|refine zGv rfl rfl rfl rfl rfl fun K_ hK_=>?_|refine zGw rfl rfl rfl rfl rfl fun K_ hK_=>?_);simp only [zAz,zDy,zGx,↓reduceIte,reduceCtorEq,Nat.reduceEqDiff,Bool.not_true,Bool.not_false];refine hK_ _ ?_;clear hK_ K_)
  | refine zDw (by decide) ?_
  | ((try first|refine zKy rfl rfl rfl ?_|refine zJz rfl rfl ?_|refine zKx rfl rfl rfl ?_|refine zIv rfl rfl ?_);(refine zIw fun Q_ hQ_=>?_;simp (disch:=first|omega|(simp only [List.length_cons,List.length_nil,List.length_append];omega)) only [bb,bp,zLy,↓reduceIte,reduceCtorEq,Nat.reduceEqDiff,Nat.reduceLT,Nat.reduceLeDiff,Nat.reduceAdd,Nat.reduceMul,Nat.reduceSub,Nat.reduceBEq,Int.reduceToNat,cond_true,cond_false,eq_self,beq_self_eq_true,g0,g1,g2,g23,g24,g25,hix,hld,zFx wf,zGy wf,zBw wf,zFy wf,zAy wf,zAx,tEvD31,zIx,zIy,zIz,zHv,zFv,zAv wf];first|(refine zCx (Q:=Q_) (fun hp_=>?_) (fun hp_=>?_) <;> first|(exfalso;omega)|(refine hQ_ _ _ ?_;clear hQ_ Q_))|(refine zBx (Q:=Q_) (fun hp_=>?_) (fun hp_=>?_) <;> first|(exfalso;omega)|(refine hQ_ _ _ ?_;clear hQ_ Q_))|(refine hQ_ _ _ ?_;clear hQ_ Q_)|(refine zRv ((CheckTest T _ (wf.X (by first|omega|(simp only [List.length_append,List.length_cons,List.length_nil];omega)))).trans (by rw [e0])) ?_;refine hQ_ _ _ ?_;clear hQ_ Q_)))
  | (refine zHx fun K_ hK_=>?_;simp (disch:=omega) only [zGz,zAz,zHw,↓reduceIte,reduceCtorEq,Nat.reduceEqDiff,Nat.reduceLT];refine hK_ _ ?_;clear hK_ K_)))
      refine zLz (i+1) (by omega) ⟨hlt,by simp only [zAz,↓reduceIte,reduceCtorEq,Nat.reduceEqDiff];exact g0,by simp only [zAz,↓reduceIte,reduceCtorEq,Nat.reduceEqDiff];exact g1,by simp only [zAz,↓reduceIte,reduceCtorEq,Nat.reduceEqDiff];exact g2,by simp only [zAz,↓reduceIte,reduceCtorEq,Nat.reduceEqDiff];exact g23,by simp only [zAz,↓reduceIte,reduceCtorEq,Nat.reduceEqDiff];exact g24,by simp only [zAz,↓reduceIte,reduceCtorEq,Nat.reduceEqDiff];rfl,rfl,_,rfl⟩
    · have hie:i=k:=by omega
      subst hie
      obtain ⟨id,off,hix,hld⟩:=xt.at hkn
      simp only [teC] at hld
      have e0:=yYx hbad'
      generalize ts[i]=T at *
      (repeat' (first
  | (with_reducible first|refine zJw ?_|refine zHz ?_|refine zEv ?_|refine zEw ?_|refine zFz ?_|refine zJv ?_|refine zHy ?_|refine zBv ?_|refine zDx ?_|refine zCz ?_|refine zCw ?_|refine zEy ?_|refine zCv ?_|refine zCy ?_|refine zBy ?_|refine zDv ?_|refine zEz ?_|refine zAw ?_|refine zBz ?_)
  | refine zDz ?_|refine zEx rfl ?_|refine zJy ?_|refine zJx ?_
  | ((first|refine zGv rfl rfl rfl rfl rfl fun K_ hK_=>?_|refine zGw rfl rfl rfl rfl rfl fun K_ hK_=>?_);simp only [zAz,zDy,zGx,↓reduceIte,reduceCtorEq,Nat.reduceEqDiff,Bool.not_true,Bool.not_false];refine hK_ _ ?_;clear hK_ K_)
  | refine zDw (by decide) ?_
  | ((try first|refine zKy rfl rfl rfl ?_|refine zJz rfl rfl ?_|refine zKx rfl rfl rfl ?_|refine zIv rfl rfl ?_);(refine zIw fun Q_ hQ_=>?_;simp (disch:=first|omega|(simp only [List.length_cons,List.length_nil,List.length_append];omega)) only [bb,bp,zLy,↓reduceIte,reduceCtorEq,Nat.reduceEqDiff,Nat.reduceLT,Nat.reduceLeDiff,Nat.reduceAdd,Nat.reduceMul,Nat.reduceSub,Nat.reduceBEq,Int.reduceToNat,cond_true,cond_false,eq_self,beq_self_eq_true,g0,g1,g2,g23,g24,g25,hix,hld,zFx wf,zGy wf,zBw wf,zFy wf,zAy wf,zAx,tEvD31,zIx,zIy,zIz,zHv,zFv,zAv wf];first|(refine zCx (Q:=Q_) (fun hp_=>?_) (fun hp_=>?_) <;> first|(exfalso;omega)|(refine hQ_ _ _ ?_;clear hQ_ Q_))|(refine zBx (Q:=Q_) (fun hp_=>?_) (fun hp_=>?_) <;> first|(exfalso;omega)|(refine hQ_ _ _ ?_;clear hQ_ Q_))|(refine hQ_ _ _ ?_;clear hQ_ Q_)|(refine zRv ((CheckTest T _ (wf.X (by first|omega|(simp only [List.length_append,List.length_cons,List.length_nil];omega)))).trans (by rw [e0])) ?_;refine hQ_ _ _ ?_;clear hQ_ Q_)))
  | (refine zHx fun K_ hK_=>?_;simp (disch:=omega) only [zGz,zAz,zHw,↓reduceIte,reduceCtorEq,Nat.reduceEqDiff,Nat.reduceLT];refine hK_ _ ?_;clear hK_ K_)))
      (refine zKz _ _ rfl (ret3 (by decide) (by decide) (by decide)) ?_;simp only [zAz,↓reduceIte,reduceCtorEq,Nat.reduceEqDiff];refine zKw rfl (by omega) ?_)
      exact ⟨rfl,rfl⟩
  · exact ⟨Nat.zero_le _,by simp only [zAz,↓reduceIte,reduceCtorEq,Nat.reduceEqDiff],by simp only [zAz,↓reduceIte,reduceCtorEq,Nat.reduceEqDiff],by simp only [zAz,↓reduceIte,reduceCtorEq,Nat.reduceEqDiff],by simp only [zAz,↓reduceIte,reduceCtorEq,Nat.reduceEqDiff],by simp only [zAz,↓reduceIte,reduceCtorEq,Nat.reduceEqDiff],by first|(simp only [zAz,↓reduceIte,reduceCtorEq,Nat.reduceEqDiff];done)|(simp only [zAz,↓reduceIte,reduceCtorEq,Nat.reduceEqDiff];rfl),rfl,[],rfl⟩
theorem HoldsE3 (s lv q:AV) (ts:List Te) (ls:List Ln) (ms:List Int) (h:H) (xt:TestsR h s ts) (xl:LinesR h lv ls) (hq:Sl h q 1 ms.length (ms.map ii)) (hn:ts.length≤20) (hok : ∀ t ∈ ts,okT t) (hz : ¬ linesErr ls=0) :
    (om Try.prog KK).call (.fn 30 [s,lv,q]) h = .ok (.tup [ii 0,ii 0,ii (linesErr ls)]) h:=by
  have wf:=xt.wf
  have hls : ∀ h',lenE Try.prog 51 s h'=some (ii (ts.length:Int)):=fun h'=>xt.sl.len un_51
  have hlq : ∀ h',lenE Try.prog 22 q h'=some (ii (ms.length:Int)):=fun h'=>hq.len yZw
  refine zWy (zLx (fn:=Try.f30) Try.func30 rfl rfl rfl rfl rfl ?_)
  simp only [zLy]
  (repeat' (first
  | (with_reducible first|refine zJw ?_|refine zHz ?_|refine zEv ?_|refine zEw ?_|refine zFz ?_|refine zJv ?_|refine zHy ?_|refine zBv ?_|refine zDx ?_|refine zCz ?_|refine zCw ?_|refine zEy ?_|refine zCv ?_|refine zCy ?_|refine zBy ?_|refine zDv ?_|refine zEz ?_|refine zAw ?_|refine zBz ?_)
  | refine zDz ?_|refine zEx rfl ?_|refine zJy ?_|refine zJx ?_
  | ((first|refine zGv rfl rfl rfl rfl rfl fun K_ hK_=>?_|refine zGw rfl rfl rfl rfl rfl fun K_ hK_=>?_);simp only [zAz,zDy,zGx,↓reduceIte,reduceCtorEq,Nat.reduceEqDiff,Bool.not_true,Bool.not_false];refine hK_ _ ?_;clear hK_ K_)
  | refine zDw (by decide) ?_
  | ((try first|refine zKy rfl rfl rfl ?_|refine zJz rfl rfl ?_|refine zKx rfl rfl rfl ?_|refine zIv rfl rfl ?_);(refine zIw fun Q_ hQ_=>?_;simp (disch:=first|omega|(simp only [List.length_cons,List.length_nil,List.length_append];omega)) only [bb,bp,zLy,↓reduceIte,reduceCtorEq,Nat.reduceEqDiff,Nat.reduceLT,Nat.reduceLeDiff,Nat.reduceAdd,Nat.reduceMul,Nat.reduceSub,Nat.reduceBEq,Int.reduceToNat,cond_true,cond_false,eq_self,beq_self_eq_true,hls,zFx wf,zGy wf,zBw wf,zFy wf,zAy wf,zAx,tEvD31,zIx,zIy,zIz,zHv,zFv,zAv wf];first|(refine zCx (Q:=Q_) (fun hp_=>?_) (fun hp_=>?_) <;> first|(exfalso;omega)|(refine hQ_ _ _ ?_;clear hQ_ Q_))|(refine zBx (Q:=Q_) (fun hp_=>?_) (fun hp_=>?_) <;> first|(exfalso;omega)|(refine hQ_ _ _ ?_;clear hQ_ Q_))|(refine hQ_ _ _ ?_;clear hQ_ Q_)))
  | (refine zHx fun K_ hK_=>?_;simp (disch:=omega) only [zGz,zAz,zHw,↓reduceIte,reduceCtorEq,Nat.reduceEqDiff,Nat.reduceLT];refine hK_ _ ?_;clear hK_ K_)))
  refine zVw (fun (i:Nat) f d h'=>i≤ts.length∧f 0=s∧f 1=lv∧f 2=q∧f 23=s∧f 24=ii (ts.length:Int)∧f 25=ii (i:Int)∧d=[] ∧ ∃ G,h'=X h G h.clock) (fun i=>ts.length - i) ?_ (ts.length+1) 0 (by omega) ?_
  · rintro i f d h' ⟨hi,g0,g1,g2,g23,g24,g25,rfl,G,rfl⟩
    by_cases hlt:i<ts.length
    · obtain ⟨id,off,hix,hld⟩:=xt.at hlt
      simp only [teC] at hld
      have e0:=zWx (hok _ (List.getElem_mem hlt))
      generalize ts[i]=T at *
      (repeat' (first
  | (with_reducible first|refine zJw ?_|refine zHz ?_|refine zEv ?_|refine zEw ?_|refine zFz ?_|refine zJv ?_|refine zHy ?_|refine zBv ?_|refine zDx ?_|refine zCz ?_|refine zCw ?_|refine zEy ?_|refine zCv ?_|refine zCy ?_|refine zBy ?_|refine zDv ?_|refine zEz ?_|refine zAw ?_|refine zBz ?_)
  | refine zDz ?_|refine zEx rfl ?_|refine zJy ?_|refine zJx ?_
  | ((first|refine zGv rfl rfl rfl rfl rfl fun K_ hK_=>?_|refine zGw rfl rfl rfl rfl rfl fun K_ hK_=>?_);simp only [zAz,zDy,zGx,↓reduceIte,reduceCtorEq,Nat.reduceEqDiff,Bool.not_true,Bool.not_false];refine hK_ _ ?_;clear hK_ K_)
  | refine zDw (by decide) ?_
  | ((try first|refine zKy rfl rfl rfl ?_|refine zJz rfl rfl ?_|refine zKx rfl rfl rfl ?_|refine zIv rfl rfl ?_);(refine zIw fun Q_ hQ_=>?_;simp (disch:=first|omega|(simp only [List.length_cons,List.length_nil,List.length_append];omega)) only [bb,bp,zLy,↓reduceIte,reduceCtorEq,Nat.reduceEqDiff,Nat.reduceLT,Nat.reduceLeDiff,Nat.reduceAdd,Nat.reduceMul,Nat.reduceSub,Nat.reduceBEq,Int.reduceToNat,cond_true,cond_false,eq_self,beq_self_eq_true,g0,g1,g2,g23,g24,g25,hix,hld,zFx wf,zGy wf,zBw wf,zFy wf,zAy wf,zAx,tEvD31,zIx,zIy,zIz,zHv,zFv,zAv wf];first|(refine zCx (Q:=Q_) (fun hp_=>?_) (fun hp_=>?_) <;> first|(exfalso;omega)|(refine hQ_ _ _ ?_;clear hQ_ Q_))|(refine zBx (Q:=Q_) (fun hp_=>?_) (fun hp_=>?_) <;> first|(exfalso;omega)|(refine hQ_ _ _ ?_;clear hQ_ Q_))|(refine hQ_ _ _ ?_;clear hQ_ Q_)|(refine zRv ((CheckTest T _ (wf.X (by first|omega|(simp only [List.length_append,List.length_cons,List.length_nil];omega)))).trans (by rw [e0])) ?_;refine hQ_ _ _ ?_;clear hQ_ Q_)))
  | (refine zHx fun K_ hK_=>?_;simp (disch:=omega) only [zGz,zAz,zHw,↓reduceIte,reduceCtorEq,Nat.reduceEqDiff,Nat.reduceLT];refine hK_ _ ?_;clear hK_ K_)))
      refine zLz (i+1) (by omega) ⟨hlt,by simp only [zAz,↓reduceIte,reduceCtorEq,Nat.reduceEqDiff];exact g0,by simp only [zAz,↓reduceIte,reduceCtorEq,Nat.reduceEqDiff];exact g1,by simp only [zAz,↓reduceIte,reduceCtorEq,Nat.reduceEqDiff];exact g2,by simp only [zAz,↓reduceIte,reduceCtorEq,Nat.reduceEqDiff];exact g23,by simp only [zAz,↓reduceIte,reduceCtorEq,Nat.reduceEqDiff];exact g24,by simp only [zAz,↓reduceIte,reduceCtorEq,Nat.reduceEqDiff];rfl,rfl,_,rfl⟩
    · have hie:i=ts.length:=by omega
      (repeat' (first
  | (with_reducible first|refine zJw ?_|refine zHz ?_|refine zEv ?_|refine zEw ?_|refine zFz ?_|refine zJv ?_|refine zHy ?_|refine zBv ?_|refine zDx ?_|refine zCz ?_|refine zCw ?_|refine zEy ?_|refine zCv ?_|refine zCy ?_|refine zBy ?_|refine zDv ?_|refine zEz ?_|refine zAw ?_|refine zBz ?_)
  | refine zDz ?_|refine zEx rfl ?_|refine zJy ?_|refine zJx ?_
  | ((first|refine zGv rfl rfl rfl rfl rfl fun K_ hK_=>?_|refine zGw rfl rfl rfl rfl rfl fun K_ hK_=>?_);simp only [zAz,zDy,zGx,↓reduceIte,reduceCtorEq,Nat.reduceEqDiff,Bool.not_true,Bool.not_false];refine hK_ _ ?_;clear hK_ K_)
  | refine zDw (by decide) ?_
  | ((try first|refine zKy rfl rfl rfl ?_|refine zJz rfl rfl ?_|refine zKx rfl rfl rfl ?_|refine zIv rfl rfl ?_);(refine zIw fun Q_ hQ_=>?_;simp (disch:=first|omega|(simp only [List.length_cons,List.length_nil,List.length_append];omega)) only [bb,bp,zLy,↓reduceIte,reduceCtorEq,Nat.reduceEqDiff,Nat.reduceLT,Nat.reduceLeDiff,Nat.reduceAdd,Nat.reduceMul,Nat.reduceSub,Nat.reduceBEq,Int.reduceToNat,cond_true,cond_false,eq_self,beq_self_eq_true,g0,g1,g2,g23,g24,g25,hls,hlq,zFx wf,zGy wf,zBw wf,zFy wf,zAy wf,zAx,tEvD31,zIx,zIy,zIz,zHv,zFv,zAv wf];first|(refine zCx (Q:=Q_) (fun hp_=>?_) (fun hp_=>?_) <;> first|(exfalso;omega)|(refine hQ_ _ _ ?_;clear hQ_ Q_))|(refine zBx (Q:=Q_) (fun hp_=>?_) (fun hp_=>?_) <;> first|(exfalso;omega)|(refine hQ_ _ _ ?_;clear hQ_ Q_))|(refine hQ_ _ _ ?_;clear hQ_ Q_)|(refine zRv (checkLines lv ls _ (xl.up _ _ (by first|omega|(simp only [List.length_append,List.length_cons,List.length_nil];omega)))) ?_;refine hQ_ _ _ ?_;clear hQ_ Q_)))
  | (refine zHx fun K_ hK_=>?_;simp (disch:=omega) only [zGz,zAz,zHw,↓reduceIte,reduceCtorEq,Nat.reduceEqDiff,Nat.reduceLT];refine hK_ _ ?_;clear hK_ K_)))
      (refine zKz _ _ rfl (ret3 (by decide) (by decide) (by decide)) ?_;simp only [zAz,↓reduceIte,reduceCtorEq,Nat.reduceEqDiff];refine zKw rfl (by omega) ?_)
      exact ⟨rfl,rfl⟩
  · exact ⟨Nat.zero_le _,by simp only [zAz,↓reduceIte,reduceCtorEq,Nat.reduceEqDiff],by simp only [zAz,↓reduceIte,reduceCtorEq,Nat.reduceEqDiff],by simp only [zAz,↓reduceIte,reduceCtorEq,Nat.reduceEqDiff],by simp only [zAz,↓reduceIte,reduceCtorEq,Nat.reduceEqDiff],by simp only [zAz,↓reduceIte,reduceCtorEq,Nat.reduceEqDiff],by first|(simp only [zAz,↓reduceIte,reduceCtorEq,Nat.reduceEqDiff];done)|(simp only [zAz,↓reduceIte,reduceCtorEq,Nat.reduceEqDiff];rfl),rfl,[],rfl⟩
theorem HoldsE4 (s lv q:AV) (ts:List Te) (ls:List Ln) (ms:List Int) (h:H) (xt:TestsR h s ts) (xl:LinesR h lv ls) (hq:Sl h q 1 ms.length (ms.map ii)) (hn:ts.length≤20) (hok : ∀ t ∈ ts,okT t) (hz:linesErr ls=0) (hnm:ms.length≠ts.length) :
    (om Try.prog KK).call (.fn 30 [s,lv,q]) h = .ok (.tup [ii 0,ii 0,ii 15]) h:=by
  have wf:=xt.wf
  have hls : ∀ h',lenE Try.prog 51 s h'=some (ii (ts.length:Int)):=fun h'=>xt.sl.len un_51
  have hlq : ∀ h',lenE Try.prog 22 q h'=some (ii (ms.length:Int)):=fun h'=>hq.len yZw
  refine zWy (zLx (fn:=Try.f30) Try.func30 rfl rfl rfl rfl rfl ?_)
  simp only [zLy]
  (repeat' (first
  | (with_reducible first|refine zJw ?_|refine zHz ?_|refine zEv ?_|refine zEw ?_|refine zFz ?_|refine zJv ?_|refine zHy ?_|refine zBv ?_|refine zDx ?_|refine zCz ?_|refine zCw ?_|refine zEy ?_|refine zCv ?_|refine zCy ?_|refine zBy ?_|refine zDv ?_|refine zEz ?_|refine zAw ?_|refine zBz ?_)
  | refine zDz ?_|refine zEx rfl ?_|refine zJy ?_|refine zJx ?_
  | ((first|refine zGv rfl rfl rfl rfl rfl fun K_ hK_=>?_|refine zGw rfl rfl rfl rfl rfl fun K_ hK_=>?_);simp only [zAz,zDy,zGx,↓reduceIte,reduceCtorEq,Nat.reduceEqDiff,Bool.not_true,Bool.not_false];refine hK_ _ ?_;clear hK_ K_)
  | refine zDw (by decide) ?_
  | ((try first|refine zKy rfl rfl rfl ?_|refine zJz rfl rfl ?_|refine zKx rfl rfl rfl ?_|refine zIv rfl rfl ?_);(refine zIw fun Q_ hQ_=>?_;simp (disch:=first|omega|(simp only [List.length_cons,List.length_nil,List.length_append];omega)) only [bb,bp,zLy,↓reduceIte,reduceCtorEq,Nat.reduceEqDiff,Nat.reduceLT,Nat.reduceLeDiff,Nat.reduceAdd,Nat.reduceMul,Nat.reduceSub,Nat.reduceBEq,Int.reduceToNat,cond_true,cond_false,eq_self,beq_self_eq_true,hls,zFx wf,zGy wf,zBw wf,zFy wf,zAy wf,zAx,tEvD31,zIx,zIy,zIz,zHv,zFv,zAv wf];first|(refine zCx (Q:=Q_) (fun hp_=>?_) (fun hp_=>?_) <;> first|(exfalso;omega)|(refine hQ_ _ _ ?_;clear hQ_ Q_))|(refine zBx (Q:=Q_) (fun hp_=>?_) (fun hp_=>?_) <;> first|(exfalso;omega)|(refine hQ_ _ _ ?_;clear hQ_ Q_))|(refine hQ_ _ _ ?_;clear hQ_ Q_)))
  | (refine zHx fun K_ hK_=>?_;simp (disch:=omega) only [zGz,zAz,zHw,↓reduceIte,reduceCtorEq,Nat.reduceEqDiff,Nat.reduceLT];refine hK_ _ ?_;clear hK_ K_)))
  refine zVw (fun (i:Nat) f d h'=>i≤ts.length∧f 0=s∧f 1=lv∧f 2=q∧f 23=s∧f 24=ii (ts.length:Int)∧f 25=ii (i:Int)∧d=[] ∧ ∃ G,h'=X h G h.clock) (fun i=>ts.length - i) ?_ (ts.length+1) 0 (by omega) ?_
  · rintro i f d h' ⟨hi,g0,g1,g2,g23,g24,g25,rfl,G,rfl⟩
    by_cases hlt:i<ts.length
    · obtain ⟨id,off,hix,hld⟩:=xt.at hlt
      simp only [teC] at hld
      have e0:=zWx (hok _ (List.getElem_mem hlt))
      generalize ts[i]=T at *
      (repeat' (first
  | (with_reducible first|refine zJw ?_|refine zHz ?_|refine zEv ?_|refine zEw ?_|refine zFz ?_|refine zJv ?_|refine zHy ?_|refine zBv ?_|refine zDx ?_|refine zCz ?_|refine zCw ?_|refine zEy ?_|refine zCv ?_|refine zCy ?_|refine zBy ?_|refine zDv ?_|refine zEz ?_|refine zAw ?_|refine zBz ?_)
  | refine zDz ?_|refine zEx rfl ?_|refine zJy ?_|refine zJx ?_
  | ((first|refine zGv rfl rfl rfl rfl rfl fun K_ hK_=>?_|refine zGw rfl rfl rfl rfl rfl fun K_ hK_=>?_);simp only [zAz,zDy,zGx,↓reduceIte,reduceCtorEq,Nat.reduceEqDiff,Bool.not_true,Bool.not_false];refine hK_ _ ?_;clear hK_ K_)
  | refine zDw (by decide) ?_
  | ((try first|refine zKy rfl rfl rfl ?_|refine zJz rfl rfl ?_|refine zKx rfl rfl rfl ?_|refine zIv rfl rfl ?_);(refine zIw fun Q_ hQ_=>?_;simp (disch:=first|omega|(simp only [List.length_cons,List.length_nil,List.length_append];omega)) only [bb,bp,zLy,↓reduceIte,reduceCtorEq,Nat.reduceEqDiff,Nat.reduceLT,Nat.reduceLeDiff,Nat.reduceAdd,Nat.reduceMul,Nat.reduceSub,Nat.reduceBEq,Int.reduceToNat,cond_true,cond_false,eq_self,beq_self_eq_true,g0,g1,g2,g23,g24,g25,hix,hld,zFx wf,zGy wf,zBw wf,zFy wf,zAy wf,zAx,tEvD31,zIx,zIy,zIz,zHv,zFv,zAv wf];first|(refine zCx (Q:=Q_) (fun hp_=>?_) (fun hp_=>?_) <;> first|(exfalso;omega)|(refine hQ_ _ _ ?_;clear hQ_ Q_))|(refine zBx (Q:=Q_) (fun hp_=>?_) (fun hp_=>?_) <;> first|(exfalso;omega)|(refine hQ_ _ _ ?_;clear hQ_ Q_))|(refine hQ_ _ _ ?_;clear hQ_ Q_)|(refine zRv ((CheckTest T _ (wf.X (by first|omega|(simp only [List.length_append,List.length_cons,List.length_nil];omega)))).trans (by rw [e0])) ?_;refine hQ_ _ _ ?_;clear hQ_ Q_)))
  | (refine zHx fun K_ hK_=>?_;simp (disch:=omega) only [zGz,zAz,zHw,↓reduceIte,reduceCtorEq,Nat.reduceEqDiff,Nat.reduceLT];refine hK_ _ ?_;clear hK_ K_)))
      refine zLz (i+1) (by omega) ⟨hlt,by simp only [zAz,↓reduceIte,reduceCtorEq,Nat.reduceEqDiff];exact g0,by simp only [zAz,↓reduceIte,reduceCtorEq,Nat.reduceEqDiff];exact g1,by simp only [zAz,↓reduceIte,reduceCtorEq,Nat.reduceEqDiff];exact g2,by simp only [zAz,↓reduceIte,reduceCtorEq,Nat.reduceEqDiff];exact g23,by simp only [zAz,↓reduceIte,reduceCtorEq,Nat.reduceEqDiff];exact g24,by simp only [zAz,↓reduceIte,reduceCtorEq,Nat.reduceEqDiff];rfl,rfl,_,rfl⟩
    · have hie:i=ts.length:=by omega
      have hnm':(ms.length:Int)≠(ts.length:Int):=by omega
      (repeat' (first
  | (with_reducible first|refine zJw ?_|refine zHz ?_|refine zEv ?_|refine zEw ?_|refine zFz ?_|refine zJv ?_|refine zHy ?_|refine zBv ?_|refine zDx ?_|refine zCz ?_|refine zCw ?_|refine zEy ?_|refine zCv ?_|refine zCy ?_|refine zBy ?_|refine zDv ?_|refine zEz ?_|refine zAw ?_|refine zBz ?_)
  | refine zDz ?_|refine zEx rfl ?_|refine zJy ?_|refine zJx ?_
  | ((first|refine zGv rfl rfl rfl rfl rfl fun K_ hK_=>?_|refine zGw rfl rfl rfl rfl rfl fun K_ hK_=>?_);simp only [zAz,zDy,zGx,↓reduceIte,reduceCtorEq,Nat.reduceEqDiff,Bool.not_true,Bool.not_false];refine hK_ _ ?_;clear hK_ K_)
  | refine zDw (by decide) ?_
  | ((try first|refine zKy rfl rfl rfl ?_|refine zJz rfl rfl ?_|refine zKx rfl rfl rfl ?_|refine zIv rfl rfl ?_);(refine zIw fun Q_ hQ_=>?_;simp (disch:=first|omega|(simp only [List.length_cons,List.length_nil,List.length_append];omega)) only [bb,bp,zLy,↓reduceIte,reduceCtorEq,Nat.reduceEqDiff,Nat.reduceLT,Nat.reduceLeDiff,Nat.reduceAdd,Nat.reduceMul,Nat.reduceSub,Nat.reduceBEq,Int.reduceToNat,cond_true,cond_false,eq_self,beq_self_eq_true,g0,g1,g2,g23,g24,g25,hls,hlq,zFx wf,zGy wf,zBw wf,zFy wf,zAy wf,zAx,tEvD31,zIx,zIy,zIz,zHv,zFv,zAv wf];first|(refine zCx (Q:=Q_) (fun hp_=>?_) (fun hp_=>?_) <;> first|(exfalso;omega)|(refine hQ_ _ _ ?_;clear hQ_ Q_))|(refine zBx (Q:=Q_) (fun hp_=>?_) (fun hp_=>?_) <;> first|(exfalso;omega)|(refine hQ_ _ _ ?_;clear hQ_ Q_))|(refine hQ_ _ _ ?_;clear hQ_ Q_)|(refine zRv ((checkLines lv ls _ (xl.up _ _ (by first|omega|(simp only [List.length_append,List.length_cons,List.length_nil];omega)))).trans (by rw [hz])) ?_;refine hQ_ _ _ ?_;clear hQ_ Q_)))
  | (refine zHx fun K_ hK_=>?_;simp (disch:=omega) only [zGz,zAz,zHw,↓reduceIte,reduceCtorEq,Nat.reduceEqDiff,Nat.reduceLT];refine hK_ _ ?_;clear hK_ K_)))
      (refine zKz _ _ rfl (ret3 (by decide) (by decide) (by decide)) ?_;simp only [zAz,↓reduceIte,reduceCtorEq,Nat.reduceEqDiff];refine zKw rfl (by omega) ?_)
      exact ⟨rfl,rfl⟩
  · exact ⟨Nat.zero_le _,by simp only [zAz,↓reduceIte,reduceCtorEq,Nat.reduceEqDiff],by simp only [zAz,↓reduceIte,reduceCtorEq,Nat.reduceEqDiff],by simp only [zAz,↓reduceIte,reduceCtorEq,Nat.reduceEqDiff],by simp only [zAz,↓reduceIte,reduceCtorEq,Nat.reduceEqDiff],by simp only [zAz,↓reduceIte,reduceCtorEq,Nat.reduceEqDiff],by first|(simp only [zAz,↓reduceIte,reduceCtorEq,Nat.reduceEqDiff];done)|(simp only [zAz,↓reduceIte,reduceCtorEq,Nat.reduceEqDiff];rfl),rfl,[],rfl⟩
theorem HoldsE5 (s lv q:AV) (hcap:Capd q) (ts:List Te) (ls:List Ln) (ms:List Int) (h:H) (xt:TestsR h s ts) (xl:LinesR h lv ls) (hq:Sl h q 1 ms.length (ms.map ii)) (hn:ts.length≤20) (hok : ∀ t ∈ ts,okT t) (hk:okLs ls) (hnm:ms.length=ts.length) (hno : ¬ ∀ t ∈ ts,rk t ls) :
    (om Try.prog KK).call (.fn 30 [s,lv,q]) h = .ok (.tup [ii 0,ii 0,ii 19]) h:=by
  obtain ⟨k,hkn,hbad,hgood⟩:=firstNot (P:=fun j=>∀ hj:j<ts.length,rk ts[j] ls) (n:=ts.length) (fun hall=>hno fun t ht=>by
    obtain ⟨j,hj,rfl⟩:=List.getElem_of_mem ht
    exact hall j hj hj)
  have hbad' : ¬ rk ts[k] ls:=fun q=>hbad fun _=>q
  have wf:=xt.wf
  obtain ⟨fl1,fl2⟩:=xl.flat
  have hls : ∀ h',lenE Try.prog 51 s h'=some (ii (ts.length:Int)):=fun h'=>xt.sl.len un_51
  have hlq : ∀ h',lenE Try.prog 22 q h'=some (ii (ms.length:Int)):=fun h'=>hq.len yZw
  have hz:=yWv.2 hk
  refine zWy (zLx (fn:=Try.f30) Try.func30 rfl rfl rfl rfl rfl ?_)
  simp only [zLy]
  (repeat' (first
  | (with_reducible first|refine zJw ?_|refine zHz ?_|refine zEv ?_|refine zEw ?_|refine zFz ?_|refine zJv ?_|refine zHy ?_|refine zBv ?_|refine zDx ?_|refine zCz ?_|refine zCw ?_|refine zEy ?_|refine zCv ?_|refine zCy ?_|refine zBy ?_|refine zDv ?_|refine zEz ?_|refine zAw ?_|refine zBz ?_)
  | refine zDz ?_|refine zEx rfl ?_|refine zJy ?_|refine zJx ?_
  | ((first|refine zGv rfl rfl rfl rfl rfl fun K_ hK_=>?_|refine zGw rfl rfl rfl rfl rfl fun K_ hK_=>?_);simp only [zAz,zDy,zGx,↓reduceIte,reduceCtorEq,Nat.reduceEqDiff,Bool.not_true,Bool.not_false];refine hK_ _ ?_;clear hK_ K_)
  | refine zDw (by decide) ?_
  | ((try first|refine zKy rfl rfl rfl ?_|refine zJz rfl rfl ?_|refine zKx rfl rfl rfl ?_|refine zIv rfl rfl ?_);(refine zIw fun Q_ hQ_=>?_;simp (disch:=first|omega|(simp only [List.length_cons,List.length_nil,List.length_append];omega)) only [bb,bp,zLy,↓reduceIte,reduceCtorEq,Nat.reduceEqDiff,Nat.reduceLT,Nat.reduceLeDiff,Nat.reduceAdd,Nat.reduceMul,Nat.reduceSub,Nat.reduceBEq,Int.reduceToNat,cond_true,cond_false,eq_self,beq_self_eq_true,hls,zFx wf,zGy wf,zBw wf,zFy wf,zAy wf,zAx,tEvD31,zIx,zIy,zIz,zHv,zFv,zAv wf];first|(refine zCx (Q:=Q_) (fun hp_=>?_) (fun hp_=>?_) <;> first|(exfalso;omega)|(refine hQ_ _ _ ?_;clear hQ_ Q_))|(refine zBx (Q:=Q_) (fun hp_=>?_) (fun hp_=>?_) <;> first|(exfalso;omega)|(refine hQ_ _ _ ?_;clear hQ_ Q_))|(refine hQ_ _ _ ?_;clear hQ_ Q_)))
  | (refine zHx fun K_ hK_=>?_;simp (disch:=omega) only [zGz,zAz,zHw,↓reduceIte,reduceCtorEq,Nat.reduceEqDiff,Nat.reduceLT];refine hK_ _ ?_;clear hK_ K_)))
  refine zVw (fun (i:Nat) f d h'=>i≤ts.length∧f 0=s∧f 1=lv∧f 2=q∧f 23=s∧f 24=ii (ts.length:Int)∧f 25=ii (i:Int)∧d=[] ∧ ∃ G,h'=X h G h.clock) (fun i=>ts.length - i) ?_ (ts.length+1) 0 (by omega) ?_
  · rintro i f d h' ⟨hi,g0,g1,g2,g23,g24,g25,rfl,G,rfl⟩
    by_cases hlt:i<ts.length
    · obtain ⟨id,off,hix,hld⟩:=xt.at hlt
      simp only [teC] at hld
      have e0:=zWx (hok _ (List.getElem_mem hlt))
      generalize ts[i]=T at *
      (repeat' (first
  | (with_reducible first|refine zJw ?_|refine zHz ?_|refine zEv ?_|refine zEw ?_|refine zFz ?_|refine zJv ?_|refine zHy ?_|refine zBv ?_|refine zDx ?_|refine zCz ?_|refine zCw ?_|refine zEy ?_|refine zCv ?_|refine zCy ?_|refine zBy ?_|refine zDv ?_|refine zEz ?_|refine zAw ?_|refine zBz ?_)
  | refine zDz ?_|refine zEx rfl ?_|refine zJy ?_|refine zJx ?_
  | ((first|refine zGv rfl rfl rfl rfl rfl fun K_ hK_=>?_|refine zGw rfl rfl rfl rfl rfl fun K_ hK_=>?_);simp only [zAz,zDy,zGx,↓reduceIte,reduceCtorEq,Nat.reduceEqDiff,Bool.not_true,Bool.not_false];refine hK_ _ ?_;clear hK_ K_)
  | refine zDw (by decide) ?_
  | ((try first|refine zKy rfl rfl rfl ?_|refine zJz rfl rfl ?_|refine zKx rfl rfl rfl ?_|refine zIv rfl rfl ?_);(refine zIw fun Q_ hQ_=>?_;simp (disch:=first|omega|(simp only [List.length_cons,List.length_nil,List.length_append];omega)) only [bb,bp,zLy,↓reduceIte,reduceCtorEq,Nat.reduceEqDiff,Nat.reduceLT,Nat.reduceLeDiff,Nat.reduceAdd,Nat.reduceMul,Nat.reduceSub,Nat.reduceBEq,Int.reduceToNat,cond_true,cond_false,eq_self,beq_self_eq_true,g0,g1,g2,g23,g24,g25,hix,hld,zFx wf,zGy wf,zBw wf,zFy wf,zAy wf,zAx,tEvD31,zIx,zIy,zIz,zHv,zFv,zAv wf];first|(refine zCx (Q:=Q_) (fun hp_=>?_) (fun hp_=>?_) <;> first|(exfalso;omega)|(refine hQ_ _ _ ?_;clear hQ_ Q_))|(refine zBx (Q:=Q_) (fun hp_=>?_) (fun hp_=>?_) <;> first|(exfalso;omega)|(refine hQ_ _ _ ?_;clear hQ_ Q_))|(refine hQ_ _ _ ?_;clear hQ_ Q_)|(refine zRv ((CheckTest T _ (wf.X (by first|omega|(simp only [List.length_append,List.length_cons,List.length_nil];omega)))).trans (by rw [e0])) ?_;refine hQ_ _ _ ?_;clear hQ_ Q_)))
  | (refine zHx fun K_ hK_=>?_;simp (disch:=omega) only [zGz,zAz,zHw,↓reduceIte,reduceCtorEq,Nat.reduceEqDiff,Nat.reduceLT];refine hK_ _ ?_;clear hK_ K_)))
      refine zLz (i+1) (by omega) ⟨hlt,by simp only [zAz,↓reduceIte,reduceCtorEq,Nat.reduceEqDiff];exact g0,by simp only [zAz,↓reduceIte,reduceCtorEq,Nat.reduceEqDiff];exact g1,by simp only [zAz,↓reduceIte,reduceCtorEq,Nat.reduceEqDiff];exact g2,by simp only [zAz,↓reduceIte,reduceCtorEq,Nat.reduceEqDiff];exact g23,by simp only [zAz,↓reduceIte,reduceCtorEq,Nat.reduceEqDiff];exact g24,by simp only [zAz,↓reduceIte,reduceCtorEq,Nat.reduceEqDiff];rfl,rfl,_,rfl⟩
    · have hie:i=ts.length:=by omega
      have hms:ms.length≤1000:=by omega
      have hnm':(ms.length:Int)=(ts.length:Int):=by omega
      have hlim:=limitsOf q hcap ms hms h wf hq
      (repeat' (first
  | (with_reducible first|refine zJw ?_|refine zHz ?_|refine zEv ?_|refine zEw ?_|refine zFz ?_|refine zJv ?_|refine zHy ?_|refine zBv ?_|refine zDx ?_|refine zCz ?_|refine zCw ?_|refine zEy ?_|refine zCv ?_|refine zCy ?_|refine zBy ?_|refine zDv ?_|refine zEz ?_|refine zAw ?_|refine zBz ?_)
  | refine zDz ?_|refine zEx rfl ?_|refine zJy ?_|refine zJx ?_
  | ((first|refine zGv rfl rfl rfl rfl rfl fun K_ hK_=>?_|refine zGw rfl rfl rfl rfl rfl fun K_ hK_=>?_);simp only [zAz,zDy,zGx,↓reduceIte,reduceCtorEq,Nat.reduceEqDiff,Bool.not_true,Bool.not_false];refine hK_ _ ?_;clear hK_ K_)
  | refine zDw (by decide) ?_
  | ((try first|refine zKy rfl rfl rfl ?_|refine zJz rfl rfl ?_|refine zKx rfl rfl rfl ?_|refine zIv rfl rfl ?_);(refine zIw fun Q_ hQ_=>?_;simp (disch:=first|omega|(simp only [List.length_cons,List.length_nil,List.length_append];omega)) only [bb,bp,zLy,↓reduceIte,reduceCtorEq,Nat.reduceEqDiff,Nat.reduceLT,Nat.reduceLeDiff,Nat.reduceAdd,Nat.reduceMul,Nat.reduceSub,Nat.reduceBEq,Int.reduceToNat,cond_true,cond_false,eq_self,beq_self_eq_true,g0,g1,g2,g23,g24,g25,hls,hlq,zFx wf,zGy wf,zBw wf,zFy wf,zAy wf,zAx,tEvD31,zIx,zIy,zIz,zHv,zFv,zAv wf];first|(refine zCx (Q:=Q_) (fun hp_=>?_) (fun hp_=>?_) <;> first|(exfalso;omega)|(refine hQ_ _ _ ?_;clear hQ_ Q_))|(refine zBx (Q:=Q_) (fun hp_=>?_) (fun hp_=>?_) <;> first|(exfalso;omega)|(refine hQ_ _ _ ?_;clear hQ_ Q_))|(refine hQ_ _ _ ?_;clear hQ_ Q_)|(refine zRv ((checkLines lv ls _ (xl.up _ _ (by first|omega|(simp only [List.length_append,List.length_cons,List.length_nil];omega)))).trans (by rw [hz])) ?_;refine hQ_ _ _ ?_;clear hQ_ Q_)|(refine zRv (hlim _ _ (by first|omega|(simp only [List.length_append,List.length_cons,List.length_nil];omega))) ?_;refine hQ_ _ _ ?_;clear hQ_ Q_)))
  | (refine zHx fun K_ hK_=>?_;simp (disch:=omega) only [zGz,zAz,zHw,↓reduceIte,reduceCtorEq,Nat.reduceEqDiff,Nat.reduceLT];refine hK_ _ ?_;clear hK_ K_)))
      generalize hsm:AV.sl (nx h (G.length+1)) 0 ms.length (some ms.length) 1=slm at *
      have fsm:AV.cells slm=[slm]∧oneB slm=true:=by rw [← hsm];exact ⟨rfl,rfl⟩
      obtain ⟨fs1,fs2⟩:=fsm
      have hsl : ∀ (L:List AO) (w:Nat),L[G.length+1]? = some (.cells (zFw (ms.map ii)) 2)→Sl (X h L w) slm 1 ms.length (ms.map ii):=fun L w hL=>by rw [← hsm];exact Sl.new wf (by simp) hL
      refine zVw (fun (i:Nat) f d h'=>i≤k∧f 0=s∧f 1=lv∧f 2=q∧f 13 = .ptr (nx h (G.length+3)) 0∧f 47=s∧f 48=ii (ts.length:Int)∧f 49=ii (i:Int)∧d=[] ∧
        ∃ L0 G2 v,L0.length=G.length+4∧L0[G.length+1]? = some (.cells (zFw (ms.map ii)) 2)∧L0[G.length+3]? = some (.cells (zFw [slm,v]) 98)∧Grow h L0 G2 v 2 33 i (((spansOf ts ls).take i).flatMap rgC)∧h'=X h (L0++G2) h.clock) (fun i=>k - i) ?_ (k+1) 0 (by omega) ?_
      · clear g0 g1 g2 g23 g24 g25
        rintro i f d h' ⟨hi,g0,g1,g2,g13,g47,g48,g49,rfl,L0,G2,v,hL0,hLm,hLl,hgr,rfl⟩
        obtain ⟨fv1,fv2⟩:=hgr.flat
        have hlt13:=zXy hLl
        have ld1 : ∀ J w,load1 (nx h (G.length+3)) 1 (X h (L0++J) w)=some v:=fun J w=>by rw [zGy wf,List.getElem?_append_left hlt13,hLl];rfl
        have lda : ∀ J w,loadAgg (nx h (G.length+3)) 0 (some 2) (X h (L0++J) w)=some (.agg [slm,v]):=fun J w=>by rw [zBw wf,List.getElem?_append_left hlt13,hLl,xCy (by decide)];rfl
        by_cases hlt:i<k
        · have hlt':i<ts.length:=by omega
          obtain ⟨id,off,hix,hld⟩:=xt.at hlt'
          simp only [teC] at hld
          have hTok:=hok _ (List.getElem_mem hlt')
          have hTr:=hgood i hlt hlt'
          have hsp:(spansOf ts ls).take (i+1)=(spansOf ts ls).take i++[(spanV ts[i] ls false,spanV ts[i] ls true)]:=by
            rw [List.take_succ_eq_append_getElem (by unfold spansOf;simpa using hlt')]
            simp [spansOf]
          generalize ts[i]=T at *
          obtain ⟨M,lv',hc,hcap',hlr⟩:=reckoned T lv ls hTok hk hTr h xl (L0++(G2++[.cells (zFw [ii T.sp,ii T.lo,ii T.we,ii T.al,ii T.f0,ii T.f1,ii T.t0,ii T.t1,ii T.s0,ii T.s1,ii T.o0,ii T.o1,ii T.b0,ii T.b1,ii T.r0,ii T.r1]) 35])) h.clock (by omega)
          simp only [List.append_assoc,List.cons_append,List.nil_append,List.length_append,List.length_cons,List.length_nil] at hc hlr
          obtain ⟨f1,f2⟩:=(hlr [] h.clock (by omega)).flat
          have sc:=fun R w hw=>span T hTok lv' hcap' ls hk hTr _ (hlr R w hw)
          have hr3:=hgr.resz (P:=Try.prog) 96
          obtain ⟨v',G',hg',happ,_⟩:=(hgr.more (.cells (zFw [ii T.sp,ii T.lo,ii T.we,ii T.al,ii T.f0,ii T.f1,ii T.t0,ii T.t1,ii T.s0,ii T.s1,ii T.o0,ii T.o1,ii T.b0,ii T.b1,ii T.r0,ii T.r1]) 35 :: (M++[.cells (zFw [ii T.sp,ii T.lo,ii T.we,ii T.al,ii T.f0,ii T.f1,ii T.t0,ii T.t1,ii T.s0,ii T.s1,ii T.o0,ii T.o1,ii T.b0,ii T.b1,ii T.r0,ii T.r1,lv']) 76]))).appendD (P:=Try.prog) wf un_96 zWw el_33 (n:=1) (new:=[ii (spanV T ls false),ii (spanV T ls true)]) (by omega) (by omega) (by omega) rfl rfl
          obtain ⟨fw1,fw2⟩:=hg'.flat
          simp only [List.append_assoc,List.cons_append,List.nil_append,List.length_append,List.length_cons,List.length_nil,Nat.zero_add] at happ
          have hst : ∀ w,store1 (nx h (G.length+3)) 1 v' (X h (L0++G') w)=some (X h (L0.set (G.length+3) (.cells (zFw [slm,v']) 98)++G') (min (h.clock+(G.length+3)) w)):=fun w=>by
            have e:storeAt (some (.cells (zFw [slm,v]) 98)) 1 v'=some (.cells (zFw [slm,v']) 98):=by
              rw [yYv,fw2,cond_true];rfl
            rw [zFy wf,List.getElem?_append_left hlt13,hLl,e]
            show some (X h ((L0++G').set (G.length+3) _) _)=_
            rw [List.set_append_left _ _ hlt13]
          (repeat' (first
  | (with_reducible first|refine zJw ?_|refine zHz ?_|refine zEv ?_|refine zEw ?_|refine zFz ?_|refine zJv ?_|refine zHy ?_|refine zBv ?_|refine zDx ?_|refine zCz ?_|refine zCw ?_|refine zEy ?_|refine zCv ?_|refine zCy ?_|refine zBy ?_|refine zDv ?_|refine zEz ?_|refine zAw ?_|refine zBz ?_)
  | refine zDz ?_|refine zEx rfl ?_|refine zJy ?_|refine zJx ?_
  | ((first|refine zGv rfl rfl rfl rfl rfl fun K_ hK_=>?_|refine zGw rfl rfl rfl rfl rfl fun K_ hK_=>?_);simp only [zAz,zDy,zGx,↓reduceIte,reduceCtorEq,Nat.reduceEqDiff,Bool.not_true,Bool.not_false];refine hK_ _ ?_;clear hK_ K_)
  | refine zDw (by decide) ?_
  | ((try first|refine zKy rfl rfl rfl ?_|refine zJz rfl rfl ?_|refine zKx rfl rfl rfl ?_|refine zIv rfl rfl ?_);(refine zIw fun Q_ hQ_=>?_;simp (disch:=first|omega|(simp only [List.length_cons,List.length_nil,List.length_append];omega)) only [bb,bp,zLy,↓reduceIte,reduceCtorEq,Nat.reduceEqDiff,Nat.reduceLT,Nat.reduceLeDiff,Nat.reduceAdd,Nat.reduceMul,Nat.reduceSub,Nat.reduceBEq,Int.reduceToNat,cond_true,cond_false,eq_self,beq_self_eq_true,g0,g1,g2,g13,g47,g48,g49,hix,hld,zFx wf,zGy wf,zBw wf,zFy wf,zAy wf,zAx,tEvD31,zIx,zIy,zIz,zHv,zFv,zAv wf];first|(refine zCx (Q:=Q_) (fun hp_=>?_) (fun hp_=>?_) <;> first|(exfalso;omega)|(refine hQ_ _ _ ?_;clear hQ_ Q_))|(refine zBx (Q:=Q_) (fun hp_=>?_) (fun hp_=>?_) <;> first|(exfalso;omega)|(refine hQ_ _ _ ?_;clear hQ_ Q_))|(refine hQ_ _ _ ?_;clear hQ_ Q_)|(refine zRv (hc) ?_;refine hQ_ _ _ ?_;clear hQ_ Q_)))
  | (refine zHx fun K_ hK_=>?_;simp (disch:=omega) only [zGz,zAz,zHw,↓reduceIte,reduceCtorEq,Nat.reduceEqDiff,Nat.reduceLT];refine hK_ _ ?_;clear hK_ K_)))
          (repeat' (first
  | (with_reducible first|refine zJw ?_|refine zHz ?_|refine zEv ?_|refine zEw ?_|refine zFz ?_|refine zJv ?_|refine zHy ?_|refine zBv ?_|refine zDx ?_|refine zCz ?_|refine zCw ?_|refine zEy ?_|refine zCv ?_|refine zCy ?_|refine zBy ?_|refine zDv ?_|refine zEz ?_|refine zAw ?_|refine zBz ?_)
  | refine zDz ?_|refine zEx rfl ?_|refine zJy ?_|refine zJx ?_
  | ((first|refine zGv rfl rfl rfl rfl rfl fun K_ hK_=>?_|refine zGw rfl rfl rfl rfl rfl fun K_ hK_=>?_);simp only [zAz,zDy,zGx,↓reduceIte,reduceCtorEq,Nat.reduceEqDiff,Bool.not_true,Bool.not_false];refine hK_ _ ?_;clear hK_ K_)
  | refine zDw (by decide) ?_
  | ((try first|refine zKy rfl rfl rfl ?_|refine zJz rfl rfl ?_|refine zKx rfl rfl rfl ?_|refine zIv rfl rfl ?_);(refine zIw fun Q_ hQ_=>?_;simp (disch:=first|omega|(simp only [List.length_cons,List.length_nil,List.length_append];omega)) only [bb,bp,zLy,↓reduceIte,reduceCtorEq,Nat.reduceEqDiff,Nat.reduceLT,Nat.reduceLeDiff,Nat.reduceAdd,Nat.reduceMul,Nat.reduceSub,Nat.reduceBEq,Int.reduceToNat,cond_true,cond_false,eq_self,beq_self_eq_true,g0,g1,g2,g13,g47,g48,g49,f1,f2,zFx wf,zGy wf,zBw wf,zFy wf,zAy wf,zAx,tEvD31,zIx,zIy,zIz,zHv,zFv,zAv wf];first|(refine zCx (Q:=Q_) (fun hp_=>?_) (fun hp_=>?_) <;> first|(exfalso;omega)|(refine hQ_ _ _ ?_;clear hQ_ Q_))|(refine zBx (Q:=Q_) (fun hp_=>?_) (fun hp_=>?_) <;> first|(exfalso;omega)|(refine hQ_ _ _ ?_;clear hQ_ Q_))|(refine hQ_ _ _ ?_;clear hQ_ Q_)))
  | (refine zHx fun K_ hK_=>?_;simp (disch:=omega) only [zGz,zAz,zHw,↓reduceIte,reduceCtorEq,Nat.reduceEqDiff,Nat.reduceLT];refine hK_ _ ?_;clear hK_ K_)))
          refine zLv [.no,.no,.no,.no,.no,.full,.full,.full] (by kernel_rfl) ?_
          (repeat' (first
  | (with_reducible first|refine zJw ?_|refine zHz ?_|refine zEv ?_|refine zEw ?_|refine zFz ?_|refine zJv ?_|refine zHy ?_|refine zBv ?_|refine zDx ?_|refine zCz ?_|refine zCw ?_|refine zEy ?_|refine zCv ?_|refine zCy ?_|refine zBy ?_|refine zDv ?_|refine zEz ?_|refine zAw ?_|refine zBz ?_)
  | refine zDz ?_|refine zEx rfl ?_|refine zJy ?_|refine zJx ?_
  | ((first|refine zGv rfl rfl rfl rfl rfl fun K_ hK_=>?_|refine zGw rfl rfl rfl rfl rfl fun K_ hK_=>?_);simp only [zAz,zDy,zGx,↓reduceIte,reduceCtorEq,Nat.reduceEqDiff,Bool.not_true,Bool.not_false];refine hK_ _ ?_;clear hK_ K_)
  | refine zDw (by decide) ?_
  | ((try first|refine zKy rfl rfl rfl ?_|refine zJz rfl rfl ?_|refine zKx rfl rfl rfl ?_|refine zIv rfl rfl ?_);(refine zIw fun Q_ hQ_=>?_;simp (disch:=first|omega|(simp only [List.length_cons,List.length_nil,List.length_append];omega)) only [bb,bp,zLy,↓reduceIte,reduceCtorEq,Nat.reduceEqDiff,Nat.reduceLT,Nat.reduceLeDiff,Nat.reduceAdd,Nat.reduceMul,Nat.reduceSub,Nat.reduceBEq,Int.reduceToNat,cond_true,cond_false,eq_self,beq_self_eq_true,g0,g1,g2,g13,g47,g48,g49,f1,f2,ld1,sc,zFx wf,zGy wf,zBw wf,zFy wf,zAy wf,zAx,tEvD31,zIx,zIy,zIz,zHv,zFv,zAv wf];first|(refine zCx (Q:=Q_) (fun hp_=>?_) (fun hp_=>?_) <;> first|(exfalso;omega)|(refine hQ_ _ _ ?_;clear hQ_ Q_))|(refine zBx (Q:=Q_) (fun hp_=>?_) (fun hp_=>?_) <;> first|(exfalso;omega)|(refine hQ_ _ _ ?_;clear hQ_ Q_))|(refine hQ_ _ _ ?_;clear hQ_ Q_)))
  | (refine zHx fun K_ hK_=>?_;simp (disch:=omega) only [zGz,zAz,zHw,↓reduceIte,reduceCtorEq,Nat.reduceEqDiff,Nat.reduceLT];refine hK_ _ ?_;clear hK_ K_)))
          (repeat' (first
  | (with_reducible first|refine zJw ?_|refine zHz ?_|refine zEv ?_|refine zEw ?_|refine zFz ?_|refine zJv ?_|refine zHy ?_|refine zBv ?_|refine zDx ?_|refine zCz ?_|refine zCw ?_|refine zEy ?_|refine zCv ?_|refine zCy ?_|refine zBy ?_|refine zDv ?_|refine zEz ?_|refine zAw ?_|refine zBz ?_)
  | refine zDz ?_|refine zEx rfl ?_|refine zJy ?_|refine zJx ?_
  | ((first|refine zGv rfl rfl rfl rfl rfl fun K_ hK_=>?_|refine zGw rfl rfl rfl rfl rfl fun K_ hK_=>?_);simp only [zAz,zDy,zGx,↓reduceIte,reduceCtorEq,Nat.reduceEqDiff,Bool.not_true,Bool.not_false];refine hK_ _ ?_;clear hK_ K_)
  | refine zDw (by decide) ?_
  | ((try first|refine zKy rfl rfl rfl ?_|refine zJz rfl rfl ?_|refine zKx rfl rfl rfl ?_|refine zIv rfl rfl ?_);(refine zIw fun Q_ hQ_=>?_;simp (disch:=first|omega|(simp only [List.length_cons,List.length_nil,List.length_append];omega)) only [bb,bp,zLy,↓reduceIte,reduceCtorEq,Nat.reduceEqDiff,Nat.reduceLT,Nat.reduceLeDiff,Nat.reduceAdd,Nat.reduceMul,Nat.reduceSub,Nat.reduceBEq,Int.reduceToNat,cond_true,cond_false,eq_self,beq_self_eq_true,ni_96,hr3,happ,xTw un_96 zWw,g13,g49,fw1,fw2,hst,tEvD31,zIx,zIy,zIz,zHv,zFv,zAv wf];first|(refine zCx (Q:=Q_) (fun hp_=>?_) (fun hp_=>?_) <;> first|(exfalso;omega)|(refine hQ_ _ _ ?_;clear hQ_ Q_))|(refine zBx (Q:=Q_) (fun hp_=>?_) (fun hp_=>?_) <;> first|(exfalso;omega)|(refine hQ_ _ _ ?_;clear hQ_ Q_))|(refine hQ_ _ _ ?_;clear hQ_ Q_)))
  | (refine zHx fun K_ hK_=>?_;simp (disch:=omega) only [zGz,zAz,zHw,↓reduceIte,reduceCtorEq,Nat.reduceEqDiff,Nat.reduceLT];refine hK_ _ ?_;clear hK_ K_)))
          refine zLz (i+1) (by omega) ⟨hlt,by simp only [zAz,↓reduceIte,reduceCtorEq,Nat.reduceEqDiff];exact g0,by simp only [zAz,↓reduceIte,reduceCtorEq,Nat.reduceEqDiff];exact g1,by simp only [zAz,↓reduceIte,reduceCtorEq,Nat.reduceEqDiff];exact g2,by simp only [zAz,↓reduceIte,reduceCtorEq,Nat.reduceEqDiff];exact g13,by simp only [zAz,↓reduceIte,reduceCtorEq,Nat.reduceEqDiff];exact g47,by simp only [zAz,↓reduceIte,reduceCtorEq,Nat.reduceEqDiff];exact g48,by simp only [zAz,↓reduceIte,reduceCtorEq,Nat.reduceEqDiff];rfl,rfl,L0.set (G.length+3) (.cells (zFw [slm,v']) 98),G',v',by rw [List.length_set,hL0],by rw [List.getElem?_set_ne (by omega)];exact hLm,by rw [List.getElem?_set_self hlt13],?_,?_⟩
          · rw [hsp,List.flatMap_append]
            exact hg'.front (List.length_set ..)
          · congr 1
        · have hie:i=k:=by omega
          subst hie
          obtain ⟨id,off,hix,hld⟩:=xt.at hkn
          simp only [teC] at hld
          have he:=reck3 (hok _ (List.getElem_mem hkn)) hz hbad'
          have hne : ¬ reckErr ts[i] ls=0:=by omega
          have hc:=fun l w hw=>reckonedE ts[i] lv ls hne _ (xl.up l w hw)
          rw [he] at hc
          unfold z17 at hc
          generalize ts[i]=T at *
          (repeat' (first
  | (with_reducible first|refine zJw ?_|refine zHz ?_|refine zEv ?_|refine zEw ?_|refine zFz ?_|refine zJv ?_|refine zHy ?_|refine zBv ?_|refine zDx ?_|refine zCz ?_|refine zCw ?_|refine zEy ?_|refine zCv ?_|refine zCy ?_|refine zBy ?_|refine zDv ?_|refine zEz ?_|refine zAw ?_|refine zBz ?_)
  | refine zDz ?_|refine zEx rfl ?_|refine zJy ?_|refine zJx ?_
  | ((first|refine zGv rfl rfl rfl rfl rfl fun K_ hK_=>?_|refine zGw rfl rfl rfl rfl rfl fun K_ hK_=>?_);simp only [zAz,zDy,zGx,↓reduceIte,reduceCtorEq,Nat.reduceEqDiff,Bool.not_true,Bool.not_false];refine hK_ _ ?_;clear hK_ K_)
  | refine zDw (by decide) ?_
  | ((try first|refine zKy rfl rfl rfl ?_|refine zJz rfl rfl ?_|refine zKx rfl rfl rfl ?_|refine zIv rfl rfl ?_);(refine zIw fun Q_ hQ_=>?_;simp (disch:=first|omega|(simp only [List.length_cons,List.length_nil,List.length_append];omega)) only [bb,bp,zLy,↓reduceIte,reduceCtorEq,Nat.reduceEqDiff,Nat.reduceLT,Nat.reduceLeDiff,Nat.reduceAdd,Nat.reduceMul,Nat.reduceSub,Nat.reduceBEq,Int.reduceToNat,cond_true,cond_false,eq_self,beq_self_eq_true,g0,g1,g2,g13,g47,g48,g49,hix,hld,zFx wf,zGy wf,zBw wf,zFy wf,zAy wf,zAx,tEvD31,zIx,zIy,zIz,zHv,zFv,zAv wf];first|(refine zCx (Q:=Q_) (fun hp_=>?_) (fun hp_=>?_) <;> first|(exfalso;omega)|(refine hQ_ _ _ ?_;clear hQ_ Q_))|(refine zBx (Q:=Q_) (fun hp_=>?_) (fun hp_=>?_) <;> first|(exfalso;omega)|(refine hQ_ _ _ ?_;clear hQ_ Q_))|(refine hQ_ _ _ ?_;clear hQ_ Q_)|(refine zRv (hc _ _ (by first|omega|(simp only [List.length_append,List.length_cons,List.length_nil];omega))) ?_;refine hQ_ _ _ ?_;clear hQ_ Q_)))
  | (refine zHx fun K_ hK_=>?_;simp (disch:=omega) only [zGz,zAz,zHw,↓reduceIte,reduceCtorEq,Nat.reduceEqDiff,Nat.reduceLT];refine hK_ _ ?_;clear hK_ K_)))
          (refine zKz _ _ rfl (ret3 (by decide) (by decide) (by decide)) ?_;simp only [zAz,↓reduceIte,reduceCtorEq,Nat.reduceEqDiff];refine zKw rfl (by omega) ?_)
          exact ⟨rfl,rfl⟩
      · refine ⟨Nat.zero_le _,by simp only [zAz,↓reduceIte,reduceCtorEq,Nat.reduceEqDiff];exact g0,by simp only [zAz,↓reduceIte,reduceCtorEq,Nat.reduceEqDiff];exact g1,by simp only [zAz,↓reduceIte,reduceCtorEq,Nat.reduceEqDiff];exact g2,by simp only [zAz,↓reduceIte,reduceCtorEq,Nat.reduceEqDiff],by simp only [zAz,↓reduceIte,reduceCtorEq,Nat.reduceEqDiff],by simp only [zAz,↓reduceIte,reduceCtorEq,Nat.reduceEqDiff],by first|(simp only [zAz,↓reduceIte,reduceCtorEq,Nat.reduceEqDiff];done)|(simp only [zAz,↓reduceIte,reduceCtorEq,Nat.reduceEqDiff];rfl),rfl,_,[],.nils,?_,?_,?_,Grow.nil h _ [] 2 33,by rw [List.append_nil]⟩
        · simp
        · rw [xIw];rfl
        · rw [xIw];rfl
  · exact ⟨Nat.zero_le _,by simp only [zAz,↓reduceIte,reduceCtorEq,Nat.reduceEqDiff],by simp only [zAz,↓reduceIte,reduceCtorEq,Nat.reduceEqDiff],by simp only [zAz,↓reduceIte,reduceCtorEq,Nat.reduceEqDiff],by simp only [zAz,↓reduceIte,reduceCtorEq,Nat.reduceEqDiff],by simp only [zAz,↓reduceIte,reduceCtorEq,Nat.reduceEqDiff],by first|(simp only [zAz,↓reduceIte,reduceCtorEq,Nat.reduceEqDiff];done)|(simp only [zAz,↓reduceIte,reduceCtorEq,Nat.reduceEqDiff];rfl),rfl,[],rfl⟩
end Go.Proofs.Ythaleckfgcgegaa
end

section
namespace Go.Proofs.Ythaleckfgcgegaa
open Go.Ev
set_option maxRecDepth 100000
set_option linter.unusedSimpArgs false
set_option linter.unusedVariables false
set_option maxHeartbeats 2000000
theorem tEvD29 :type_of% (And.intro (And.intro (And.intro (And.intro (And.intro (And.intro (And.intro (@yWz) (@yVv)) (And.intro (@yVw) (And.intro (@yVx) (@yVy)))) (And.intro (And.intro (@yVz) (And.intro (@yUv) (@yUw))) (And.intro (@zVy) (And.intro (@ia_2) (@sz_2))))) (And.intro (And.intro (And.intro (@ia_3) (@sz_3)) (And.intro (@ia_4) (And.intro (@sz_4) (@yUx)))) (And.intro (And.intro (@yDw) (And.intro (@yUy) (@yDx))) (And.intro (@yUz) (And.intro (@yDy) (@yTv)))))) (And.intro (And.intro (And.intro (And.intro (@zWw) (@yTw)) (And.intro (@yDz) (And.intro (@yTx) (@yCv)))) (And.intro (And.intro (@yTy) (And.intro (@yCw) (@yTz))) (And.intro (@yCx) (And.intro (@ySv) (@yCy))))) (And.intro (And.intro (And.intro (@ySw) (And.intro (@yCz) (@ySx))) (And.intro (@zXz) (And.intro (@ySy) (@yBv)))) (And.intro (And.intro (@ySz) (And.intro (@yBw) (@yRv))) (And.intro (@yBx) (And.intro (@yRw) (@yBy))))))) (And.intro (And.intro (And.intro (And.intro (And.intro (@yRx) (@yBz)) (And.intro (@yRy) (And.intro (@yAv) (@yRz)))) (And.intro (And.intro (@yAw) (And.intro (@yQv) (@yAx))) (And.intro (@yQw) (And.intro (@yAy) (@yQx))))) (And.intro (And.intro (And.intro (@yAz) (@zVz)) (And.intro (@zTw) (And.intro (@zUv) (@zTx)))) (And.intro (And.intro (@zUw) (And.intro (@zTy) (@zUx))) (And.intro (@zTz) (And.intro (@zUy) (@zSv)))))) (And.intro (And.intro (And.intro (And.intro (@zUz) (@zSw)) (And.intro (@zTv) (And.intro (@zSx) (@ze_2)))) (And.intro (And.intro (@ze_3) (And.intro (@ze_4) (@zZv))) (And.intro (@zZw) (And.intro (@zZx) (@zZy))))) (And.intro (And.intro (And.intro (@zZz) (And.intro (@zYv) (@xDx))) (And.intro (@zYw) (And.intro (@zYx) (@zYy)))) (And.intro (And.intro (@zSy) (And.intro (@zRx) (@zRy))) (And.intro (@zRz) (And.intro (@zQv) (@zQw)))))))) (And.intro (And.intro (And.intro (And.intro (And.intro (And.intro (@zQx) (@zQy)) (And.intro (@zQz) (And.intro (@zPv) (@zPw)))) (And.intro (And.intro (@zPx) (And.intro (@zPy) (@zPz))) (And.intro (@zOv) (And.intro (@zOw) (@zOx))))) (And.intro (And.intro (And.intro (@zOy) (@zOz)) (And.intro (@zNv) (And.intro (@zNw) (@zNx)))) (And.intro (And.intro (@zNy) (And.intro (@zNz) (@zMv))) (And.intro (@zMw) (And.intro (@zMx) (@zMy)))))) (And.intro (And.intro (And.intro (And.intro (@zMz) (@yQy)) (And.intro (@yQz) (And.intro (@yPv) (@yPw)))) (And.intro (And.intro (@yPx) (And.intro (@yPy) (@yPz))) (And.intro (@yOv) (And.intro (@yOw) (@yOx))))) (And.intro (And.intro (And.intro (@yOy) (And.intro (@yOz) (@yNv))) (And.intro (@yNw) (And.intro (@yNx) (@yNy)))) (And.intro (And.intro (@yNz) (And.intro (@yMv) (@yMw))) (And.intro (@yMx) (And.intro (@yMy) (@yMz))))))) (And.intro (And.intro (And.intro (And.intro (And.intro (@yLv) (@yLw)) (And.intro (@yLx) (And.intro (@yLy) (@yLz)))) (And.intro (And.intro (@yKv) (And.intro (@yKw) (@yKx))) (And.intro (@yKy) (And.intro (@yKz) (@yJv))))) (And.intro (And.intro (And.intro (@yJw) (@yJx)) (And.intro (@yJy) (And.intro (@yJz) (@yIv)))) (And.intro (And.intro (@yIw) (And.intro (@yIx) (@yIy))) (And.intro (@yIz) (And.intro (@yHv) (@yHw)))))) (And.intro (And.intro (And.intro (And.intro (@yHx) (@yHy)) (And.intro (@yHz) (And.intro (@yGv) (@yGw)))) (And.intro (And.intro (@yGx) (And.intro (@zYz) (@zXv))) (And.intro (@yGy) (And.intro (@yGz) (@yFv))))) (And.intro (And.intro (And.intro (@yFw) (And.intro (@yFx) (@yFy))) (And.intro (@yFz) (And.intro (@yEv) (@yEw)))) (And.intro (And.intro (@yEx) (And.intro (@yEy) (@zXw))) (And.intro (@yEz) (And.intro (@yDv) (@zXx))))))))):=And.intro (And.intro (And.intro (And.intro (And.intro (And.intro (And.intro (@yWz) (@yVv)) (And.intro (@yVw) (And.intro (@yVx) (@yVy)))) (And.intro (And.intro (@yVz) (And.intro (@yUv) (@yUw))) (And.intro (@zVy) (And.intro (@ia_2) (@sz_2))))) (And.intro (And.intro (And.intro (@ia_3) (@sz_3)) (And.intro (@ia_4) (And.intro (@sz_4) (@yUx)))) (And.intro (And.intro (@yDw) (And.intro (@yUy) (@yDx))) (And.intro (@yUz) (And.intro (@yDy) (@yTv)))))) (And.intro (And.intro (And.intro (And.intro (@zWw) (@yTw)) (And.intro (@yDz) (And.intro (@yTx) (@yCv)))) (And.intro (And.intro (@yTy) (And.intro (@yCw) (@yTz))) (And.intro (@yCx) (And.intro (@ySv) (@yCy))))) (And.intro (And.intro (And.intro (@ySw) (And.intro (@yCz) (@ySx))) (And.intro (@zXz) (And.intro (@ySy) (@yBv)))) (And.intro (And.intro (@ySz) (And.intro (@yBw) (@yRv))) (And.intro (@yBx) (And.intro (@yRw) (@yBy))))))) (And.intro (And.intro (And.intro (And.intro (And.intro (@yRx) (@yBz)) (And.intro (@yRy) (And.intro (@yAv) (@yRz)))) (And.intro (And.intro (@yAw) (And.intro (@yQv) (@yAx))) (And.intro (@yQw) (And.intro (@yAy) (@yQx))))) (And.intro (And.intro (And.intro (@yAz) (@zVz)) (And.intro (@zTw) (And.intro (@zUv) (@zTx)))) (And.intro (And.intro (@zUw) (And.intro (@zTy) (@zUx))) (And.intro (@zTz) (And.intro (@zUy) (@zSv)))))) (And.intro (And.intro (And.intro (And.intro (@zUz) (@zSw)) (And.intro (@zTv) (And.intro (@zSx) (@ze_2)))) (And.intro (And.intro (@ze_3) (And.intro (@ze_4) (@zZv))) (And.intro (@zZw) (And.intro (@zZx) (@zZy))))) (And.intro (And.intro (And.intro (@zZz) (And.intro (@zYv) (@xDx))) (And.intro (@zYw) (And.intro (@zYx) (@zYy)))) (And.intro (And.intro (@zSy) (And.intro (@zRx) (@zRy))) (And.intro (@zRz) (And.intro (@zQv) (@zQw)))))))) (And.intro (And.intro (And.intro (And.intro (And.intro (And.intro (@zQx) (@zQy)) (And.intro (@zQz) (And.intro (@zPv) (@zPw)))) (And.intro (And.intro (@zPx) (And.intro (@zPy) (@zPz))) (And.intro (@zOv) (And.intro (@zOw) (@zOx))))) (And.intro (And.intro (And.intro (@zOy) (@zOz)) (And.intro (@zNv) (And.intro (@zNw) (@zNx)))) (And.intro (And.intro (@zNy) (And.intro (@zNz) (@zMv))) (And.intro (@zMw) (And.intro (@zMx) (@zMy)))))) (And.intro (And.intro (And.intro (And.intro (@zMz) (@yQy)) (And.intro (@yQz) (And.intro (@yPv) (@yPw)))) (And.intro (And.intro (@yPx) (And.intro (@yPy) (@yPz))) (And.intro (@yOv) (And.intro (@yOw) (@yOx))))) (And.intro (And.intro (And.intro (@yOy) (And.intro (@yOz) (@yNv))) (And.intro (@yNw) (And.intro (@yNx) (@yNy)))) (And.intro (And.intro (@yNz) (And.intro (@yMv) (@yMw))) (And.intro (@yMx) (And.intro (@yMy) (@yMz))))))) (And.intro (And.intro (And.intro (And.intro (And.intro (@yLv) (@yLw)) (And.intro (@yLx) (And.intro (@yLy) (@yLz)))) (And.intro (And.intro (@yKv) (And.intro (@yKw) (@yKx))) (And.intro (@yKy) (And.intro (@yKz) (@yJv))))) (And.intro (And.intro (And.intro (@yJw) (@yJx)) (And.intro (@yJy) (And.intro (@yJz) (@yIv)))) (And.intro (And.intro (@yIw) (And.intro (@yIx) (@yIy))) (And.intro (@yIz) (And.intro (@yHv) (@yHw)))))) (And.intro (And.intro (And.intro (And.intro (@yHx) (@yHy)) (And.intro (@yHz) (And.intro (@yGv) (@yGw)))) (And.intro (And.intro (@yGx) (And.intro (@zYz) (@zXv))) (And.intro (@yGy) (And.intro (@yGz) (@yFv))))) (And.intro (And.intro (And.intro (@yFw) (And.intro (@yFx) (@yFy))) (And.intro (@yFz) (And.intro (@yEv) (@yEw)))) (And.intro (And.intro (@yEx) (And.intro (@yEy) (@zXw))) (And.intro (@yEz) (And.intro (@yDv) (@zXx))))))))
def chkI (o:Option AV) (n:Int):Bool:=match o with
  | some (.int .i64 m)=>decide (m=n)
  | _=>false
theorem chkI_eq {o:Option AV} {n:Int} (h:chkI o n=true):o=some (ii n):=by
  unfold chkI at h
  split at h
  · rw [of_decide_eq_true h]
  · cases h
theorem shr_run :(List.range 32).all (fun b=>(List.range 5).all fun k=>chkI (binE Try.prog .shr 3 (.tmp 7) (.tmp 8) (ii (b:Int)) (ii (k:Int))) ((b / 2 ^ k:Nat):Int))=true:=by kernel_rfl
theorem shr_at {b k:Nat} (hb:b<32) (hk:k<5):binE Try.prog .shr 3 (.tmp 7) (.tmp 8) (ii (b:Int)) (ii (k:Int))=some (ii ((b / 2 ^ k:Nat):Int)):=by
  have h:=shr_run
  rw [List.all_eq_true] at h
  have h2:=h b (List.mem_range.2 hb)
  rw [List.all_eq_true] at h2
  exact chkI_eq (h2 k (List.mem_range.2 hk))
def bitE (lo hi:Int) (b k:Nat):Int:=if (b / 2 ^ k) % 2=1 then hi else lo
theorem endB (lo hi:Int) (b k:Nat) (hb:b<32) (hk:k<5) (h:H) (wf:Wf h):(om Try.prog KK).call (.fn 74 [.agg [ii lo,ii hi],ii (b:Int),ii (k:Int)]) h = .ok (ii (bitE lo hi b k)) h:=by
  have hs:=shr_at hb hk
  unfold bitE
  generalize b / 2 ^ k=q at *
  have hm:(q:Int).tmod 2=((q % 2:Nat):Int):=by
    rw [Int.tmod_eq_emod_of_nonneg (by omega)];omega
  refine zWy (zLx (fn:=Try.f74) Try.func74 rfl rfl rfl rfl rfl ?_)
  simp only [zLy]
  (repeat' (first
  | (with_reducible first|refine zJw ?_|refine zHz ?_|refine zEv ?_|refine zEw ?_|refine zFz ?_|refine zJv ?_|refine zHy ?_|refine zBv ?_|refine zDx ?_|refine zCz ?_|refine zCw ?_|refine zEy ?_|refine zCv ?_|refine zCy ?_|refine zBy ?_|refine zDv ?_|refine zEz ?_|refine zAw ?_|refine zBz ?_)
  | refine zDz ?_|refine zEx rfl ?_|refine zJy ?_|refine zJx ?_
  | ((first|refine zGv rfl rfl rfl rfl rfl fun K_ hK_=>?_|refine zGw rfl rfl rfl rfl rfl fun K_ hK_=>?_);simp only [zAz,zDy,zGx,↓reduceIte,reduceCtorEq,Nat.reduceEqDiff,Bool.not_true,Bool.not_false];refine hK_ _ ?_;clear hK_ K_)
  | refine zDw (by decide) ?_
  | ((try first|refine zKy rfl rfl rfl ?_|refine zJz rfl rfl ?_|refine zKx rfl rfl rfl ?_|refine zIv rfl rfl ?_);(refine zIw fun Q_ hQ_=>?_;simp (disch:=first|omega|(simp only [List.length_cons,List.length_nil,List.length_append];omega)) only [bb,bp,zLy,↓reduceIte,reduceCtorEq,Nat.reduceEqDiff,Nat.reduceLT,Nat.reduceLeDiff,Nat.reduceAdd,Nat.reduceMul,Nat.reduceSub,Nat.reduceBEq,Int.reduceToNat,cond_true,cond_false,eq_self,beq_self_eq_true,hs,b_rem (show (2:Int)≠0 by decide),hm,zFx wf,zGy wf,zBw wf,zFy wf,zAy wf,zAx,tEvD29,zIx,zIy,zIz,zHv,zFv,zAv wf];first|(refine zCx (Q:=Q_) (fun hp_=>?_) (fun hp_=>?_) <;> first|(exfalso;omega)|(refine hQ_ _ _ ?_;clear hQ_ Q_))|(refine zBx (Q:=Q_) (fun hp_=>?_) (fun hp_=>?_) <;> first|(exfalso;omega)|(refine hQ_ _ _ ?_;clear hQ_ Q_))|(refine hQ_ _ _ ?_;clear hQ_ Q_)))
  | (refine zHx fun K_ hK_=>?_;simp (disch:=omega) only [zGz,zAz,zHw,↓reduceIte,reduceCtorEq,Nat.reduceEqDiff,Nat.reduceLT];refine hK_ _ ?_;clear hK_ K_)))
  · (refine zKz _ _ rfl (ret1 (by decide)) ?_;simp only [zAz,↓reduceIte,reduceCtorEq,Nat.reduceEqDiff];refine zKw rfl (by omega) ?_)
    exact ⟨by rw [if_pos (by omega)],rfl⟩
  · (refine zKz _ _ rfl (ret1 (by decide)) ?_;simp only [zAz,↓reduceIte,reduceCtorEq,Nat.reduceEqDiff];refine zKw rfl (by omega) ?_)
    exact ⟨by rw [if_neg (by omega)],rfl⟩
def btT (T:Te) (o:Int) (b:Nat):Tr:=⟨bitE T.f0 T.f1 b 0,bitE T.t0 T.t1 b 1,bitE T.s0 T.s1 b 2,o,bitE T.b0 T.b1 b 3,bitE T.r0 T.r1 b 4⟩
theorem bitE_in {lo hi:Int} (h:lo≤hi) (b k:Nat):lo≤bitE lo hi b k∧bitE lo hi b k≤hi:=by unfold bitE;split <;> omega
theorem btT_is {T:Te} (k:okT T) {o:Int} (ho:T.o0≤o∧o≤T.o1) (b:Nat):isT T (btT T o b):=
  ⟨bitE_in k.f.2.1 b 0,bitE_in k.t.2.1 b 1,bitE_in k.s.2.1 b 2,ho,bitE_in k.b.2.1 b 3,bitE_in k.r.2.1 b 4⟩
theorem btT_hi (T:Te) (o:Int):btT T o 21=cand T true o:=rfl
theorem btT_lo (T:Te) (o:Int):btT T o 10=cand T false o:=rfl
theorem coef_in {T:Te} (k:okT T) {re cf:List Int} (kl:okL re cf) (hin:inAll T re) {x:Tr} (kx:isT T x) : -1000000000000≤coef T re cf x∧coef T re cf x≤1000000000000:=by
  have kf:=k.f
  have ko:=k.o
  have kb:=k.b
  have kr:=k.r
  have xf:=kx.f
  have xo:=kx.o
  have xb:=kx.b
  have xr:=kx.r
  obtain ⟨h1,h2⟩:=xQx k hin kx
  have hm:=meas_in k (f:=x.f) (by omega)
  have hm2:=yZv hm (b:=1000 - x.b) (y:=1000) ⟨by omega,by omega⟩
  have hd2:=Int.ediv_nonneg hm2.1 (show (0:Int)≤1000 by decide)
  have hd3:meas T x.f * (1000 - x.b) / 1000≤meas T x.f * (1000 - x.b):=Int.ediv_le_self _ hm2.1
  have g1:=yZv (a:=1000+x.o) (x:=2000) ⟨by omega,by omega⟩ (fr_in kl h1)
  have g2:=yZv (a:=1000+x.o) (x:=2000) ⟨by omega,by omega⟩ (fr_in kl h2)
  have g3:=Int.ediv_nonneg g1.1 (show (0:Int)≤1000 by decide)
  have g4:(1000+x.o) * fr re cf (mo T x.t) / 1000≤_:=Int.ediv_le_self _ g1.1
  have g5:=Int.ediv_nonneg g2.1 (show (0:Int)≤1000 by decide)
  have g6:(1000+x.o) * fr re cf (sh T x.s) / 1000≤_:=Int.ediv_le_self _ g2.1
  unfold coef formed
  omega
def Seen (T:Te) (ls:List Ln) (mn mx:Int) (i:Nat) (o:Int) (hi lo:Bool):Prop:=
  (∀ j (hj:j<ls.length),(j<i → ∀ o',T.o0≤o'∧o'≤T.o1→mn≤coef T ls[j].re ls[j].cf (cand T false o')∧coef T ls[j].re ls[j].cf (cand T true o')≤mx) ∧
    (j=i→(∀ o',T.o0≤o'∧o'<o→mn≤coef T ls[j].re ls[j].cf (cand T false o')∧coef T ls[j].re ls[j].cf (cand T true o')≤mx)∧(hi=true→coef T ls[j].re ls[j].cf (cand T true o)≤mx)∧(lo=true→mn≤coef T ls[j].re ls[j].cf (cand T false o))))
theorem Seen.bit {T:Te} {ls:List Ln} {mn mx:Int} {i:Nat} {o:Int} {b:Nat} (s:Seen T ls mn mx i o (decide (21<b)) (decide (10<b))) (hi:i<ls.length) (C:Int) (h21:b=21→coef T ls[i].re ls[i].cf (cand T true o)=C) (h10:b=10→coef T ls[i].re ls[i].cf (cand T false o)=C) :
    Seen T ls (min mn C) (max mx C) i o (decide (21<b+1)) (decide (10<b+1)):=fun j hj=>by
  obtain ⟨s1,s2⟩:=s j hj
  refine ⟨fun hji o' ho=>?_,fun e=>?_⟩
  · have:=s1 hji o' ho;omega
  · subst e
    obtain ⟨s3,s4,s5⟩:=s2 rfl
    refine ⟨fun o' ho=>?_,fun e=>?_,fun e=>?_⟩
    · have:=s3 o' ho;omega
    · have e':=of_decide_eq_true e
      by_cases hb:b=21
      · have:=h21 hb;omega
      · have:=s4 (decide_eq_true (by omega));omega
    · have e':=of_decide_eq_true e
      by_cases hb:b=10
      · have:=h10 hb;omega
      · have:=s5 (decide_eq_true (by omega));omega
theorem Seen.form {T:Te} {ls:List Ln} {mn mx:Int} {i:Nat} {o:Int} (s:Seen T ls mn mx i o true true):Seen T ls mn mx i (o+1) false false:=fun j hj=>by
  obtain ⟨s1,s2⟩:=s j hj
  refine ⟨s1,fun e=>?_⟩
  obtain ⟨s3,s4,s5⟩:=s2 e
  refine ⟨fun o' ho=>?_,fun q=>(by cases q),fun q=>(by cases q)⟩
  by_cases h:o'=o
  · rw [h];exact ⟨s5 rfl,s4 rfl⟩
  · exact s3 o' (by omega)
theorem Seen.line {T:Te} {ls:List Ln} {mn mx:Int} {i:Nat} {o:Int} (ho:T.o1<o) (s:Seen T ls mn mx i o false false):Seen T ls mn mx (i+1) T.o0 false false:=fun j hj=>by
  obtain ⟨s1,s2⟩:=s j hj
  refine ⟨fun hji o' ho'=>?_,fun e=>⟨fun o' ho'=>by omega,fun q=>(by cases q),fun q=>(by cases q)⟩⟩
  by_cases h:j=i
  · exact (s2 h).1 o' (by omega)
  · exact s1 (by omega) o' ho'
theorem Seen.init (T:Te) (ls:List Ln) (mn mx:Int):Seen T ls mn mx 0 T.o0 false false:=fun j hj=>
  ⟨fun h=>absurd h (Nat.not_lt_zero j),fun _=>⟨fun o' ho=>by omega,fun q=>(by cases q),fun q=>(by cases q)⟩⟩
theorem Seen.done {T:Te} {ls:List Ln} {mn mx:Int} (k:okT T) (hk:okLs ls) (s:Seen T ls mn mx ls.length T.o0 false false):mn≤spanV T ls false∧spanV T ls true≤mx:=by
  constructor
  · obtain ⟨i,hi,o,ho,e⟩:=wBw k hk false
    rw [e];exact ((s i hi).1 hi o ho).1
  · obtain ⟨i,hi,o,ho,e⟩:=wBw k hk true
    rw [e];exact ((s i hi).1 hi o ho).2
theorem spanned (T:Te) (k:okT T) (s:AV) (ls:List Ln) (hk:okLs ls) (hr:rk T ls) (h:H) (x:LinesR h s ls):(om Try.prog KK).call (.fn 58 [.agg [ii T.sp,ii T.lo,ii T.we,ii T.al,ii T.f0,ii T.f1,ii T.t0,ii T.t1,ii T.s0,ii T.s1,ii T.o0,ii T.o1,ii T.b0,ii T.b1,ii T.r0,ii T.r1],s]) h = .ok (.agg [ii (spanV T ls false),ii (spanV T ls true)]) h:=by
  have wf:=x.wf
  have ko:=k.o
  have hn4:=hk.n
  have hl : ∀ h',lenE Try.prog 43 s h'=some (ii (ls.length:Int)):=fun h'=>x.sl.len un_43
  have hb0 : -1000000000000≤spanV T ls false∧spanV T ls false≤1000000000000:=by
    obtain ⟨i,hi,o,ho,e⟩:=wBw k hk false
    rw [e];exact coef_in k (hk.ok _ (List.getElem_mem hi)) (hr _ (List.getElem_mem hi)) (xRx k false ho)
  have hb1 : -1000000000000≤spanV T ls true∧spanV T ls true≤1000000000000:=by
    obtain ⟨i,hi,o,ho,e⟩:=wBw k hk true
    rw [e];exact coef_in k (hk.ok _ (List.getElem_mem hi)) (hr _ (List.getElem_mem hi)) (xRx k true ho)
  refine zWy (zLx (fn:=Try.f58) Try.func58 rfl rfl rfl rfl rfl ?_)
  simp only [zLy]
  (repeat' (first
  | (with_reducible first|refine zJw ?_|refine zHz ?_|refine zEv ?_|refine zEw ?_|refine zFz ?_|refine zJv ?_|refine zHy ?_|refine zBv ?_|refine zDx ?_|refine zCz ?_|refine zCw ?_|refine zEy ?_|refine zCv ?_|refine zCy ?_|refine zBy ?_|refine zDv ?_|refine zEz ?_|refine zAw ?_|refine zBz ?_)
  | refine zDz ?_|refine zEx rfl ?_|refine zJy ?_|refine zJx ?_
  | ((first|refine zGv rfl rfl rfl rfl rfl fun K_ hK_=>?_|refine zGw rfl rfl rfl rfl rfl fun K_ hK_=>?_);simp only [zAz,zDy,zGx,↓reduceIte,reduceCtorEq,Nat.reduceEqDiff,Bool.not_true,Bool.not_false];refine hK_ _ ?_;clear hK_ K_)
  | refine zDw (by decide) ?_
  | ((try first|refine zKy rfl rfl rfl ?_|refine zJz rfl rfl ?_|refine zKx rfl rfl rfl ?_|refine zIv rfl rfl ?_);(refine zIw fun Q_ hQ_=>?_;simp (disch:=first|omega|(simp only [List.length_cons,List.length_nil,List.length_append];omega)) only [bb,bp,zLy,↓reduceIte,reduceCtorEq,Nat.reduceEqDiff,Nat.reduceLT,Nat.reduceLeDiff,Nat.reduceAdd,Nat.reduceMul,Nat.reduceSub,Nat.reduceBEq,Int.reduceToNat,cond_true,cond_false,eq_self,beq_self_eq_true,zFx wf,zGy wf,zBw wf,zFy wf,zAy wf,zAx,tEvD29,zIx,zIy,zIz,zHv,zFv,zAv wf];first|(refine zCx (Q:=Q_) (fun hp_=>?_) (fun hp_=>?_) <;> first|(exfalso;omega)|(refine hQ_ _ _ ?_;clear hQ_ Q_))|(refine zBx (Q:=Q_) (fun hp_=>?_) (fun hp_=>?_) <;> first|(exfalso;omega)|(refine hQ_ _ _ ?_;clear hQ_ Q_))|(refine hQ_ _ _ ?_;clear hQ_ Q_)))
  | (refine zHx fun K_ hK_=>?_;simp (disch:=omega) only [zGz,zAz,zHw,↓reduceIte,reduceCtorEq,Nat.reduceEqDiff,Nat.reduceLT];refine hK_ _ ?_;clear hK_ K_)))
  refine zVw (fun (i:Nat) f d h'=>i≤ls.length∧f 1=s∧f 2 = .ptr (nx h 0) 0∧f 4 = .ptr (nx h 1) 0∧f 5 = .ptr (nx h 2) 0∧f 6=ii (i:Int)∧d=[] ∧
    ∃ mn mx G,h'=X h (.cells (zFw [ii T.sp,ii T.lo,ii T.we,ii T.al,ii T.f0,ii T.f1,ii T.t0,ii T.t1,ii T.s0,ii T.s1,ii T.o0,ii T.o1,ii T.b0,ii T.b1,ii T.r0,ii T.r1]) 35 :: .cells (zFw [ii 0,ii 0]) 33 :: .cells (zFw [ii mn,ii mx]) 33 :: G) h.clock∧spanV T ls false≤mn∧mx≤spanV T ls true∧Seen T ls mn mx i T.o0 false false) (fun i=>ls.length - i) ?_ (ls.length+1) 0 (by omega) ?_
  · rintro i f d h' ⟨hi,g1,g2,g4,g5,g6,rfl,mn,mx,G,rfl,hmn,hmx,hseen⟩
    by_cases hlt:i<ls.length
    · obtain ⟨id,off,hix,hld,hln⟩:=x.at ik_43 hlt
      obtain ⟨⟨fa,fa'⟩,⟨fb,fb'⟩⟩:=hln.flats
      have kl:=hk.ok _ (List.getElem_mem hlt)
      have hin:=hr _ (List.getElem_mem hlt)
      (repeat' (first
  | (with_reducible first|refine zJw ?_|refine zHz ?_|refine zEv ?_|refine zEw ?_|refine zFz ?_|refine zJv ?_|refine zHy ?_|refine zBv ?_|refine zDx ?_|refine zCz ?_|refine zCw ?_|refine zEy ?_|refine zCv ?_|refine zCy ?_|refine zBy ?_|refine zDv ?_|refine zEz ?_|refine zAw ?_|refine zBz ?_)
  | refine zDz ?_|refine zEx rfl ?_|refine zJy ?_|refine zJx ?_
  | ((first|refine zGv rfl rfl rfl rfl rfl fun K_ hK_=>?_|refine zGw rfl rfl rfl rfl rfl fun K_ hK_=>?_);simp only [zAz,zDy,zGx,↓reduceIte,reduceCtorEq,Nat.reduceEqDiff,Bool.not_true,Bool.not_false];refine hK_ _ ?_;clear hK_ K_)
  | refine zDw (by decide) ?_
  | ((try first|refine zKy rfl rfl rfl ?_|refine zJz rfl rfl ?_|refine zKx rfl rfl rfl ?_|refine zIv rfl rfl ?_);(refine zIw fun Q_ hQ_=>?_;simp (disch:=first|omega|(simp only [List.length_cons,List.length_nil,List.length_append];omega)) only [bb,bp,zLy,↓reduceIte,reduceCtorEq,Nat.reduceEqDiff,Nat.reduceLT,Nat.reduceLeDiff,Nat.reduceAdd,Nat.reduceMul,Nat.reduceSub,Nat.reduceBEq,Int.reduceToNat,cond_true,cond_false,eq_self,beq_self_eq_true,g1,g2,g4,g5,g6,hl,zFx wf,zGy wf,zBw wf,zFy wf,zAy wf,zAx,tEvD29,zIx,zIy,zIz,zHv,zFv,zAv wf];first|(refine zCx (Q:=Q_) (fun hp_=>?_) (fun hp_=>?_) <;> first|(exfalso;omega)|(refine hQ_ _ _ ?_;clear hQ_ Q_))|(refine zBx (Q:=Q_) (fun hp_=>?_) (fun hp_=>?_) <;> first|(exfalso;omega)|(refine hQ_ _ _ ?_;clear hQ_ Q_))|(refine hQ_ _ _ ?_;clear hQ_ Q_)))
  | (refine zHx fun K_ hK_=>?_;simp (disch:=omega) only [zGz,zAz,zHw,↓reduceIte,reduceCtorEq,Nat.reduceEqDiff,Nat.reduceLT];refine hK_ _ ?_;clear hK_ K_)))
      refine zVw (fun (n:Nat) f d h'=>T.o0+(n:Int)≤T.o1+1∧f 1=s∧f 2 = .ptr (nx h 0) 0∧f 4 = .ptr (nx h 1) 0∧f 5 = .ptr (nx h 2) 0∧f 6=ii (i:Int)∧f 7=ii (T.o0+(n:Int))∧d=[] ∧
        ∃ mn mx G,h'=X h (.cells (zFw [ii T.sp,ii T.lo,ii T.we,ii T.al,ii T.f0,ii T.f1,ii T.t0,ii T.t1,ii T.s0,ii T.s1,ii T.o0,ii T.o1,ii T.b0,ii T.b1,ii T.r0,ii T.r1]) 35 :: .cells (zFw [ii 0,ii 0]) 33 :: .cells (zFw [ii mn,ii mx]) 33 :: G) h.clock∧spanV T ls false≤mn∧mx≤spanV T ls true∧Seen T ls mn mx i (T.o0+(n:Int)) false false) (fun n=>(T.o1+1 - T.o0).toNat - n) ?_ ((T.o1+1 - T.o0).toNat+1) 0 (by omega) ?_
      · clear g1 g2 g4 g5 g6 hseen hmn hmx
        rintro n f d h' ⟨hn,g1,g2,g4,g5,g6,g7,rfl,mn,mx,G,rfl,hmn,hmx,hseen⟩
        by_cases hnl:T.o0+(n:Int)≤T.o1
        · (repeat' (first
  | (with_reducible first|refine zJw ?_|refine zHz ?_|refine zEv ?_|refine zEw ?_|refine zFz ?_|refine zJv ?_|refine zHy ?_|refine zBv ?_|refine zDx ?_|refine zCz ?_|refine zCw ?_|refine zEy ?_|refine zCv ?_|refine zCy ?_|refine zBy ?_|refine zDv ?_|refine zEz ?_|refine zAw ?_|refine zBz ?_)
  | refine zDz ?_|refine zEx rfl ?_|refine zJy ?_|refine zJx ?_
  | ((first|refine zGv rfl rfl rfl rfl rfl fun K_ hK_=>?_|refine zGw rfl rfl rfl rfl rfl fun K_ hK_=>?_);simp only [zAz,zDy,zGx,↓reduceIte,reduceCtorEq,Nat.reduceEqDiff,Bool.not_true,Bool.not_false];refine hK_ _ ?_;clear hK_ K_)
  | refine zDw (by decide) ?_
  | ((try first|refine zKy rfl rfl rfl ?_|refine zJz rfl rfl ?_|refine zKx rfl rfl rfl ?_|refine zIv rfl rfl ?_);(refine zIw fun Q_ hQ_=>?_;simp (disch:=first|omega|(simp only [List.length_cons,List.length_nil,List.length_append];omega)) only [bb,bp,zLy,↓reduceIte,reduceCtorEq,Nat.reduceEqDiff,Nat.reduceLT,Nat.reduceLeDiff,Nat.reduceAdd,Nat.reduceMul,Nat.reduceSub,Nat.reduceBEq,Int.reduceToNat,cond_true,cond_false,eq_self,beq_self_eq_true,g1,g2,g4,g5,g6,g7,zFx wf,zGy wf,zBw wf,zFy wf,zAy wf,zAx,tEvD29,zIx,zIy,zIz,zHv,zFv,zAv wf];first|(refine zCx (Q:=Q_) (fun hp_=>?_) (fun hp_=>?_) <;> first|(exfalso;omega)|(refine hQ_ _ _ ?_;clear hQ_ Q_))|(refine zBx (Q:=Q_) (fun hp_=>?_) (fun hp_=>?_) <;> first|(exfalso;omega)|(refine hQ_ _ _ ?_;clear hQ_ Q_))|(refine hQ_ _ _ ?_;clear hQ_ Q_)))
  | (refine zHx fun K_ hK_=>?_;simp (disch:=omega) only [zGz,zAz,zHw,↓reduceIte,reduceCtorEq,Nat.reduceEqDiff,Nat.reduceLT];refine hK_ _ ?_;clear hK_ K_)))
          refine zVw (fun (b:Nat) f d h'=>b≤32∧f 1=s∧f 2 = .ptr (nx h 0) 0∧f 4 = .ptr (nx h 1) 0∧f 5 = .ptr (nx h 2) 0∧f 6=ii (i:Int)∧f 7=ii (T.o0+(n:Int))∧f 8=ii (b:Int)∧d=[] ∧
            ∃ mn mx G,h'=X h (.cells (zFw [ii T.sp,ii T.lo,ii T.we,ii T.al,ii T.f0,ii T.f1,ii T.t0,ii T.t1,ii T.s0,ii T.s1,ii T.o0,ii T.o1,ii T.b0,ii T.b1,ii T.r0,ii T.r1]) 35 :: .cells (zFw [ii 0,ii 0]) 33 :: .cells (zFw [ii mn,ii mx]) 33 :: G) h.clock∧spanV T ls false≤mn∧mx≤spanV T ls true∧Seen T ls mn mx i (T.o0+(n:Int)) (decide (21<b)) (decide (10<b))) (fun b=>32 - b) ?_ 33 0 (by omega) ?_
          · clear g1 g2 g4 g5 g6 g7 hseen hmn hmx
            rintro b f d h' ⟨hb,g1,g2,g4,g5,g6,g7,g8,rfl,mn,mx,G,rfl,hmn,hmx,hseen⟩
            by_cases hbl:b<32
            · have kx:=btT_is k (o:=T.o0+(n:Int)) ⟨by omega,hnl⟩ b
              have hbox:=span_box k hk hr (List.getElem_mem hlt) kx
              have hxi:=xQx k hin kx
              have rs:=fun l w hw=>(refship T k ls[i].a ls[i].b ls[i].re ls[i].cf kl (btT T (T.o0+(n:Int)) b) kx _ (hln.up l w hw)).trans (by rw [if_pos hxi,decide_eq_true hxi])
              have e0 : ∀ (lo hi:Int) (l:List AO) (w:Nat),w≤h.clock+l.length→(om Try.prog KK).call (.fn 74 [.agg [ii lo,ii hi],ii (b:Int),ii 0]) (X h l w) = .ok (ii (bitE lo hi b 0)) (X h l w):=fun lo hi l w hw=>endB lo hi b 0 hbl (by decide) _ (wf.X hw)
              have e1 : ∀ (lo hi:Int) (l:List AO) (w:Nat),w≤h.clock+l.length→(om Try.prog KK).call (.fn 74 [.agg [ii lo,ii hi],ii (b:Int),ii 1]) (X h l w) = .ok (ii (bitE lo hi b 1)) (X h l w):=fun lo hi l w hw=>endB lo hi b 1 hbl (by decide) _ (wf.X hw)
              have e2 : ∀ (lo hi:Int) (l:List AO) (w:Nat),w≤h.clock+l.length→(om Try.prog KK).call (.fn 74 [.agg [ii lo,ii hi],ii (b:Int),ii 2]) (X h l w) = .ok (ii (bitE lo hi b 2)) (X h l w):=fun lo hi l w hw=>endB lo hi b 2 hbl (by decide) _ (wf.X hw)
              have e3 : ∀ (lo hi:Int) (l:List AO) (w:Nat),w≤h.clock+l.length→(om Try.prog KK).call (.fn 74 [.agg [ii lo,ii hi],ii (b:Int),ii 3]) (X h l w) = .ok (ii (bitE lo hi b 3)) (X h l w):=fun lo hi l w hw=>endB lo hi b 3 hbl (by decide) _ (wf.X hw)
              have e4 : ∀ (lo hi:Int) (l:List AO) (w:Nat),w≤h.clock+l.length→(om Try.prog KK).call (.fn 74 [.agg [ii lo,ii hi],ii (b:Int),ii 4]) (X h l w) = .ok (ii (bitE lo hi b 4)) (X h l w):=fun lo hi l w hw=>endB lo hi b 4 hbl (by decide) _ (wf.X hw)
              have h21:b=21→coef T ls[i].re ls[i].cf (cand T true (T.o0+(n:Int)))=coef T ls[i].re ls[i].cf (btT T (T.o0+(n:Int)) b):=fun e=>by rw [e,btT_hi]
              have h10:b=10→coef T ls[i].re ls[i].cf (cand T false (T.o0+(n:Int)))=coef T ls[i].re ls[i].cf (btT T (T.o0+(n:Int)) b):=fun e=>by rw [e,btT_lo]
              clear kx hxi
              unfold btT at *
              simp only at rs
              generalize coef T ls[i].re ls[i].cf ⟨bitE T.f0 T.f1 b 0,bitE T.t0 T.t1 b 1,bitE T.s0 T.s1 b 2,T.o0+(n:Int),bitE T.b0 T.b1 b 3,bitE T.r0 T.r1 b 4⟩=C at *
              (repeat' (first
  | (with_reducible first|refine zJw ?_|refine zHz ?_|refine zEv ?_|refine zEw ?_|refine zFz ?_|refine zJv ?_|refine zHy ?_|refine zBv ?_|refine zDx ?_|refine zCz ?_|refine zCw ?_|refine zEy ?_|refine zCv ?_|refine zCy ?_|refine zBy ?_|refine zDv ?_|refine zEz ?_|refine zAw ?_|refine zBz ?_)
  | refine zDz ?_|refine zEx rfl ?_|refine zJy ?_|refine zJx ?_
  | ((first|refine zGv rfl rfl rfl rfl rfl fun K_ hK_=>?_|refine zGw rfl rfl rfl rfl rfl fun K_ hK_=>?_);simp only [zAz,zDy,zGx,↓reduceIte,reduceCtorEq,Nat.reduceEqDiff,Bool.not_true,Bool.not_false];refine hK_ _ ?_;clear hK_ K_)
  | refine zDw (by decide) ?_
  | ((try first|refine zKy rfl rfl rfl ?_|refine zJz rfl rfl ?_|refine zKx rfl rfl rfl ?_|refine zIv rfl rfl ?_);(refine zIw fun Q_ hQ_=>?_;simp (disch:=first|omega|(simp only [List.length_cons,List.length_nil,List.length_append];omega)) only [bb,bp,zLy,↓reduceIte,reduceCtorEq,Nat.reduceEqDiff,Nat.reduceLT,Nat.reduceLeDiff,Nat.reduceAdd,Nat.reduceMul,Nat.reduceSub,Nat.reduceBEq,Int.reduceToNat,cond_true,cond_false,eq_self,beq_self_eq_true,g1,g2,g4,g5,g6,g7,g8,zFx wf,zGy wf,zBw wf,zFy wf,zAy wf,zAx,tEvD29,zIx,zIy,zIz,zHv,zFv,zAv wf];first|(refine zCx (Q:=Q_) (fun hp_=>?_) (fun hp_=>?_) <;> first|(exfalso;omega)|(refine hQ_ _ _ ?_;clear hQ_ Q_))|(refine zBx (Q:=Q_) (fun hp_=>?_) (fun hp_=>?_) <;> first|(exfalso;omega)|(refine hQ_ _ _ ?_;clear hQ_ Q_))|(refine hQ_ _ _ ?_;clear hQ_ Q_)))
  | (refine zHx fun K_ hK_=>?_;simp (disch:=omega) only [zGz,zAz,zHw,↓reduceIte,reduceCtorEq,Nat.reduceEqDiff,Nat.reduceLT];refine hK_ _ ?_;clear hK_ K_)))
              refine zLv (List.replicate 23 .no++[.full]) (by kernel_rfl) ?_
              (repeat' (first
  | (with_reducible first|refine zJw ?_|refine zHz ?_|refine zEv ?_|refine zEw ?_|refine zFz ?_|refine zJv ?_|refine zHy ?_|refine zBv ?_|refine zDx ?_|refine zCz ?_|refine zCw ?_|refine zEy ?_|refine zCv ?_|refine zCy ?_|refine zBy ?_|refine zDv ?_|refine zEz ?_|refine zAw ?_|refine zBz ?_)
  | refine zDz ?_|refine zEx rfl ?_|refine zJy ?_|refine zJx ?_
  | ((first|refine zGv rfl rfl rfl rfl rfl fun K_ hK_=>?_|refine zGw rfl rfl rfl rfl rfl fun K_ hK_=>?_);simp only [zAz,zDy,zGx,↓reduceIte,reduceCtorEq,Nat.reduceEqDiff,Bool.not_true,Bool.not_false];refine hK_ _ ?_;clear hK_ K_)
  | refine zDw (by decide) ?_
  | ((try first|refine zKy rfl rfl rfl ?_|refine zJz rfl rfl ?_|refine zKx rfl rfl rfl ?_|refine zIv rfl rfl ?_);(refine zIw fun Q_ hQ_=>?_;simp (disch:=first|omega|(simp only [List.length_cons,List.length_nil,List.length_append];omega)) only [bb,bp,zLy,↓reduceIte,reduceCtorEq,Nat.reduceEqDiff,Nat.reduceLT,Nat.reduceLeDiff,Nat.reduceAdd,Nat.reduceMul,Nat.reduceSub,Nat.reduceBEq,Int.reduceToNat,cond_true,cond_false,eq_self,beq_self_eq_true,g1,g2,g4,g5,g6,g7,g8,e0,e1,e2,e3,e4,zFx wf,zGy wf,zBw wf,zFy wf,zAy wf,zAx,tEvD29,zIx,zIy,zIz,zHv,zFv,zAv wf];first|(refine zCx (Q:=Q_) (fun hp_=>?_) (fun hp_=>?_) <;> first|(exfalso;omega)|(refine hQ_ _ _ ?_;clear hQ_ Q_))|(refine zBx (Q:=Q_) (fun hp_=>?_) (fun hp_=>?_) <;> first|(exfalso;omega)|(refine hQ_ _ _ ?_;clear hQ_ Q_))|(refine hQ_ _ _ ?_;clear hQ_ Q_)))
  | (refine zHx fun K_ hK_=>?_;simp (disch:=omega) only [zGz,zAz,zHw,↓reduceIte,reduceCtorEq,Nat.reduceEqDiff,Nat.reduceLT];refine hK_ _ ?_;clear hK_ K_)))
              refine zLv [.no,.no,.no,.no,.no,.no,.full,.full,.full,.full,.full,.full] (by kernel_rfl) ?_
              (repeat' (first
  | (with_reducible first|refine zJw ?_|refine zHz ?_|refine zEv ?_|refine zEw ?_|refine zFz ?_|refine zJv ?_|refine zHy ?_|refine zBv ?_|refine zDx ?_|refine zCz ?_|refine zCw ?_|refine zEy ?_|refine zCv ?_|refine zCy ?_|refine zBy ?_|refine zDv ?_|refine zEz ?_|refine zAw ?_|refine zBz ?_)
  | refine zDz ?_|refine zEx rfl ?_|refine zJy ?_|refine zJx ?_
  | ((first|refine zGv rfl rfl rfl rfl rfl fun K_ hK_=>?_|refine zGw rfl rfl rfl rfl rfl fun K_ hK_=>?_);simp only [zAz,zDy,zGx,↓reduceIte,reduceCtorEq,Nat.reduceEqDiff,Bool.not_true,Bool.not_false];refine hK_ _ ?_;clear hK_ K_)
  | refine zDw (by decide) ?_
  | ((try first|refine zKy rfl rfl rfl ?_|refine zJz rfl rfl ?_|refine zKx rfl rfl rfl ?_|refine zIv rfl rfl ?_);(refine zIw fun Q_ hQ_=>?_;simp (disch:=first|omega|(simp only [List.length_cons,List.length_nil,List.length_append];omega)) only [bb,bp,zLy,↓reduceIte,reduceCtorEq,Nat.reduceEqDiff,Nat.reduceLT,Nat.reduceLeDiff,Nat.reduceAdd,Nat.reduceMul,Nat.reduceSub,Nat.reduceBEq,Int.reduceToNat,cond_true,cond_false,eq_self,beq_self_eq_true,g1,g2,g4,g5,g6,g7,g8,rs,hix,hld,fa,fb,fa',fb',zFx wf,zGy wf,zBw wf,zFy wf,zAy wf,zAx,tEvD29,zIx,zIy,zIz,zHv,zFv,zAv wf];first|(refine zCx (Q:=Q_) (fun hp_=>?_) (fun hp_=>?_) <;> first|(exfalso;omega)|(refine hQ_ _ _ ?_;clear hQ_ Q_))|(refine zBx (Q:=Q_) (fun hp_=>?_) (fun hp_=>?_) <;> first|(exfalso;omega)|(refine hQ_ _ _ ?_;clear hQ_ Q_))|(refine hQ_ _ _ ?_;clear hQ_ Q_)))
  | (refine zHx fun K_ hK_=>?_;simp (disch:=omega) only [zGz,zAz,zHw,↓reduceIte,reduceCtorEq,Nat.reduceEqDiff,Nat.reduceLT];refine hK_ _ ?_;clear hK_ K_)))
              (repeat' (first
  | (with_reducible first|refine zJw ?_|refine zHz ?_|refine zEv ?_|refine zEw ?_|refine zFz ?_|refine zJv ?_|refine zHy ?_|refine zBv ?_|refine zDx ?_|refine zCz ?_|refine zCw ?_|refine zEy ?_|refine zCv ?_|refine zCy ?_|refine zBy ?_|refine zDv ?_|refine zEz ?_|refine zAw ?_|refine zBz ?_)
  | refine zDz ?_|refine zEx rfl ?_|refine zJy ?_|refine zJx ?_
  | ((first|refine zGv rfl rfl rfl rfl rfl fun K_ hK_=>?_|refine zGw rfl rfl rfl rfl rfl fun K_ hK_=>?_);simp only [zAz,zDy,zGx,↓reduceIte,reduceCtorEq,Nat.reduceEqDiff,Bool.not_true,Bool.not_false];refine hK_ _ ?_;clear hK_ K_)
  | refine zDw (by decide) ?_
  | ((try first|refine zKy rfl rfl rfl ?_|refine zJz rfl rfl ?_|refine zKx rfl rfl rfl ?_|refine zIv rfl rfl ?_);(refine zIw fun Q_ hQ_=>?_;simp (disch:=first|omega|(simp only [List.length_cons,List.length_nil,List.length_append];omega)) only [bb,bp,zLy,↓reduceIte,reduceCtorEq,Nat.reduceEqDiff,Nat.reduceLT,Nat.reduceLeDiff,Nat.reduceAdd,Nat.reduceMul,Nat.reduceSub,Nat.reduceBEq,Int.reduceToNat,cond_true,cond_false,eq_self,beq_self_eq_true,g1,g2,g4,g5,g6,g7,g8,bi_min,bi_max,zFx wf,zGy wf,zBw wf,zFy wf,zAy wf,zAx,tEvD29,zIx,zIy,zIz,zHv,zFv,zAv wf];first|(refine zCx (Q:=Q_) (fun hp_=>?_) (fun hp_=>?_) <;> first|(exfalso;omega)|(refine hQ_ _ _ ?_;clear hQ_ Q_))|(refine zBx (Q:=Q_) (fun hp_=>?_) (fun hp_=>?_) <;> first|(exfalso;omega)|(refine hQ_ _ _ ?_;clear hQ_ Q_))|(refine hQ_ _ _ ?_;clear hQ_ Q_)))
  | (refine zHx fun K_ hK_=>?_;simp (disch:=omega) only [zGz,zAz,zHw,↓reduceIte,reduceCtorEq,Nat.reduceEqDiff,Nat.reduceLT];refine hK_ _ ?_;clear hK_ K_)))
              refine zLz (b+1) (by omega) ⟨by omega,by simp only [zAz,↓reduceIte,reduceCtorEq,Nat.reduceEqDiff];exact g1,by simp only [zAz,↓reduceIte,reduceCtorEq,Nat.reduceEqDiff];exact g2,by simp only [zAz,↓reduceIte,reduceCtorEq,Nat.reduceEqDiff];exact g4,by simp only [zAz,↓reduceIte,reduceCtorEq,Nat.reduceEqDiff];exact g5,by simp only [zAz,↓reduceIte,reduceCtorEq,Nat.reduceEqDiff];exact g6,by simp only [zAz,↓reduceIte,reduceCtorEq,Nat.reduceEqDiff];exact g7,by simp only [zAz,↓reduceIte,reduceCtorEq,Nat.reduceEqDiff];rfl,rfl,_,_,_,rfl,by omega,by omega,hseen.bit hlt C h21 h10⟩
            · have hbe:b=32:=by omega
              subst hbe
              have hs2:Seen T ls mn mx i (T.o0+(n:Int)) true true:=hseen
              (repeat' (first
  | (with_reducible first|refine zJw ?_|refine zHz ?_|refine zEv ?_|refine zEw ?_|refine zFz ?_|refine zJv ?_|refine zHy ?_|refine zBv ?_|refine zDx ?_|refine zCz ?_|refine zCw ?_|refine zEy ?_|refine zCv ?_|refine zCy ?_|refine zBy ?_|refine zDv ?_|refine zEz ?_|refine zAw ?_|refine zBz ?_)
  | refine zDz ?_|refine zEx rfl ?_|refine zJy ?_|refine zJx ?_
  | ((first|refine zGv rfl rfl rfl rfl rfl fun K_ hK_=>?_|refine zGw rfl rfl rfl rfl rfl fun K_ hK_=>?_);simp only [zAz,zDy,zGx,↓reduceIte,reduceCtorEq,Nat.reduceEqDiff,Bool.not_true,Bool.not_false];refine hK_ _ ?_;clear hK_ K_)
  | refine zDw (by decide) ?_
  | ((try first|refine zKy rfl rfl rfl ?_|refine zJz rfl rfl ?_|refine zKx rfl rfl rfl ?_|refine zIv rfl rfl ?_);(refine zIw fun Q_ hQ_=>?_;simp (disch:=first|omega|(simp only [List.length_cons,List.length_nil,List.length_append];omega)) only [bb,bp,zLy,↓reduceIte,reduceCtorEq,Nat.reduceEqDiff,Nat.reduceLT,Nat.reduceLeDiff,Nat.reduceAdd,Nat.reduceMul,Nat.reduceSub,Nat.reduceBEq,Int.reduceToNat,cond_true,cond_false,eq_self,beq_self_eq_true,g1,g2,g4,g5,g6,g7,g8,zFx wf,zGy wf,zBw wf,zFy wf,zAy wf,zAx,tEvD29,zIx,zIy,zIz,zHv,zFv,zAv wf];first|(refine zCx (Q:=Q_) (fun hp_=>?_) (fun hp_=>?_) <;> first|(exfalso;omega)|(refine hQ_ _ _ ?_;clear hQ_ Q_))|(refine zBx (Q:=Q_) (fun hp_=>?_) (fun hp_=>?_) <;> first|(exfalso;omega)|(refine hQ_ _ _ ?_;clear hQ_ Q_))|(refine hQ_ _ _ ?_;clear hQ_ Q_)))
  | (refine zHx fun K_ hK_=>?_;simp (disch:=omega) only [zGz,zAz,zHw,↓reduceIte,reduceCtorEq,Nat.reduceEqDiff,Nat.reduceLT];refine hK_ _ ?_;clear hK_ K_)))
              refine zLz (n+1) (by omega) ⟨by omega,by simp only [zAz,↓reduceIte,reduceCtorEq,Nat.reduceEqDiff];exact g1,by simp only [zAz,↓reduceIte,reduceCtorEq,Nat.reduceEqDiff];exact g2,by simp only [zAz,↓reduceIte,reduceCtorEq,Nat.reduceEqDiff];exact g4,by simp only [zAz,↓reduceIte,reduceCtorEq,Nat.reduceEqDiff];exact g5,by simp only [zAz,↓reduceIte,reduceCtorEq,Nat.reduceEqDiff];exact g6,by simp only [zAz,↓reduceIte,reduceCtorEq,Nat.reduceEqDiff];rw [Int.natCast_add,← Int.add_assoc];rfl,rfl,mn,mx,_,rfl,hmn,hmx,?_⟩
              rw [Int.natCast_add,← Int.add_assoc]
              exact hs2.form
          · exact ⟨by omega,by simp only [zAz,↓reduceIte,reduceCtorEq,Nat.reduceEqDiff];exact g1,by simp only [zAz,↓reduceIte,reduceCtorEq,Nat.reduceEqDiff];exact g2,by simp only [zAz,↓reduceIte,reduceCtorEq,Nat.reduceEqDiff];exact g4,by simp only [zAz,↓reduceIte,reduceCtorEq,Nat.reduceEqDiff];exact g5,by simp only [zAz,↓reduceIte,reduceCtorEq,Nat.reduceEqDiff];exact g6,by simp only [zAz,↓reduceIte,reduceCtorEq,Nat.reduceEqDiff];exact g7,by first|(simp only [zAz,↓reduceIte,reduceCtorEq,Nat.reduceEqDiff];done)|(simp only [zAz,↓reduceIte,reduceCtorEq,Nat.reduceEqDiff];rfl),rfl,mn,mx,G,rfl,hmn,hmx,hseen⟩
        · (repeat' (first
  | (with_reducible first|refine zJw ?_|refine zHz ?_|refine zEv ?_|refine zEw ?_|refine zFz ?_|refine zJv ?_|refine zHy ?_|refine zBv ?_|refine zDx ?_|refine zCz ?_|refine zCw ?_|refine zEy ?_|refine zCv ?_|refine zCy ?_|refine zBy ?_|refine zDv ?_|refine zEz ?_|refine zAw ?_|refine zBz ?_)
  | refine zDz ?_|refine zEx rfl ?_|refine zJy ?_|refine zJx ?_
  | ((first|refine zGv rfl rfl rfl rfl rfl fun K_ hK_=>?_|refine zGw rfl rfl rfl rfl rfl fun K_ hK_=>?_);simp only [zAz,zDy,zGx,↓reduceIte,reduceCtorEq,Nat.reduceEqDiff,Bool.not_true,Bool.not_false];refine hK_ _ ?_;clear hK_ K_)
  | refine zDw (by decide) ?_
  | ((try first|refine zKy rfl rfl rfl ?_|refine zJz rfl rfl ?_|refine zKx rfl rfl rfl ?_|refine zIv rfl rfl ?_);(refine zIw fun Q_ hQ_=>?_;simp (disch:=first|omega|(simp only [List.length_cons,List.length_nil,List.length_append];omega)) only [bb,bp,zLy,↓reduceIte,reduceCtorEq,Nat.reduceEqDiff,Nat.reduceLT,Nat.reduceLeDiff,Nat.reduceAdd,Nat.reduceMul,Nat.reduceSub,Nat.reduceBEq,Int.reduceToNat,cond_true,cond_false,eq_self,beq_self_eq_true,g1,g2,g4,g5,g6,g7,zFx wf,zGy wf,zBw wf,zFy wf,zAy wf,zAx,tEvD29,zIx,zIy,zIz,zHv,zFv,zAv wf];first|(refine zCx (Q:=Q_) (fun hp_=>?_) (fun hp_=>?_) <;> first|(exfalso;omega)|(refine hQ_ _ _ ?_;clear hQ_ Q_))|(refine zBx (Q:=Q_) (fun hp_=>?_) (fun hp_=>?_) <;> first|(exfalso;omega)|(refine hQ_ _ _ ?_;clear hQ_ Q_))|(refine hQ_ _ _ ?_;clear hQ_ Q_)))
  | (refine zHx fun K_ hK_=>?_;simp (disch:=omega) only [zGz,zAz,zHw,↓reduceIte,reduceCtorEq,Nat.reduceEqDiff,Nat.reduceLT];refine hK_ _ ?_;clear hK_ K_)))
          refine zLz (i+1) (by omega) ⟨hlt,by simp only [zAz,↓reduceIte,reduceCtorEq,Nat.reduceEqDiff];exact g1,by simp only [zAz,↓reduceIte,reduceCtorEq,Nat.reduceEqDiff];exact g2,by simp only [zAz,↓reduceIte,reduceCtorEq,Nat.reduceEqDiff];exact g4,by simp only [zAz,↓reduceIte,reduceCtorEq,Nat.reduceEqDiff];exact g5,by simp only [zAz,↓reduceIte,reduceCtorEq,Nat.reduceEqDiff];rfl,rfl,mn,mx,_,rfl,hmn,hmx,hseen.line (by omega)⟩
      · exact ⟨by omega,by simp only [zAz,↓reduceIte,reduceCtorEq,Nat.reduceEqDiff];exact g1,by simp only [zAz,↓reduceIte,reduceCtorEq,Nat.reduceEqDiff];exact g2,by simp only [zAz,↓reduceIte,reduceCtorEq,Nat.reduceEqDiff];exact g4,by simp only [zAz,↓reduceIte,reduceCtorEq,Nat.reduceEqDiff];exact g5,by simp only [zAz,↓reduceIte,reduceCtorEq,Nat.reduceEqDiff];exact g6,by simp only [zAz,↓reduceIte,reduceCtorEq,Nat.reduceEqDiff];simp,rfl,mn,mx,G,rfl,hmn,hmx,by simpa using hseen⟩
    · have hie:i=ls.length:=by omega
      rw [hie] at hseen
      obtain ⟨d1,d2⟩:=hseen.done k hk
      have e1:mn=spanV T ls false:=by omega
      have e2:mx=spanV T ls true:=by omega
      subst e1
      subst e2
      (repeat' (first
  | (with_reducible first|refine zJw ?_|refine zHz ?_|refine zEv ?_|refine zEw ?_|refine zFz ?_|refine zJv ?_|refine zHy ?_|refine zBv ?_|refine zDx ?_|refine zCz ?_|refine zCw ?_|refine zEy ?_|refine zCv ?_|refine zCy ?_|refine zBy ?_|refine zDv ?_|refine zEz ?_|refine zAw ?_|refine zBz ?_)
  | refine zDz ?_|refine zEx rfl ?_|refine zJy ?_|refine zJx ?_
  | ((first|refine zGv rfl rfl rfl rfl rfl fun K_ hK_=>?_|refine zGw rfl rfl rfl rfl rfl fun K_ hK_=>?_);simp only [zAz,zDy,zGx,↓reduceIte,reduceCtorEq,Nat.reduceEqDiff,Bool.not_true,Bool.not_false];refine hK_ _ ?_;clear hK_ K_)
  | refine zDw (by decide) ?_
  | ((try first|refine zKy rfl rfl rfl ?_|refine zJz rfl rfl ?_|refine zKx rfl rfl rfl ?_|refine zIv rfl rfl ?_);(refine zIw fun Q_ hQ_=>?_;simp (disch:=first|omega|(simp only [List.length_cons,List.length_nil,List.length_append];omega)) only [bb,bp,zLy,↓reduceIte,reduceCtorEq,Nat.reduceEqDiff,Nat.reduceLT,Nat.reduceLeDiff,Nat.reduceAdd,Nat.reduceMul,Nat.reduceSub,Nat.reduceBEq,Int.reduceToNat,cond_true,cond_false,eq_self,beq_self_eq_true,g1,g2,g4,g5,g6,hl,zFx wf,zGy wf,zBw wf,zFy wf,zAy wf,zAx,tEvD29,zIx,zIy,zIz,zHv,zFv,zAv wf];first|(refine zCx (Q:=Q_) (fun hp_=>?_) (fun hp_=>?_) <;> first|(exfalso;omega)|(refine hQ_ _ _ ?_;clear hQ_ Q_))|(refine zBx (Q:=Q_) (fun hp_=>?_) (fun hp_=>?_) <;> first|(exfalso;omega)|(refine hQ_ _ _ ?_;clear hQ_ Q_))|(refine hQ_ _ _ ?_;clear hQ_ Q_)))
  | (refine zHx fun K_ hK_=>?_;simp (disch:=omega) only [zGz,zAz,zHw,↓reduceIte,reduceCtorEq,Nat.reduceEqDiff,Nat.reduceLT];refine hK_ _ ?_;clear hK_ K_)))
      refine zKz _ _ rfl (retc0 (by decide) (by simp (disch:=first|omega|(simp only [List.length_cons,List.length_nil,List.length_append];omega)) only [bb,bp,zLy,↓reduceIte,reduceCtorEq,Nat.reduceEqDiff,Nat.reduceLT,Nat.reduceLeDiff,Nat.reduceAdd,Nat.reduceMul,Nat.reduceSub,Nat.reduceBEq,Int.reduceToNat,cond_true,cond_false,eq_self,beq_self_eq_true,g4,zBw wf,tEvD29,zIx,zIy,zIz,zHv,zFv,zAv wf];rfl)) ?_
      refine zKw rfl (by omega) ?_
      exact ⟨rfl,rfl⟩
  · exact ⟨Nat.zero_le _,by simp only [zAz,↓reduceIte,reduceCtorEq,Nat.reduceEqDiff],by simp only [zAz,↓reduceIte,reduceCtorEq,Nat.reduceEqDiff],by simp only [zAz,↓reduceIte,reduceCtorEq,Nat.reduceEqDiff],by simp only [zAz,↓reduceIte,reduceCtorEq,Nat.reduceEqDiff],by first|(simp only [zAz,↓reduceIte,reduceCtorEq,Nat.reduceEqDiff];done)|(simp only [zAz,↓reduceIte,reduceCtorEq,Nat.reduceEqDiff];rfl),rfl,_,_,[],rfl,by omega,by omega,Seen.init _ _ _ _⟩
end Go.Proofs.Ythaleckfgcgegaa
end
