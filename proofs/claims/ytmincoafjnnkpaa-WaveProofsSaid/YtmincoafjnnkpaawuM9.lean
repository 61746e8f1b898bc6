import Derived.Test.YtmincoafjnnkpaawuM8
set_option linter.all false
section
namespace Go.Proofs.Ytmincoafjnnkpaa
open Go.Ev
set_option maxRecDepth 100000
set_option linter.unusedSimpArgs false
set_option linter.unusedVariables false
set_option maxHeartbeats 2000000
theorem tEvZ30 :type_of% (And.intro (And.intro (And.intro (And.intro (And.intro (And.intro (And.intro (@yQw) (@yQx)) (And.intro (@yQy) (@yQz))) (And.intro (And.intro (@yPv) (@yPw)) (And.intro (@ia_2) (And.intro (@ia_3) (@ia_4))))) (And.intro (And.intro (And.intro (@ia_5) (@yPx)) (And.intro (@yPy) (@yPz))) (And.intro (And.intro (@yOv) (@yOw)) (And.intro (@yOx) (And.intro (@zSz) (@yOy)))))) (And.intro (And.intro (And.intro (And.intro (@yOz) (@yNv)) (And.intro (@yNw) (@yNx))) (And.intro (And.intro (@yNy) (@yNz)) (And.intro (@yMv) (And.intro (@yMw) (@sz_2))))) (And.intro (And.intro (And.intro (@sz_3) (@sz_4)) (And.intro (@sz_5) (And.intro (@zRz) (@zYv)))) (And.intro (And.intro (@zYw) (@zYx)) (And.intro (@zYy) (And.intro (@zYz) (@zRw))))))) (And.intro (And.intro (And.intro (And.intro (And.intro (@zXv) (@zXw)) (And.intro (@zXx) (@zQy))) (And.intro (And.intro (@zXy) (@zXz)) (And.intro (@zWv) (And.intro (@zWw) (@zWx))))) (And.intro (And.intro (And.intro (@ze_2) (@ze_3)) (And.intro (@ze_4) (And.intro (@ze_5) (@zWy)))) (And.intro (And.intro (@zWz) (@zVv)) (And.intro (@zVw) (And.intro (@zVx) (@zVy)))))) (And.intro (And.intro (And.intro (And.intro (@zVz) (@zUv)) (And.intro (@zUw) (@zUx))) (And.intro (And.intro (@zUy) (@zUz)) (And.intro (@zTv) (And.intro (@zTw) (@zTx))))) (And.intro (And.intro (And.intro (@zNv) (@zNw)) (And.intro (@zNx) (And.intro (@zNy) (@zNz)))) (And.intro (And.intro (@zMv) (@zMw)) (And.intro (@zMx) (And.intro (@zMy) (@yMx)))))))) (And.intro (And.intro (And.intro (And.intro (And.intro (And.intro (@yMy) (@yMz)) (And.intro (@yLv) (@yLw))) (And.intro (And.intro (@yLx) (@yLy)) (And.intro (@yLz) (And.intro (@yKv) (@yKw))))) (And.intro (And.intro (And.intro (@yKx) (@yKy)) (And.intro (@yKz) (@yJv))) (And.intro (And.intro (@yJw) (@yJx)) (And.intro (@yJy) (And.intro (@yJz) (@yIv)))))) (And.intro (And.intro (And.intro (And.intro (@yIw) (@yIx)) (And.intro (@yIy) (@yIz))) (And.intro (And.intro (@yHv) (@yHw)) (And.intro (@yHx) (And.intro (@yHy) (@yHz))))) (And.intro (And.intro (And.intro (@yGv) (@yGw)) (And.intro (@yGx) (And.intro (@yGy) (@yGz)))) (And.intro (And.intro (@yFv) (@yFw)) (And.intro (@yFx) (And.intro (@yFy) (@yFz))))))) (And.intro (And.intro (And.intro (And.intro (And.intro (@yEv) (@yEw)) (And.intro (@yEx) (@yEy))) (And.intro (And.intro (@yEz) (@yDv)) (And.intro (@yDw) (And.intro (@yDx) (@yDy))))) (And.intro (And.intro (And.intro (@yDz) (@yCv)) (And.intro (@yCw) (And.intro (@yCx) (@yCy)))) (And.intro (And.intro (@zSy) (@yCz)) (And.intro (@yBv) (And.intro (@yBw) (@yBx)))))) (And.intro (And.intro (And.intro (And.intro (@yBy) (@yBz)) (And.intro (@yAv) (@yAw))) (And.intro (And.intro (@yAx) (@yAy)) (And.intro (@yAz) (And.intro (@zZv) (@zZw))))) (And.intro (And.intro (And.intro (@zZx) (@zZy)) (And.intro (@zPv) (And.intro (@zTz) (@zSv)))) (And.intro (And.intro (@zQw) (@zSw)) (And.intro (@zRx) (And.intro (@zSx) (@zRv))))))))):=And.intro (And.intro (And.intro (And.intro (And.intro (And.intro (And.intro (@yQw) (@yQx)) (And.intro (@yQy) (@yQz))) (And.intro (And.intro (@yPv) (@yPw)) (And.intro (@ia_2) (And.intro (@ia_3) (@ia_4))))) (And.intro (And.intro (And.intro (@ia_5) (@yPx)) (And.intro (@yPy) (@yPz))) (And.intro (And.intro (@yOv) (@yOw)) (And.intro (@yOx) (And.intro (@zSz) (@yOy)))))) (And.intro (And.intro (And.intro (And.intro (@yOz) (@yNv)) (And.intro (@yNw) (@yNx))) (And.intro (And.intro (@yNy) (@yNz)) (And.intro (@yMv) (And.intro (@yMw) (@sz_2))))) (And.intro (And.intro (And.intro (@sz_3) (@sz_4)) (And.intro (@sz_5) (And.intro (@zRz) (@zYv)))) (And.intro (And.intro (@zYw) (@zYx)) (And.intro (@zYy) (And.intro (@zYz) (@zRw))))))) (And.intro (And.intro (And.intro (And.intro (And.intro (@zXv) (@zXw)) (And.intro (@zXx) (@zQy))) (And.intro (And.intro (@zXy) (@zXz)) (And.intro (@zWv) (And.intro (@zWw) (@zWx))))) (And.intro (And.intro (And.intro (@ze_2) (@ze_3)) (And.intro (@ze_4) (And.intro (@ze_5) (@zWy)))) (And.intro (And.intro (@zWz) (@zVv)) (And.intro (@zVw) (And.intro (@zVx) (@zVy)))))) (And.intro (And.intro (And.intro (And.intro (@zVz) (@zUv)) (And.intro (@zUw) (@zUx))) (And.intro (And.intro (@zUy) (@zUz)) (And.intro (@zTv) (And.intro (@zTw) (@zTx))))) (And.intro (And.intro (And.intro (@zNv) (@zNw)) (And.intro (@zNx) (And.intro (@zNy) (@zNz)))) (And.intro (And.intro (@zMv) (@zMw)) (And.intro (@zMx) (And.intro (@zMy) (@yMx)))))))) (And.intro (And.intro (And.intro (And.intro (And.intro (And.intro (@yMy) (@yMz)) (And.intro (@yLv) (@yLw))) (And.intro (And.intro (@yLx) (@yLy)) (And.intro (@yLz) (And.intro (@yKv) (@yKw))))) (And.intro (And.intro (And.intro (@yKx) (@yKy)) (And.intro (@yKz) (@yJv))) (And.intro (And.intro (@yJw) (@yJx)) (And.intro (@yJy) (And.intro (@yJz) (@yIv)))))) (And.intro (And.intro (And.intro (And.intro (@yIw) (@yIx)) (And.intro (@yIy) (@yIz))) (And.intro (And.intro (@yHv) (@yHw)) (And.intro (@yHx) (And.intro (@yHy) (@yHz))))) (And.intro (And.intro (And.intro (@yGv) (@yGw)) (And.intro (@yGx) (And.intro (@yGy) (@yGz)))) (And.intro (And.intro (@yFv) (@yFw)) (And.intro (@yFx) (And.intro (@yFy) (@yFz))))))) (And.intro (And.intro (And.intro (And.intro (And.intro (@yEv) (@yEw)) (And.intro (@yEx) (@yEy))) (And.intro (And.intro (@yEz) (@yDv)) (And.intro (@yDw) (And.intro (@yDx) (@yDy))))) (And.intro (And.intro (And.intro (@yDz) (@yCv)) (And.intro (@yCw) (And.intro (@yCx) (@yCy)))) (And.intro (And.intro (@zSy) (@yCz)) (And.intro (@yBv) (And.intro (@yBw) (@yBx)))))) (And.intro (And.intro (And.intro (And.intro (@yBy) (@yBz)) (And.intro (@yAv) (@yAw))) (And.intro (And.intro (@yAx) (@yAy)) (And.intro (@yAz) (And.intro (@zZv) (@zZw))))) (And.intro (And.intro (And.intro (@zZx) (@zZy)) (And.intro (@zPv) (And.intro (@zTz) (@zSv)))) (And.intro (And.intro (@zQw) (@zSw)) (And.intro (@zRx) (And.intro (@zSx) (@zRv))))))))
theorem solved (bs:List Bool) (hb:bs.length≤128) (L:Nat) (hL:L≤bs.length) (a:AV) (h:H) (wf:Wf h) (hs:Sl h a 1 bs.length (bs.map bi)) :
    ∃ b:Bool,(b=true ↔ ∃ T,T<2 ^ L∧Makes T L (sq bs) bs.length)∧(om Try.prog KK).call (.fn 57 [a,ii (L:Int)]) h = .ok (.bool b) h:=by
  suffices hW:WV ((om Try.prog KK).call (.fn 57 [a,ii (L:Int)]) h) fun r h'=>∃ b:Bool,(b=true ↔ ∃ T,T<2 ^ L∧Makes T L (sq bs) bs.length)∧r = .bool b∧h'=h by
    obtain ⟨r,h',e,b,h1,rfl,rfl⟩:=hW
    exact ⟨b,h1,e⟩
  have hl : ∀ h',lenE Try.prog 22 a h'=some (ii (bs.length:Int)):=fun h'=>hs.len yRy
  obtain ⟨f1,f2⟩:=zPy hs
  have hsol:=sol_eqs (s:=sq bs) hL
  generalize hn:bs.length=n at *
  generalize hsq:sq bs=s at *
  have hgets : ∀ i,i<n → ∃ id off,indexAddrE Try.prog 22 a (.int .i64 (i:Int))=some (.ptr id off) ∧ ∀ l w,load1 id off (X h l w)=some (bi (s i)):=fun i hi=>by
    have:=bget wf (bs:=bs) (a:=a) (by rw [hn];exact hs) (i:=i) (by omega)
    rw [hsq] at this
    exact this
  have hrz : ∀ id off l c esz,reszT Try.prog 22 (.sl id off l (some c) esz) = .sl id off l (some c) 1:=fun _ _ _ _ _=>yUw yRy sz_3
  have hrz2 : ∀ id off l c esz,reszT Try.prog 42 (.sl id off l (some c) esz) = .sl id off l (some c) 1:=fun _ _ _ _ _=>yUw un_42 zRz
  refine zLy (fn:=Try.f57) Try.func57 rfl rfl rfl rfl rfl ?_
  simp only [zLz]
  (repeat' (first
  | (with_reducible first|refine zJx ?_|refine zGv ?_|refine zFz ?_|refine zEv ?_|refine zFy ?_|refine zJw ?_|refine zHz ?_|refine zCz ?_|refine zDw ?_|refine zCy ?_|refine zCv ?_|refine zEx ?_|refine zDz ?_|refine zCx ?_|refine zBx ?_|refine zEz ?_|refine zEy ?_|refine zAw ?_|refine zBy ?_)
  | refine zDy ?_|refine zEw rfl ?_|refine zIv ?_|refine zJy ?_
  | ((first|refine zGw rfl rfl rfl rfl rfl fun K_ hK_=>?_|refine zGx rfl rfl rfl rfl rfl fun K_ hK_=>?_);simp only [zAz,zDx,zGz,↓reduceIte,reduceCtorEq,Nat.reduceEqDiff,Bool.not_true,Bool.not_false];refine hK_ _ ?_;clear hK_ K_)
  | refine zDv (by decide) ?_
  | ((try first|refine zKy rfl rfl rfl ?_|refine zIw rfl rfl ?_|refine zKx rfl rfl rfl ?_|refine zJz rfl rfl ?_);(refine zIx fun Q_ hQ_=>?_;simp (disch:=first|omega|(simp only [List.length_cons,List.length_nil,List.length_append];omega)) only [bb,bp,zLz,↓reduceIte,reduceCtorEq,Nat.reduceEqDiff,Nat.reduceLT,Nat.reduceLeDiff,Nat.reduceAdd,Nat.reduceMul,Nat.reduceSub,Nat.reduceBEq,Int.reduceToNat,cond_true,cond_false,eq_self,beq_self_eq_true,hl,f1,f2,zFw wf,zGy wf,zBv wf,zFx wf,zAy wf,zAx,tEvZ30,zIy,zIz,zHv,zHw,zAv wf];first|(refine zCw (Q:=Q_) (fun hp_=>?_) (fun hp_=>?_) <;> first|(exfalso;omega)|(refine hQ_ _ _ ?_;clear hQ_ Q_))|(refine zBw (Q:=Q_) (fun hp_=>?_) (fun hp_=>?_) <;> first|(exfalso;omega)|(refine hQ_ _ _ ?_;clear hQ_ Q_))|(refine hQ_ _ _ ?_;clear hQ_ Q_)))
  | (refine zHy fun K_ hK_=>?_;simp (disch:=omega) only [zFv,zAz,zHx,↓reduceIte,reduceCtorEq,Nat.reduceEqDiff,Nat.reduceLT];refine hK_ _ ?_;clear hK_ K_)))
  refine zOv (α:=Nat) (fun (i:Nat) f d h'=>L≤i∧i≤n∧f 0=a∧f 1=ii (L:Int)∧f 6=ii (i:Int)∧d=[] ∧
    ∃ M vo io ps w,f 5=vo∧Ows h M io (rowVs h L (i - L) ps) vo∧RowsAt M L (i - L) ps (eqs L s)∧h.clock≤w∧w≤h.clock+M.length∧h'=X h M w) (fun i=>n - i) ?_ (n+1) L (by omega) ?_
  · rintro i f d h' ⟨hLi,hin,g0,g1,g6,rfl,M,vo,io,ps,w,g5,ows,rat,hw,hwl,rfl⟩
    obtain ⟨go1,go2⟩:=ows.flat
    by_cases hlt:i<n
    ·
      (repeat' (first
  | (with_reducible first|refine zJx ?_|refine zGv ?_|refine zFz ?_|refine zEv ?_|refine zFy ?_|refine zJw ?_|refine zHz ?_|refine zCz ?_|refine zDw ?_|refine zCy ?_|refine zCv ?_|refine zEx ?_|refine zDz ?_|refine zCx ?_|refine zBx ?_|refine zEz ?_|refine zEy ?_|refine zAw ?_|refine zBy ?_)
  | refine zDy ?_|refine zEw rfl ?_|refine zIv ?_|refine zJy ?_
  | ((first|refine zGw rfl rfl rfl rfl rfl fun K_ hK_=>?_|refine zGx rfl rfl rfl rfl rfl fun K_ hK_=>?_);simp only [zAz,zDx,zGz,↓reduceIte,reduceCtorEq,Nat.reduceEqDiff,Bool.not_true,Bool.not_false];refine hK_ _ ?_;clear hK_ K_)
  | refine zDv (by decide) ?_
  | ((try first|refine zKy rfl rfl rfl ?_|refine zIw rfl rfl ?_|refine zKx rfl rfl rfl ?_|refine zJz rfl rfl ?_);(refine zIx fun Q_ hQ_=>?_;simp (disch:=first|omega|(simp only [List.length_cons,List.length_nil,List.length_append];omega)) only [bb,bp,zLz,↓reduceIte,reduceCtorEq,Nat.reduceEqDiff,Nat.reduceLT,Nat.reduceLeDiff,Nat.reduceAdd,Nat.reduceMul,Nat.reduceSub,Nat.reduceBEq,Int.reduceToNat,cond_true,cond_false,eq_self,beq_self_eq_true,hl,f1,f2,go1,go2,g0,g1,g5,g6,zFw wf,zGy wf,zBv wf,zFx wf,zAy wf,zAx,tEvZ30,zIy,zIz,zHv,zHw,zAv wf];first|(refine zCw (Q:=Q_) (fun hp_=>?_) (fun hp_=>?_) <;> first|(exfalso;omega)|(refine hQ_ _ _ ?_;clear hQ_ Q_))|(refine zBw (Q:=Q_) (fun hp_=>?_) (fun hp_=>?_) <;> first|(exfalso;omega)|(refine hQ_ _ _ ?_;clear hQ_ Q_))|(refine hQ_ _ _ ?_;clear hQ_ Q_)))
  | (refine zHy fun K_ hK_=>?_;simp (disch:=omega) only [zFv,zAz,zHx,↓reduceIte,reduceCtorEq,Nat.reduceEqDiff,Nat.reduceLT];refine hK_ _ ?_;clear hK_ K_)))
      refine zOv (α:=Nat) (fun (j:Nat) f d h'=>j≤L∧f 0=a∧f 1=ii (L:Int)∧f 5=vo∧f 6=ii (i:Int)∧f 8=ii ((j+1:Nat):Int)∧d=[] ∧
        ∃ M' v7 i7 w',f 7=v7∧Own h M' i7 ((mL (eqs L s (i - L)) j).map bi) v7∧(j=0∨M.length≤i7)∧M.length≤M'.length∧(∀ k o,k<M.length→M[k]? = some o→M'[k]? = some o)∧h.clock≤w'∧w'≤h.clock+M'.length∧h'=X h M' w') (fun j=>L - j) ?_ (L+1) 0 (by omega) ?_
      · rintro j f d h' ⟨hj,g0,g1,g5,g6,g8,rfl,M',v7,i7,w',g7,own,hi7,hMl,hkeep,hw',hwl',rfl⟩
        obtain ⟨g71,g72⟩:=own.flat
        have hlen7:((mL (eqs L s (i - L)) j).map bi).length=j:=by rw [List.length_map,yZw]
        by_cases hjl:j<L
        · obtain ⟨id,off,hix,hld⟩:=hgets (i - (j+1)) (by omega)
          have hij:(i:Int) - ((j+1:Nat):Int)=((i - (j+1):Nat):Int):=by omega
          have hval:s (i - (j+1))=eqs L s (i - L) j:=by unfold eqs;rw [if_pos hjl,show L+(i - L) - 1 - j=i - (j+1) by omega]
          rw [hval] at hld
          obtain ⟨v',M2,own',hl2,hk2,happ⟩:=own.app wf (bi (eqs L s (i - L) j)) rfl (by rw [hlen7];omega)
          obtain ⟨w2,hw21,hw22,happ⟩:=happ w' hw'
          have eq1:(mL (eqs L s (i - L)) (j+1)).map bi=(mL (eqs L s (i - L)) j).map bi++[bi (eqs L s (i - L) j)]:=by rw [mL_succ,List.map_append];rfl
          rw [← eq1] at own'
          obtain ⟨g73,g74⟩:=own'.flat
          have ho:oneB (bi (eqs L s (i - L) j))=true:=rfl
          have ho':AV.cells (bi (eqs L s (i - L) j))=[bi (eqs L s (i - L) j)]:=rfl
          generalize bi (eqs L s (i - L) j)=y at *
          have hle:((j+1:Nat):Int)≤(L:Int):=by omega
          have hj2:((j+1:Nat):Int)+1=((j+1+1:Nat):Int):=by omega
          (repeat' (first
  | (with_reducible first|refine zJx ?_|refine zGv ?_|refine zFz ?_|refine zEv ?_|refine zFy ?_|refine zJw ?_|refine zHz ?_|refine zCz ?_|refine zDw ?_|refine zCy ?_|refine zCv ?_|refine zEx ?_|refine zDz ?_|refine zCx ?_|refine zBx ?_|refine zEz ?_|refine zEy ?_|refine zAw ?_|refine zBy ?_)
  | refine zDy ?_|refine zEw rfl ?_|refine zIv ?_|refine zJy ?_
  | ((first|refine zGw rfl rfl rfl rfl rfl fun K_ hK_=>?_|refine zGx rfl rfl rfl rfl rfl fun K_ hK_=>?_);simp only [zAz,zDx,zGz,↓reduceIte,reduceCtorEq,Nat.reduceEqDiff,Bool.not_true,Bool.not_false];refine hK_ _ ?_;clear hK_ K_)
  | refine zDv (by decide) ?_
  | ((try first|refine zKy rfl rfl rfl ?_|refine zIw rfl rfl ?_|refine zKx rfl rfl rfl ?_|refine zJz rfl rfl ?_);(refine zIx fun Q_ hQ_=>?_;simp (disch:=first|omega|(simp only [List.length_cons,List.length_nil,List.length_append];omega)) only [bb,bp,zLz,↓reduceIte,reduceCtorEq,Nat.reduceEqDiff,Nat.reduceLT,Nat.reduceLeDiff,Nat.reduceAdd,Nat.reduceMul,Nat.reduceSub,Nat.reduceBEq,Int.reduceToNat,cond_true,cond_false,eq_self,beq_self_eq_true,hl,f1,f2,go1,go2,g71,g72,g73,g74,g0,g1,g5,g6,g7,g8,hij,hix,hld,ho,ho',happ,hrz,hj2,zRx,zFw wf,zGy wf,zBv wf,zFx wf,zAy wf,zAx,tEvZ30,zIy,zIz,zHv,zHw,zAv wf];first|(refine zCw (Q:=Q_) (fun hp_=>?_) (fun hp_=>?_) <;> first|(exfalso;omega)|(refine hQ_ _ _ ?_;clear hQ_ Q_))|(refine zBw (Q:=Q_) (fun hp_=>?_) (fun hp_=>?_) <;> first|(exfalso;omega)|(refine hQ_ _ _ ?_;clear hQ_ Q_))|(refine hQ_ _ _ ?_;clear hQ_ Q_)))
  | (refine zHy fun K_ hK_=>?_;simp (disch:=omega) only [zFv,zAz,zHx,↓reduceIte,reduceCtorEq,Nat.reduceEqDiff,Nat.reduceLT];refine hK_ _ ?_;clear hK_ K_)))
          refine zKw (j+1) (by omega) ⟨hjl,by simp only [zAz,↓reduceIte,reduceCtorEq,Nat.reduceEqDiff];exact g0,by simp only [zAz,↓reduceIte,reduceCtorEq,Nat.reduceEqDiff];exact g1,by simp only [zAz,↓reduceIte,reduceCtorEq,Nat.reduceEqDiff];exact g5,by simp only [zAz,↓reduceIte,reduceCtorEq,Nat.reduceEqDiff];exact g6,by simp only [zAz,↓reduceIte,reduceCtorEq,Nat.reduceEqDiff];try rfl,rfl,M2,v',_,w2,by simp only [zAz,↓reduceIte,reduceCtorEq,Nat.reduceEqDiff],own',.inr (by omega),by omega,fun k o hk ho=>hk2 k o (hi7.elim (fun h=>.inl (by subst h;rfl)) fun h=>.inr (by omega)) (hkeep k o hk ho),hw21,by omega,rfl⟩
        · have hjL:j=L:=by omega
          subst hjL
          have hle : ¬ ((j+1:Nat):Int)≤(j:Int):=by omega
          obtain ⟨id,off,hix,hld⟩:=hgets i hlt
          have hval:s i=eqs j s (i - j) j:=by unfold eqs;rw [if_neg (Nat.lt_irrefl j),show j+(i - j)=i by omega]
          rw [hval] at hld
          obtain ⟨v',M2,own',hl2,hk2,happ⟩:=own.app wf (bi (eqs j s (i - j) j)) rfl (by rw [hlen7];omega)
          obtain ⟨w2,hw21,hw22,happ⟩:=happ w' hw'
          have eq1:(mL (eqs j s (i - j)) (j+1)).map bi=(mL (eqs j s (i - j)) j).map bi++[bi (eqs j s (i - j) j)]:=by rw [mL_succ,List.map_append];rfl
          rw [← eq1] at own'
          obtain ⟨g73,g74⟩:=own'.flat
          have hkeep2 : ∀ k o,k<M.length→M[k]? = some o→M2[k]? = some o:=fun k o hk ho=>hk2 k o (hi7.elim (fun h=>.inl (by subst h;rfl)) fun h=>.inr (by omega)) (hkeep k o hk ho)
          have ows2:Ows h M2 io (rowVs h j (i - j) ps) vo:=ows.keep fun _ o ho=>hkeep2 io o (zMz ho) ho
          obtain ⟨vo',M3,ows3,hl3,hk3,happ2⟩:=ows2.app wf v' g74 (by rw [xPz];omega)
          obtain ⟨w3,hw31,hw32,happ2⟩:=happ2 w2 hw21
          obtain ⟨go3,go4⟩:=ows3.flat
          have ho:oneB (bi (eqs j s (i - j) j))=true:=rfl
          have ho':AV.cells (bi (eqs j s (i - j) j))=[bi (eqs j s (i - j) j)]:=rfl
          have hv':v' = .sl (nx h (M'.length+1)) 0 (j+1) none 1∧M2[M'.length+1]? = some (.cells (zBz ((mL (eqs j s (i - j)) (j+1)).map bi)) 3):=by
            rcases own' with ⟨h0,_⟩|⟨_,h1,h2⟩
            · exact absurd (congrArg List.length h0) (by rw [List.length_map,yZw];simp)
            · rw [List.length_map,yZw] at h1
              exact ⟨h1,h2⟩
          have hnew:Ows h M3 (M2.length+1) (rowVs h j (i+1 - j) (fun r=>if r=i - j then M'.length+1 else ps r)) vo'∧RowsAt M3 j (i+1 - j) (fun r=>if r=i - j then M'.length+1 else ps r) (eqs j s):=by
            rw [show i+1 - j=(i - j)+1 by omega]
            exact rat.snoc hkeep2 ows2 ows3 hk3 hv'.1 hv'.2 (by omega)
          (repeat' (first
  | (with_reducible first|refine zJx ?_|refine zGv ?_|refine zFz ?_|refine zEv ?_|refine zFy ?_|refine zJw ?_|refine zHz ?_|refine zCz ?_|refine zDw ?_|refine zCy ?_|refine zCv ?_|refine zEx ?_|refine zDz ?_|refine zCx ?_|refine zBx ?_|refine zEz ?_|refine zEy ?_|refine zAw ?_|refine zBy ?_)
  | refine zDy ?_|refine zEw rfl ?_|refine zIv ?_|refine zJy ?_
  | ((first|refine zGw rfl rfl rfl rfl rfl fun K_ hK_=>?_|refine zGx rfl rfl rfl rfl rfl fun K_ hK_=>?_);simp only [zAz,zDx,zGz,↓reduceIte,reduceCtorEq,Nat.reduceEqDiff,Bool.not_true,Bool.not_false];refine hK_ _ ?_;clear hK_ K_)
  | refine zDv (by decide) ?_
  | ((try first|refine zKy rfl rfl rfl ?_|refine zIw rfl rfl ?_|refine zKx rfl rfl rfl ?_|refine zJz rfl rfl ?_);(refine zIx fun Q_ hQ_=>?_;simp (disch:=first|omega|(simp only [List.length_cons,List.length_nil,List.length_append];omega)) only [bb,bp,zLz,↓reduceIte,reduceCtorEq,Nat.reduceEqDiff,Nat.reduceLT,Nat.reduceLeDiff,Nat.reduceAdd,Nat.reduceMul,Nat.reduceSub,Nat.reduceBEq,Int.reduceToNat,cond_true,cond_false,eq_self,beq_self_eq_true,hl,f1,f2,go1,go2,go3,go4,g71,g72,g73,g74,g0,g1,g5,g6,g7,g8,hix,hld,ho,ho',happ,happ2,hrz,hrz2,zRx,zSx,zFw wf,zGy wf,zBv wf,zFx wf,zAy wf,zAx,tEvZ30,zIy,zIz,zHv,zHw,zAv wf];first|(refine zCw (Q:=Q_) (fun hp_=>?_) (fun hp_=>?_) <;> first|(exfalso;omega)|(refine hQ_ _ _ ?_;clear hQ_ Q_))|(refine zBw (Q:=Q_) (fun hp_=>?_) (fun hp_=>?_) <;> first|(exfalso;omega)|(refine hQ_ _ _ ?_;clear hQ_ Q_))|(refine hQ_ _ _ ?_;clear hQ_ Q_)))
  | (refine zHy fun K_ hK_=>?_;simp (disch:=omega) only [zFv,zAz,zHx,↓reduceIte,reduceCtorEq,Nat.reduceEqDiff,Nat.reduceLT];refine hK_ _ ?_;clear hK_ K_)))
          exact zKw (i+1) (by omega) ⟨by omega,by omega,by simp only [zAz,↓reduceIte,reduceCtorEq,Nat.reduceEqDiff];exact g0,by simp only [zAz,↓reduceIte,reduceCtorEq,Nat.reduceEqDiff];exact g1,by simp only [zAz,↓reduceIte,reduceCtorEq,Nat.reduceEqDiff];rfl,rfl,M3,vo',_,_,w3,by simp only [zAz,↓reduceIte,reduceCtorEq,Nat.reduceEqDiff],hnew.1,hnew.2,hw31,by omega,rfl⟩
      · exact ⟨Nat.zero_le _,by simp only [zAz,↓reduceIte,reduceCtorEq,Nat.reduceEqDiff];exact g0,by simp only [zAz,↓reduceIte,reduceCtorEq,Nat.reduceEqDiff];exact g1,by simp only [zAz,↓reduceIte,reduceCtorEq,Nat.reduceEqDiff];exact g5,by simp only [zAz,↓reduceIte,reduceCtorEq,Nat.reduceEqDiff];exact g6,by simp only [zAz,↓reduceIte,reduceCtorEq,Nat.reduceEqDiff];try rfl,rfl,M,.nils,0,w,by simp only [zAz,↓reduceIte,reduceCtorEq,Nat.reduceEqDiff],.inl ⟨rfl,rfl⟩,.inl rfl,Nat.le_refl _,fun _ _ _ h=>h,hw,hwl,rfl⟩
    · have hie:i=n:=by omega
      subst hie
      have hm : ∃ m,m=i - L:=⟨_,rfl⟩
      obtain ⟨m,hm⟩:=hm
      rw [← hm] at ows rat hsol
      have hlo : ∀ h',lenE Try.prog 42 vo h'=some (ii (m:Int)):=fun h'=>by
        have:=(ows.sl wf w).len un_42 (h':=h')
        rwa [xPz] at this
      (repeat' (first
  | (with_reducible first|refine zJx ?_|refine zGv ?_|refine zFz ?_|refine zEv ?_|refine zFy ?_|refine zJw ?_|refine zHz ?_|refine zCz ?_|refine zDw ?_|refine zCy ?_|refine zCv ?_|refine zEx ?_|refine zDz ?_|refine zCx ?_|refine zBx ?_|refine zEz ?_|refine zEy ?_|refine zAw ?_|refine zBy ?_)
  | refine zDy ?_|refine zEw rfl ?_|refine zIv ?_|refine zJy ?_
  | ((first|refine zGw rfl rfl rfl rfl rfl fun K_ hK_=>?_|refine zGx rfl rfl rfl rfl rfl fun K_ hK_=>?_);simp only [zAz,zDx,zGz,↓reduceIte,reduceCtorEq,Nat.reduceEqDiff,Bool.not_true,Bool.not_false];refine hK_ _ ?_;clear hK_ K_)
  | refine zDv (by decide) ?_
  | ((try first|refine zKy rfl rfl rfl ?_|refine zIw rfl rfl ?_|refine zKx rfl rfl rfl ?_|refine zJz rfl rfl ?_);(refine zIx fun Q_ hQ_=>?_;simp (disch:=first|omega|(simp only [List.length_cons,List.length_nil,List.length_append];omega)) only [bb,bp,zLz,↓reduceIte,reduceCtorEq,Nat.reduceEqDiff,Nat.reduceLT,Nat.reduceLeDiff,Nat.reduceAdd,Nat.reduceMul,Nat.reduceSub,Nat.reduceBEq,Int.reduceToNat,cond_true,cond_false,eq_self,beq_self_eq_true,hl,f1,f2,go1,go2,g0,g1,g5,g6,zFw wf,zGy wf,zBv wf,zFx wf,zAy wf,zAx,tEvZ30,zIy,zIz,zHv,zHw,zAv wf];first|(refine zCw (Q:=Q_) (fun hp_=>?_) (fun hp_=>?_) <;> first|(exfalso;omega)|(refine hQ_ _ _ ?_;clear hQ_ Q_))|(refine zBw (Q:=Q_) (fun hp_=>?_) (fun hp_=>?_) <;> first|(exfalso;omega)|(refine hQ_ _ _ ?_;clear hQ_ Q_))|(refine hQ_ _ _ ?_;clear hQ_ Q_)))
  | (refine zHy fun K_ hK_=>?_;simp (disch:=omega) only [zFv,zAz,zHx,↓reduceIte,reduceCtorEq,Nat.reduceEqDiff,Nat.reduceLT];refine hK_ _ ?_;clear hK_ K_)))
      refine zOv (α:=Nat) (fun (k:Nat) f d h'=>k≤m∧f 0=a∧f 1=ii (L:Int)∧f 5=vo∧f 9=ii (k:Int)∧d=[] ∧
        ∃ M rows w,Ows h M io (rowVs h L m ps) vo∧RowsAt M L m ps rows∧(SolF L m 0 (eqs L s) ↔ SolF L m k rows)∧h.clock≤w∧w≤h.clock+M.length∧h'=X h M w) (fun k=>m - k) ?_ (m+1) 0 (by omega) ?_
      · clear ows rat hw g0 g1 g5 g6
        rintro k f d h' ⟨hk,g0,g1,g5,g9,rfl,M,rows,w,ows,rat,hso,hw,hwl,rfl⟩
        by_cases hkm:k<m
        · obtain ⟨hixk,hldk⟩:=ows.row wf (r:=k) hkm
          have hck:AV.cells (rowV h L ps k)=[rowV h L ps k]:=rfl
          have hok:oneB (rowV h L ps k)=true:=rfl
          (repeat' (first
  | (with_reducible first|refine zJx ?_|refine zGv ?_|refine zFz ?_|refine zEv ?_|refine zFy ?_|refine zJw ?_|refine zHz ?_|refine zCz ?_|refine zDw ?_|refine zCy ?_|refine zCv ?_|refine zEx ?_|refine zDz ?_|refine zCx ?_|refine zBx ?_|refine zEz ?_|refine zEy ?_|refine zAw ?_|refine zBy ?_)
  | refine zDy ?_|refine zEw rfl ?_|refine zIv ?_|refine zJy ?_
  | ((first|refine zGw rfl rfl rfl rfl rfl fun K_ hK_=>?_|refine zGx rfl rfl rfl rfl rfl fun K_ hK_=>?_);simp only [zAz,zDx,zGz,↓reduceIte,reduceCtorEq,Nat.reduceEqDiff,Bool.not_true,Bool.not_false];refine hK_ _ ?_;clear hK_ K_)
  | refine zDv (by decide) ?_
  | ((try first|refine zKy rfl rfl rfl ?_|refine zIw rfl rfl ?_|refine zKx rfl rfl rfl ?_|refine zJz rfl rfl ?_);(refine zIx fun Q_ hQ_=>?_;simp (disch:=first|omega|(simp only [List.length_cons,List.length_nil,List.length_append];omega)) only [bb,bp,zLz,↓reduceIte,reduceCtorEq,Nat.reduceEqDiff,Nat.reduceLT,Nat.reduceLeDiff,Nat.reduceAdd,Nat.reduceMul,Nat.reduceSub,Nat.reduceBEq,Int.reduceToNat,cond_true,cond_false,eq_self,beq_self_eq_true,hl,hlo,f1,f2,go1,go2,g0,g1,g5,g9,zFw wf,zGy wf,zBv wf,zFx wf,zAy wf,zAx,tEvZ30,zIy,zIz,zHv,zHw,zAv wf];first|(refine zCw (Q:=Q_) (fun hp_=>?_) (fun hp_=>?_) <;> first|(exfalso;omega)|(refine hQ_ _ _ ?_;clear hQ_ Q_))|(refine zBw (Q:=Q_) (fun hp_=>?_) (fun hp_=>?_) <;> first|(exfalso;omega)|(refine hQ_ _ _ ?_;clear hQ_ Q_))|(refine hQ_ _ _ ?_;clear hQ_ Q_)))
  | (refine zHy fun K_ hK_=>?_;simp (disch:=omega) only [zFv,zAz,zHx,↓reduceIte,reduceCtorEq,Nat.reduceEqDiff,Nat.reduceLT];refine hK_ _ ?_;clear hK_ K_)))
          refine zOv (α:=Nat) (fun (p:Nat) f d h'=>p≤L∧(∀ j,j<p→rows k j=false)∧f 0=a∧f 1=ii (L:Int)∧f 5=vo∧f 9=ii (k:Int)∧f 10=ii (p:Int)∧d=[]∧h'=X h M w) (fun p=>L - p) ?_ (L+1) 0 (by omega) ?_
          · clear g0 g1 g5 g9
            rintro p f d h' ⟨hp,hz,g0,g1,g5,g9,g10,rfl,rfl⟩
            obtain ⟨hixb,hldb⟩:=rat.bit wf (r:=k) (j:=p) hkm hp
            by_cases hpL:p<L
            · cases hb:rows k p
              · have hld0 : ∀ w,load1 (nx h (ps k)) p (X h M w)=some (ii 0):=fun w=>by rw [hldb w,hb];rfl
                (repeat' (first
  | (with_reducible first|refine zJx ?_|refine zGv ?_|refine zFz ?_|refine zEv ?_|refine zFy ?_|refine zJw ?_|refine zHz ?_|refine zCz ?_|refine zDw ?_|refine zCy ?_|refine zCv ?_|refine zEx ?_|refine zDz ?_|refine zCx ?_|refine zBx ?_|refine zEz ?_|refine zEy ?_|refine zAw ?_|refine zBy ?_)
  | refine zDy ?_|refine zEw rfl ?_|refine zIv ?_|refine zJy ?_
  | ((first|refine zGw rfl rfl rfl rfl rfl fun K_ hK_=>?_|refine zGx rfl rfl rfl rfl rfl fun K_ hK_=>?_);simp only [zAz,zDx,zGz,↓reduceIte,reduceCtorEq,Nat.reduceEqDiff,Bool.not_true,Bool.not_false];refine hK_ _ ?_;clear hK_ K_)
  | refine zDv (by decide) ?_
  | ((try first|refine zKy rfl rfl rfl ?_|refine zIw rfl rfl ?_|refine zKx rfl rfl rfl ?_|refine zJz rfl rfl ?_);(refine zIx fun Q_ hQ_=>?_;simp (disch:=first|omega|(simp only [List.length_cons,List.length_nil,List.length_append];omega)) only [bb,bp,zLz,↓reduceIte,reduceCtorEq,Nat.reduceEqDiff,Nat.reduceLT,Nat.reduceLeDiff,Nat.reduceAdd,Nat.reduceMul,Nat.reduceSub,Nat.reduceBEq,Int.reduceToNat,cond_true,cond_false,eq_self,beq_self_eq_true,hl,hlo,f1,f2,go1,go2,g0,g1,g5,g9,g10,hixk,hldk,hck,hok,hixb,hld0,zFw wf,zGy wf,zBv wf,zFx wf,zAy wf,zAx,tEvZ30,zIy,zIz,zHv,zHw,zAv wf];first|(refine zCw (Q:=Q_) (fun hp_=>?_) (fun hp_=>?_) <;> first|(exfalso;omega)|(refine hQ_ _ _ ?_;clear hQ_ Q_))|(refine zBw (Q:=Q_) (fun hp_=>?_) (fun hp_=>?_) <;> first|(exfalso;omega)|(refine hQ_ _ _ ?_;clear hQ_ Q_))|(refine hQ_ _ _ ?_;clear hQ_ Q_)))
  | (refine zHy fun K_ hK_=>?_;simp (disch:=omega) only [zFv,zAz,zHx,↓reduceIte,reduceCtorEq,Nat.reduceEqDiff,Nat.reduceLT];refine hK_ _ ?_;clear hK_ K_)))
                exact zKw (p+1) (by omega) ⟨hpL,fun j hj=>by
                  by_cases e:j=p
                  · rw [e,hb]
                  · exact hz j (by omega),by simp only [zAz,↓reduceIte,reduceCtorEq,Nat.reduceEqDiff];exact g0,by simp only [zAz,↓reduceIte,reduceCtorEq,Nat.reduceEqDiff];exact g1,by simp only [zAz,↓reduceIte,reduceCtorEq,Nat.reduceEqDiff];exact g5,by simp only [zAz,↓reduceIte,reduceCtorEq,Nat.reduceEqDiff];exact g9,by simp only [zAz,↓reduceIte,reduceCtorEq,Nat.reduceEqDiff];rfl,rfl,rfl⟩
              · have hld1 : ∀ w,load1 (nx h (ps k)) p (X h M w)=some (ii 1):=fun w=>by rw [hldb w,hb];rfl
                (repeat' (first
  | (with_reducible first|refine zJx ?_|refine zGv ?_|refine zFz ?_|refine zEv ?_|refine zFy ?_|refine zJw ?_|refine zHz ?_|refine zCz ?_|refine zDw ?_|refine zCy ?_|refine zCv ?_|refine zEx ?_|refine zDz ?_|refine zCx ?_|refine zBx ?_|refine zEz ?_|refine zEy ?_|refine zAw ?_|refine zBy ?_)
  | refine zDy ?_|refine zEw rfl ?_|refine zIv ?_|refine zJy ?_
  | ((first|refine zGw rfl rfl rfl rfl rfl fun K_ hK_=>?_|refine zGx rfl rfl rfl rfl rfl fun K_ hK_=>?_);simp only [zAz,zDx,zGz,↓reduceIte,reduceCtorEq,Nat.reduceEqDiff,Bool.not_true,Bool.not_false];refine hK_ _ ?_;clear hK_ K_)
  | refine zDv (by decide) ?_
  | ((try first|refine zKy rfl rfl rfl ?_|refine zIw rfl rfl ?_|refine zKx rfl rfl rfl ?_|refine zJz rfl rfl ?_);(refine zIx fun Q_ hQ_=>?_;simp (disch:=first|omega|(simp only [List.length_cons,List.length_nil,List.length_append];omega)) only [bb,bp,zLz,↓reduceIte,reduceCtorEq,Nat.reduceEqDiff,Nat.reduceLT,Nat.reduceLeDiff,Nat.reduceAdd,Nat.reduceMul,Nat.reduceSub,Nat.reduceBEq,Int.reduceToNat,cond_true,cond_false,eq_self,beq_self_eq_true,hl,hlo,f1,f2,go1,go2,g0,g1,g5,g9,g10,hixk,hldk,hck,hok,hixb,hld1,zFw wf,zGy wf,zBv wf,zFx wf,zAy wf,zAx,tEvZ30,zIy,zIz,zHv,zHw,zAv wf];first|(refine zCw (Q:=Q_) (fun hp_=>?_) (fun hp_=>?_) <;> first|(exfalso;omega)|(refine hQ_ _ _ ?_;clear hQ_ Q_))|(refine zBw (Q:=Q_) (fun hp_=>?_) (fun hp_=>?_) <;> first|(exfalso;omega)|(refine hQ_ _ _ ?_;clear hQ_ Q_))|(refine hQ_ _ _ ?_;clear hQ_ Q_)))
  | (refine zHy fun K_ hK_=>?_;simp (disch:=omega) only [zFv,zAz,zHx,↓reduceIte,reduceCtorEq,Nat.reduceEqDiff,Nat.reduceLT];refine hK_ _ ?_;clear hK_ K_)))
                refine zOv (α:=Nat) (fun (r:Nat) f d h'=>k<r∧r≤m∧f 0=a∧f 1=ii (L:Int)∧f 5=vo∧f 9=ii (k:Int)∧f 10=ii (p:Int)∧f 11=ii (r:Int)∧d=[] ∧
                  ∃ M w,Ows h M io (rowVs h L m ps) vo∧RowsAt M L m ps (elimR rows k p r)∧h.clock≤w∧w≤h.clock+M.length∧h'=X h M w) (fun r=>m - r) ?_ (m+1) (k+1) (by omega) ?_
                · clear g0 g1 g5 g9 g10
                  rintro r f d h' ⟨hkr,hr,g0,g1,g5,g9,g10,g11,rfl,M,w,ows,rat,hw,hwl,rfl⟩
                  by_cases hrm:r<m
                  · obtain ⟨hixr,hldr⟩:=ows.row wf (r:=r) hrm
                    have hcr:AV.cells (rowV h L ps r)=[rowV h L ps r]:=rfl
                    have hor:oneB (rowV h L ps r)=true:=rfl
                    obtain ⟨hixc,hldc⟩:=rat.bit wf (r:=r) (j:=p) hrm hp
                    have hee:elimR rows k p r r p=rows r p:=by unfold elimR;rw [if_neg (by omega)]
                    rw [hee] at hldc
                    cases hc:rows r p
                    · have hld0 : ∀ w,load1 (nx h (ps r)) p (X h M w)=some (ii 0):=fun w=>by rw [hldc w,hc];rfl
                      (repeat' (first
  | (with_reducible first|refine zJx ?_|refine zGv ?_|refine zFz ?_|refine zEv ?_|refine zFy ?_|refine zJw ?_|refine zHz ?_|refine zCz ?_|refine zDw ?_|refine zCy ?_|refine zCv ?_|refine zEx ?_|refine zDz ?_|refine zCx ?_|refine zBx ?_|refine zEz ?_|refine zEy ?_|refine zAw ?_|refine zBy ?_)
  | refine zDy ?_|refine zEw rfl ?_|refine zIv ?_|refine zJy ?_
  | ((first|refine zGw rfl rfl rfl rfl rfl fun K_ hK_=>?_|refine zGx rfl rfl rfl rfl rfl fun K_ hK_=>?_);simp only [zAz,zDx,zGz,↓reduceIte,reduceCtorEq,Nat.reduceEqDiff,Bool.not_true,Bool.not_false];refine hK_ _ ?_;clear hK_ K_)
  | refine zDv (by decide) ?_
  | ((try first|refine zKy rfl rfl rfl ?_|refine zIw rfl rfl ?_|refine zKx rfl rfl rfl ?_|refine zJz rfl rfl ?_);(refine zIx fun Q_ hQ_=>?_;simp (disch:=first|omega|(simp only [List.length_cons,List.length_nil,List.length_append];omega)) only [bb,bp,zLz,↓reduceIte,reduceCtorEq,Nat.reduceEqDiff,Nat.reduceLT,Nat.reduceLeDiff,Nat.reduceAdd,Nat.reduceMul,Nat.reduceSub,Nat.reduceBEq,Int.reduceToNat,cond_true,cond_false,eq_self,beq_self_eq_true,hl,hlo,f1,f2,go1,go2,g0,g1,g5,g9,g10,g11,hixr,hldr,hcr,hor,hixc,hld0,zFw wf,zGy wf,zBv wf,zFx wf,zAy wf,zAx,tEvZ30,zIy,zIz,zHv,zHw,zAv wf];first|(refine zCw (Q:=Q_) (fun hp_=>?_) (fun hp_=>?_) <;> first|(exfalso;omega)|(refine hQ_ _ _ ?_;clear hQ_ Q_))|(refine zBw (Q:=Q_) (fun hp_=>?_) (fun hp_=>?_) <;> first|(exfalso;omega)|(refine hQ_ _ _ ?_;clear hQ_ Q_))|(refine hQ_ _ _ ?_;clear hQ_ Q_)))
  | (refine zHy fun K_ hK_=>?_;simp (disch:=omega) only [zFv,zAz,zHx,↓reduceIte,reduceCtorEq,Nat.reduceEqDiff,Nat.reduceLT];refine hK_ _ ?_;clear hK_ K_)))
                      exact zKw (r+1) (by omega) ⟨by omega,hrm,by simp only [zAz,↓reduceIte,reduceCtorEq,Nat.reduceEqDiff];exact g0,by simp only [zAz,↓reduceIte,reduceCtorEq,Nat.reduceEqDiff];exact g1,by simp only [zAz,↓reduceIte,reduceCtorEq,Nat.reduceEqDiff];exact g5,by simp only [zAz,↓reduceIte,reduceCtorEq,Nat.reduceEqDiff];exact g9,by simp only [zAz,↓reduceIte,reduceCtorEq,Nat.reduceEqDiff];exact g10,by simp only [zAz,↓reduceIte,reduceCtorEq,Nat.reduceEqDiff];rfl,rfl,M,w,ows,rat.congr fun q hq j hj=>elimR_skip hc q j,hw,hwl,rfl⟩
                    · have hld2 : ∀ w,load1 (nx h (ps r)) p (X h M w)=some (ii 1):=fun w=>by rw [hldc w,hc];rfl
                      (repeat' (first
  | (with_reducible first|refine zJx ?_|refine zGv ?_|refine zFz ?_|refine zEv ?_|refine zFy ?_|refine zJw ?_|refine zHz ?_|refine zCz ?_|refine zDw ?_|refine zCy ?_|refine zCv ?_|refine zEx ?_|refine zDz ?_|refine zCx ?_|refine zBx ?_|refine zEz ?_|refine zEy ?_|refine zAw ?_|refine zBy ?_)
  | refine zDy ?_|refine zEw rfl ?_|refine zIv ?_|refine zJy ?_
  | ((first|refine zGw rfl rfl rfl rfl rfl fun K_ hK_=>?_|refine zGx rfl rfl rfl rfl rfl fun K_ hK_=>?_);simp only [zAz,zDx,zGz,↓reduceIte,reduceCtorEq,Nat.reduceEqDiff,Bool.not_true,Bool.not_false];refine hK_ _ ?_;clear hK_ K_)
  | refine zDv (by decide) ?_
  | ((try first|refine zKy rfl rfl rfl ?_|refine zIw rfl rfl ?_|refine zKx rfl rfl rfl ?_|refine zJz rfl rfl ?_);(refine zIx fun Q_ hQ_=>?_;simp (disch:=first|omega|(simp only [List.length_cons,List.length_nil,List.length_append];omega)) only [bb,bp,zLz,↓reduceIte,reduceCtorEq,Nat.reduceEqDiff,Nat.reduceLT,Nat.reduceLeDiff,Nat.reduceAdd,Nat.reduceMul,Nat.reduceSub,Nat.reduceBEq,Int.reduceToNat,cond_true,cond_false,eq_self,beq_self_eq_true,hl,hlo,f1,f2,go1,go2,g0,g1,g5,g9,g10,g11,hixr,hldr,hcr,hor,hixc,hld2,zFw wf,zGy wf,zBv wf,zFx wf,zAy wf,zAx,tEvZ30,zIy,zIz,zHv,zHw,zAv wf];first|(refine zCw (Q:=Q_) (fun hp_=>?_) (fun hp_=>?_) <;> first|(exfalso;omega)|(refine hQ_ _ _ ?_;clear hQ_ Q_))|(refine zBw (Q:=Q_) (fun hp_=>?_) (fun hp_=>?_) <;> first|(exfalso;omega)|(refine hQ_ _ _ ?_;clear hQ_ Q_))|(refine hQ_ _ _ ?_;clear hQ_ Q_)))
  | (refine zHy fun K_ hK_=>?_;simp (disch:=omega) only [zFv,zAz,zHx,↓reduceIte,reduceCtorEq,Nat.reduceEqDiff,Nat.reduceLT];refine hK_ _ ?_;clear hK_ K_)))
                      refine zOv (α:=Nat) (fun (c:Nat) f d h'=>c≤L+1∧f 0=a∧f 1=ii (L:Int)∧f 5=vo∧f 9=ii (k:Int)∧f 10=ii (p:Int)∧f 11=ii (r:Int)∧f 12=ii (c:Int)∧d=[] ∧
                        ∃ M w,Ows h M io (rowVs h L m ps) vo∧RowsAt M L m ps (halfR (elimR rows k p r) k r c)∧h.clock≤w∧w≤h.clock+M.length∧h'=X h M w) (fun c=>L+1 - c) ?_ (L+2) 0 (by omega) ?_
                      · clear g0 g1 g5 g9 g10 g11
                        rintro c f d h' ⟨hcl,g0,g1,g5,g9,g10,g11,g12,rfl,M,w,ows,rat,hw,hwl,rfl⟩
                        by_cases hcL:c≤L
                        · obtain ⟨hixr,hldr⟩:=ows.row wf (r:=r) hrm
                          obtain ⟨hixk,hldk⟩:=ows.row wf (r:=k) hkm
                          obtain ⟨hix1,hld1⟩:=rat.bit wf (r:=r) (j:=c) hrm hcL
                          obtain ⟨hix2,hld2⟩:=rat.bit wf (r:=k) (j:=c) hkm hcL
                          have e1:halfR (elimR rows k p r) k r c r c=elimR rows k p r r c:=by unfold halfR;rw [if_neg (by omega)]
                          have e2:halfR (elimR rows k p r) k r c k c=elimR rows k p r k c:=by unfold halfR;rw [if_neg (by omega)]
                          rw [e1] at hld1
                          rw [e2] at hld2
                          obtain ⟨M2,rat2,hl2,hk2,hst⟩:=rat.store wf hrm hcL (elimR rows k p r r c ^^ elimR rows k p r k c)
                          have ows2:Ows h M2 io (rowVs h L m ps) vo:=ows.keep fun h0 o ho=>by
                            rw [hk2 io fun e=>((ows.type (rat.at_ r hrm)).resolve_left h0) e.symm];exact ho
                          have hadd:=add_bi (elimR rows k p r r c) (elimR rows k p r k c)
                          have n2:(2:Int)≠0:=by decide
                          have hle:(c:Int)≤(L:Int):=by omega
                          have hob:oneB (bi (elimR rows k p r r c ^^ elimR rows k p r k c))=true:=rfl
                          have hob2:AV.cells (bi (elimR rows k p r r c ^^ elimR rows k p r k c))=[bi (elimR rows k p r r c ^^ elimR rows k p r k c)]:=rfl
                          have hx0:(0:Int)≤(((elimR rows k p r r c).toNat:Nat):Int)∧(((elimR rows k p r r c).toNat:Nat):Int)≤1:=by cases elimR rows k p r r c <;> simp
                          have hy0:(0:Int)≤(((elimR rows k p r k c).toNat:Nat):Int)∧(((elimR rows k p r k c).toNat:Nat):Int)≤1:=by cases elimR rows k p r k c <;> simp
                          generalize hx1:(((elimR rows k p r r c).toNat:Nat):Int)=x1 at *
                          generalize hy1:(((elimR rows k p r k c).toNat:Nat):Int)=y1 at *
                          have hld1 : ∀ w,load1 (nx h (ps r)) c (X h M w)=some (ii x1):=fun w=>by rw [hld1 w,← hx1]
                          have hld2 : ∀ w,load1 (nx h (ps k)) c (X h M w)=some (ii y1):=fun w=>by rw [hld2 w,← hy1]
                          have hck:AV.cells (rowV h L ps k)=[rowV h L ps k]:=rfl
                          have hok:oneB (rowV h L ps k)=true:=rfl
                          (repeat' (first
  | (with_reducible first|refine zJx ?_|refine zGv ?_|refine zFz ?_|refine zEv ?_|refine zFy ?_|refine zJw ?_|refine zHz ?_|refine zCz ?_|refine zDw ?_|refine zCy ?_|refine zCv ?_|refine zEx ?_|refine zDz ?_|refine zCx ?_|refine zBx ?_|refine zEz ?_|refine zEy ?_|refine zAw ?_|refine zBy ?_)
  | refine zDy ?_|refine zEw rfl ?_|refine zIv ?_|refine zJy ?_
  | ((first|refine zGw rfl rfl rfl rfl rfl fun K_ hK_=>?_|refine zGx rfl rfl rfl rfl rfl fun K_ hK_=>?_);simp only [zAz,zDx,zGz,↓reduceIte,reduceCtorEq,Nat.reduceEqDiff,Bool.not_true,Bool.not_false];refine hK_ _ ?_;clear hK_ K_)
  | refine zDv (by decide) ?_
  | ((try first|refine zKy rfl rfl rfl ?_|refine zIw rfl rfl ?_|refine zKx rfl rfl rfl ?_|refine zJz rfl rfl ?_);(refine zIx fun Q_ hQ_=>?_;simp (disch:=first|omega|(simp only [List.length_cons,List.length_nil,List.length_append];omega)) only [bb,bp,zLz,↓reduceIte,reduceCtorEq,Nat.reduceEqDiff,Nat.reduceLT,Nat.reduceLeDiff,Nat.reduceAdd,Nat.reduceMul,Nat.reduceSub,Nat.reduceBEq,Int.reduceToNat,cond_true,cond_false,eq_self,beq_self_eq_true,hl,hlo,f1,f2,go1,go2,g0,g1,g5,g9,g10,g11,g12,zFw wf,zGy wf,zBv wf,zFx wf,zAy wf,zAx,tEvZ30,zIy,zIz,zHv,zHw,zAv wf];first|(refine zCw (Q:=Q_) (fun hp_=>?_) (fun hp_=>?_) <;> first|(exfalso;omega)|(refine hQ_ _ _ ?_;clear hQ_ Q_))|(refine zBw (Q:=Q_) (fun hp_=>?_) (fun hp_=>?_) <;> first|(exfalso;omega)|(refine hQ_ _ _ ?_;clear hQ_ Q_))|(refine hQ_ _ _ ?_;clear hQ_ Q_)))
  | (refine zHy fun K_ hK_=>?_;simp (disch:=omega) only [zFv,zAz,zHx,↓reduceIte,reduceCtorEq,Nat.reduceEqDiff,Nat.reduceLT];refine hK_ _ ?_;clear hK_ K_)))
                          refine zOz [.no,.no,.no,.no,.no,.no,.no,.no,.no,.no,.no,.no,.no,.no,.no,.no,.no,.no,.no,.no,.no,.full,.full] (by kernel_rfl) ?_
                          (repeat' (first
  | (with_reducible first|refine zJx ?_|refine zGv ?_|refine zFz ?_|refine zEv ?_|refine zFy ?_|refine zJw ?_|refine zHz ?_|refine zCz ?_|refine zDw ?_|refine zCy ?_|refine zCv ?_|refine zEx ?_|refine zDz ?_|refine zCx ?_|refine zBx ?_|refine zEz ?_|refine zEy ?_|refine zAw ?_|refine zBy ?_)
  | refine zDy ?_|refine zEw rfl ?_|refine zIv ?_|refine zJy ?_
  | ((first|refine zGw rfl rfl rfl rfl rfl fun K_ hK_=>?_|refine zGx rfl rfl rfl rfl rfl fun K_ hK_=>?_);simp only [zAz,zDx,zGz,↓reduceIte,reduceCtorEq,Nat.reduceEqDiff,Bool.not_true,Bool.not_false];refine hK_ _ ?_;clear hK_ K_)
  | refine zDv (by decide) ?_
  | ((try first|refine zKy rfl rfl rfl ?_|refine zIw rfl rfl ?_|refine zKx rfl rfl rfl ?_|refine zJz rfl rfl ?_);(refine zIx fun Q_ hQ_=>?_;simp (disch:=first|omega|(simp only [List.length_cons,List.length_nil,List.length_append];omega)) only [bb,bp,zLz,↓reduceIte,reduceCtorEq,Nat.reduceEqDiff,Nat.reduceLT,Nat.reduceLeDiff,Nat.reduceAdd,Nat.reduceMul,Nat.reduceSub,Nat.reduceBEq,Int.reduceToNat,cond_true,cond_false,eq_self,beq_self_eq_true,hl,hlo,f1,f2,go1,go2,g0,g1,g5,g9,g10,g11,g12,hixr,hldr,hixk,hldk,hcr,hor,hck,hok,hix1,hld1,hix2,hld2,xUy n2,hadd,hob,hob2,hst,zFw wf,zGy wf,tEvZ30,zIy,zIz,zHv,zHw,zAv wf];first|(refine zCw (Q:=Q_) (fun hp_=>?_) (fun hp_=>?_) <;> first|(exfalso;omega)|(refine hQ_ _ _ ?_;clear hQ_ Q_))|(refine zBw (Q:=Q_) (fun hp_=>?_) (fun hp_=>?_) <;> first|(exfalso;omega)|(refine hQ_ _ _ ?_;clear hQ_ Q_))|(refine hQ_ _ _ ?_;clear hQ_ Q_)))
  | (refine zHy fun K_ hK_=>?_;simp (disch:=omega) only [zFv,zAz,zHx,↓reduceIte,reduceCtorEq,Nat.reduceEqDiff,Nat.reduceLT];refine hK_ _ ?_;clear hK_ K_)))
                          exact zKw (c+1) (by omega) ⟨by omega,by simp only [zAz,↓reduceIte,reduceCtorEq,Nat.reduceEqDiff];exact g0,by simp only [zAz,↓reduceIte,reduceCtorEq,Nat.reduceEqDiff];exact g1,by simp only [zAz,↓reduceIte,reduceCtorEq,Nat.reduceEqDiff];exact g5,by simp only [zAz,↓reduceIte,reduceCtorEq,Nat.reduceEqDiff];exact g9,by simp only [zAz,↓reduceIte,reduceCtorEq,Nat.reduceEqDiff];exact g10,by simp only [zAz,↓reduceIte,reduceCtorEq,Nat.reduceEqDiff];exact g11,by simp only [zAz,↓reduceIte,reduceCtorEq,Nat.reduceEqDiff];rfl,rfl,M2,_,ows2,rat2.congr fun q hq j hj=>halfR_succ _ _ _ _ q j,by omega,by omega,rfl⟩
                        · have hce:c=L+1:=by omega
                          have hnle : ¬ (c:Int)≤(L:Int):=by omega
                          (repeat' (first
  | (with_reducible first|refine zJx ?_|refine zGv ?_|refine zFz ?_|refine zEv ?_|refine zFy ?_|refine zJw ?_|refine zHz ?_|refine zCz ?_|refine zDw ?_|refine zCy ?_|refine zCv ?_|refine zEx ?_|refine zDz ?_|refine zCx ?_|refine zBx ?_|refine zEz ?_|refine zEy ?_|refine zAw ?_|refine zBy ?_)
  | refine zDy ?_|refine zEw rfl ?_|refine zIv ?_|refine zJy ?_
  | ((first|refine zGw rfl rfl rfl rfl rfl fun K_ hK_=>?_|refine zGx rfl rfl rfl rfl rfl fun K_ hK_=>?_);simp only [zAz,zDx,zGz,↓reduceIte,reduceCtorEq,Nat.reduceEqDiff,Bool.not_true,Bool.not_false];refine hK_ _ ?_;clear hK_ K_)
  | refine zDv (by decide) ?_
  | ((try first|refine zKy rfl rfl rfl ?_|refine zIw rfl rfl ?_|refine zKx rfl rfl rfl ?_|refine zJz rfl rfl ?_);(refine zIx fun Q_ hQ_=>?_;simp (disch:=first|omega|(simp only [List.length_cons,List.length_nil,List.length_append];omega)) only [bb,bp,zLz,↓reduceIte,reduceCtorEq,Nat.reduceEqDiff,Nat.reduceLT,Nat.reduceLeDiff,Nat.reduceAdd,Nat.reduceMul,Nat.reduceSub,Nat.reduceBEq,Int.reduceToNat,cond_true,cond_false,eq_self,beq_self_eq_true,hl,hlo,f1,f2,go1,go2,g0,g1,g5,g9,g10,g11,g12,zFw wf,zGy wf,zBv wf,zFx wf,zAy wf,zAx,tEvZ30,zIy,zIz,zHv,zHw,zAv wf];first|(refine zCw (Q:=Q_) (fun hp_=>?_) (fun hp_=>?_) <;> first|(exfalso;omega)|(refine hQ_ _ _ ?_;clear hQ_ Q_))|(refine zBw (Q:=Q_) (fun hp_=>?_) (fun hp_=>?_) <;> first|(exfalso;omega)|(refine hQ_ _ _ ?_;clear hQ_ Q_))|(refine hQ_ _ _ ?_;clear hQ_ Q_)))
  | (refine zHy fun K_ hK_=>?_;simp (disch:=omega) only [zFv,zAz,zHx,↓reduceIte,reduceCtorEq,Nat.reduceEqDiff,Nat.reduceLT];refine hK_ _ ?_;clear hK_ K_)))
                          exact zKw (r+1) (by omega) ⟨by omega,hrm,by simp only [zAz,↓reduceIte,reduceCtorEq,Nat.reduceEqDiff];exact g0,by simp only [zAz,↓reduceIte,reduceCtorEq,Nat.reduceEqDiff];exact g1,by simp only [zAz,↓reduceIte,reduceCtorEq,Nat.reduceEqDiff];exact g5,by simp only [zAz,↓reduceIte,reduceCtorEq,Nat.reduceEqDiff];exact g9,by simp only [zAz,↓reduceIte,reduceCtorEq,Nat.reduceEqDiff];exact g10,by simp only [zAz,↓reduceIte,reduceCtorEq,Nat.reduceEqDiff];rfl,rfl,M,w,ows,rat.congr fun q hq j hj=>elimR_half hkr hc (by omega) q hj,hw,hwl,rfl⟩
                      · exact ⟨Nat.zero_le _,by simp only [zAz,↓reduceIte,reduceCtorEq,Nat.reduceEqDiff];exact g0,by simp only [zAz,↓reduceIte,reduceCtorEq,Nat.reduceEqDiff];exact g1,by simp only [zAz,↓reduceIte,reduceCtorEq,Nat.reduceEqDiff];exact g5,by simp only [zAz,↓reduceIte,reduceCtorEq,Nat.reduceEqDiff];exact g9,by simp only [zAz,↓reduceIte,reduceCtorEq,Nat.reduceEqDiff];exact g10,by simp only [zAz,↓reduceIte,reduceCtorEq,Nat.reduceEqDiff];exact g11,by simp only [zAz,↓reduceIte,reduceCtorEq,Nat.reduceEqDiff];rfl,rfl,M,w,ows,rat.congr fun q hq j hj=>by unfold halfR;rw [if_neg (by omega)],hw,hwl,rfl⟩
                  · have hre:r=m:=by omega
                    subst hre
                    (repeat' (first
  | (with_reducible first|refine zJx ?_|refine zGv ?_|refine zFz ?_|refine zEv ?_|refine zFy ?_|refine zJw ?_|refine zHz ?_|refine zCz ?_|refine zDw ?_|refine zCy ?_|refine zCv ?_|refine zEx ?_|refine zDz ?_|refine zCx ?_|refine zBx ?_|refine zEz ?_|refine zEy ?_|refine zAw ?_|refine zBy ?_)
  | refine zDy ?_|refine zEw rfl ?_|refine zIv ?_|refine zJy ?_
  | ((first|refine zGw rfl rfl rfl rfl rfl fun K_ hK_=>?_|refine zGx rfl rfl rfl rfl rfl fun K_ hK_=>?_);simp only [zAz,zDx,zGz,↓reduceIte,reduceCtorEq,Nat.reduceEqDiff,Bool.not_true,Bool.not_false];refine hK_ _ ?_;clear hK_ K_)
  | refine zDv (by decide) ?_
  | ((try first|refine zKy rfl rfl rfl ?_|refine zIw rfl rfl ?_|refine zKx rfl rfl rfl ?_|refine zJz rfl rfl ?_);(refine zIx fun Q_ hQ_=>?_;simp (disch:=first|omega|(simp only [List.length_cons,List.length_nil,List.length_append];omega)) only [bb,bp,zLz,↓reduceIte,reduceCtorEq,Nat.reduceEqDiff,Nat.reduceLT,Nat.reduceLeDiff,Nat.reduceAdd,Nat.reduceMul,Nat.reduceSub,Nat.reduceBEq,Int.reduceToNat,cond_true,cond_false,eq_self,beq_self_eq_true,hl,hlo,f1,f2,go1,go2,g0,g1,g5,g9,g10,g11,zFw wf,zGy wf,zBv wf,zFx wf,zAy wf,zAx,tEvZ30,zIy,zIz,zHv,zHw,zAv wf];first|(refine zCw (Q:=Q_) (fun hp_=>?_) (fun hp_=>?_) <;> first|(exfalso;omega)|(refine hQ_ _ _ ?_;clear hQ_ Q_))|(refine zBw (Q:=Q_) (fun hp_=>?_) (fun hp_=>?_) <;> first|(exfalso;omega)|(refine hQ_ _ _ ?_;clear hQ_ Q_))|(refine hQ_ _ _ ?_;clear hQ_ Q_)))
  | (refine zHy fun K_ hK_=>?_;simp (disch:=omega) only [zFv,zAz,zHx,↓reduceIte,reduceCtorEq,Nat.reduceEqDiff,Nat.reduceLT];refine hK_ _ ?_;clear hK_ K_)))
                    exact zKw (k+1) (by omega) ⟨hkm,by simp only [zAz,↓reduceIte,reduceCtorEq,Nat.reduceEqDiff];exact g0,by simp only [zAz,↓reduceIte,reduceCtorEq,Nat.reduceEqDiff];exact g1,by simp only [zAz,↓reduceIte,reduceCtorEq,Nat.reduceEqDiff];exact g5,by simp only [zAz,↓reduceIte,reduceCtorEq,Nat.reduceEqDiff];rfl,rfl,M,elimR rows k p r,w,ows,rat,hso.trans (sol_elim hkm hpL hb fun q h1 h2 j hj=>by
                      unfold elimR
                      by_cases e:rows q p=true
                      · rw [if_pos ⟨h1,h2,e⟩,if_pos e]
                      · rw [if_neg fun x=>e x.2.2,if_neg e]),hw,hwl,rfl⟩
                · exact ⟨by omega,by omega,by simp only [zAz,↓reduceIte,reduceCtorEq,Nat.reduceEqDiff];exact g0,by simp only [zAz,↓reduceIte,reduceCtorEq,Nat.reduceEqDiff];exact g1,by simp only [zAz,↓reduceIte,reduceCtorEq,Nat.reduceEqDiff];exact g5,by simp only [zAz,↓reduceIte,reduceCtorEq,Nat.reduceEqDiff];exact g9,by simp only [zAz,↓reduceIte,reduceCtorEq,Nat.reduceEqDiff];exact g10,by simp only [zAz,↓reduceIte,reduceCtorEq,Nat.reduceEqDiff];rfl,rfl,M,w,ows,rat.congr fun q hq j hj=>by unfold elimR;rw [if_neg (by omega)],hw,hwl,rfl⟩
            · have hpe:p=L:=by omega
              cases hb:rows k p
              · have hld0 : ∀ w,load1 (nx h (ps k)) p (X h M w)=some (ii 0):=fun w=>by rw [hldb w,hb];rfl
                subst hpe
                (repeat' (first
  | (with_reducible first|refine zJx ?_|refine zGv ?_|refine zFz ?_|refine zEv ?_|refine zFy ?_|refine zJw ?_|refine zHz ?_|refine zCz ?_|refine zDw ?_|refine zCy ?_|refine zCv ?_|refine zEx ?_|refine zDz ?_|refine zCx ?_|refine zBx ?_|refine zEz ?_|refine zEy ?_|refine zAw ?_|refine zBy ?_)
  | refine zDy ?_|refine zEw rfl ?_|refine zIv ?_|refine zJy ?_
  | ((first|refine zGw rfl rfl rfl rfl rfl fun K_ hK_=>?_|refine zGx rfl rfl rfl rfl rfl fun K_ hK_=>?_);simp only [zAz,zDx,zGz,↓reduceIte,reduceCtorEq,Nat.reduceEqDiff,Bool.not_true,Bool.not_false];refine hK_ _ ?_;clear hK_ K_)
  | refine zDv (by decide) ?_
  | ((try first|refine zKy rfl rfl rfl ?_|refine zIw rfl rfl ?_|refine zKx rfl rfl rfl ?_|refine zJz rfl rfl ?_);(refine zIx fun Q_ hQ_=>?_;simp (disch:=first|omega|(simp only [List.length_cons,List.length_nil,List.length_append];omega)) only [bb,bp,zLz,↓reduceIte,reduceCtorEq,Nat.reduceEqDiff,Nat.reduceLT,Nat.reduceLeDiff,Nat.reduceAdd,Nat.reduceMul,Nat.reduceSub,Nat.reduceBEq,Int.reduceToNat,cond_true,cond_false,eq_self,beq_self_eq_true,hl,hlo,f1,f2,go1,go2,g0,g1,g5,g9,g10,hixk,hldk,hck,hok,hixb,hld0,zFw wf,zGy wf,zBv wf,zFx wf,zAy wf,zAx,tEvZ30,zIy,zIz,zHv,zHw,zAv wf];first|(refine zCw (Q:=Q_) (fun hp_=>?_) (fun hp_=>?_) <;> first|(exfalso;omega)|(refine hQ_ _ _ ?_;clear hQ_ Q_))|(refine zBw (Q:=Q_) (fun hp_=>?_) (fun hp_=>?_) <;> first|(exfalso;omega)|(refine hQ_ _ _ ?_;clear hQ_ Q_))|(refine hQ_ _ _ ?_;clear hQ_ Q_)))
  | (refine zHy fun K_ hK_=>?_;simp (disch:=omega) only [zFv,zAz,zHx,↓reduceIte,reduceCtorEq,Nat.reduceEqDiff,Nat.reduceLT];refine hK_ _ ?_;clear hK_ K_)))
                exact zKw (k+1) (by omega) ⟨hkm,by simp only [zAz,↓reduceIte,reduceCtorEq,Nat.reduceEqDiff];exact g0,by simp only [zAz,↓reduceIte,reduceCtorEq,Nat.reduceEqDiff];exact g1,by simp only [zAz,↓reduceIte,reduceCtorEq,Nat.reduceEqDiff];exact g5,by simp only [zAz,↓reduceIte,reduceCtorEq,Nat.reduceEqDiff];rfl,rfl,M,rows,w,ows,rat,hso.trans ⟨fun x=>((sol_none hkm hz).1 x).2,fun x=>(sol_none hkm hz).2 ⟨hb,x⟩⟩,hw,hwl,rfl⟩
              · have hld1 : ∀ w,load1 (nx h (ps k)) p (X h M w)=some (ii 1):=fun w=>by rw [hldb w,hb];rfl
                subst hpe
                (repeat' (first
  | (with_reducible first|refine zJx ?_|refine zGv ?_|refine zFz ?_|refine zEv ?_|refine zFy ?_|refine zJw ?_|refine zHz ?_|refine zCz ?_|refine zDw ?_|refine zCy ?_|refine zCv ?_|refine zEx ?_|refine zDz ?_|refine zCx ?_|refine zBx ?_|refine zEz ?_|refine zEy ?_|refine zAw ?_|refine zBy ?_)
  | refine zDy ?_|refine zEw rfl ?_|refine zIv ?_|refine zJy ?_
  | ((first|refine zGw rfl rfl rfl rfl rfl fun K_ hK_=>?_|refine zGx rfl rfl rfl rfl rfl fun K_ hK_=>?_);simp only [zAz,zDx,zGz,↓reduceIte,reduceCtorEq,Nat.reduceEqDiff,Bool.not_true,Bool.not_false];refine hK_ _ ?_;clear hK_ K_)
  | refine zDv (by decide) ?_
  | ((try first|refine zKy rfl rfl rfl ?_|refine zIw rfl rfl ?_|refine zKx rfl rfl rfl ?_|refine zJz rfl rfl ?_);(refine zIx fun Q_ hQ_=>?_;simp (disch:=first|omega|(simp only [List.length_cons,List.length_nil,List.length_append];omega)) only [bb,bp,zLz,↓reduceIte,reduceCtorEq,Nat.reduceEqDiff,Nat.reduceLT,Nat.reduceLeDiff,Nat.reduceAdd,Nat.reduceMul,Nat.reduceSub,Nat.reduceBEq,Int.reduceToNat,cond_true,cond_false,eq_self,beq_self_eq_true,hl,hlo,f1,f2,go1,go2,g0,g1,g5,g9,g10,hixk,hldk,hck,hok,hixb,hld1,zFw wf,zGy wf,zBv wf,zFx wf,zAy wf,zAx,tEvZ30,zIy,zIz,zHv,zHw,zAv wf];first|(refine zCw (Q:=Q_) (fun hp_=>?_) (fun hp_=>?_) <;> first|(exfalso;omega)|(refine hQ_ _ _ ?_;clear hQ_ Q_))|(refine zBw (Q:=Q_) (fun hp_=>?_) (fun hp_=>?_) <;> first|(exfalso;omega)|(refine hQ_ _ _ ?_;clear hQ_ Q_))|(refine hQ_ _ _ ?_;clear hQ_ Q_)))
  | (refine zHy fun K_ hK_=>?_;simp (disch:=omega) only [zFv,zAz,zHx,↓reduceIte,reduceCtorEq,Nat.reduceEqDiff,Nat.reduceLT];refine hK_ _ ?_;clear hK_ K_)))
                (refine zKz _ _ rfl (ret1 (by decide)) ?_;simp only [zAz,↓reduceIte,reduceCtorEq,Nat.reduceEqDiff];refine zKv rfl (by omega) ?_)
                refine ⟨false,⟨fun x=>Bool.noConfusion x,fun x=>?_⟩,rfl,rfl⟩
                have:=((sol_none hkm hz).1 (hso.1 (hsol.2 x))).1
                rw [hb] at this
                exact Bool.noConfusion this
          · exact ⟨Nat.zero_le _,fun j hj=>absurd hj (Nat.not_lt_zero j),by simp only [zAz,↓reduceIte,reduceCtorEq,Nat.reduceEqDiff];exact g0,by simp only [zAz,↓reduceIte,reduceCtorEq,Nat.reduceEqDiff];exact g1,by simp only [zAz,↓reduceIte,reduceCtorEq,Nat.reduceEqDiff];exact g5,by simp only [zAz,↓reduceIte,reduceCtorEq,Nat.reduceEqDiff];exact g9,by simp only [zAz,↓reduceIte,reduceCtorEq,Nat.reduceEqDiff];rfl,rfl,rfl⟩
        · have hke:k=m:=by omega
          subst hke
          (repeat' (first
  | (with_reducible first|refine zJx ?_|refine zGv ?_|refine zFz ?_|refine zEv ?_|refine zFy ?_|refine zJw ?_|refine zHz ?_|refine zCz ?_|refine zDw ?_|refine zCy ?_|refine zCv ?_|refine zEx ?_|refine zDz ?_|refine zCx ?_|refine zBx ?_|refine zEz ?_|refine zEy ?_|refine zAw ?_|refine zBy ?_)
  | refine zDy ?_|refine zEw rfl ?_|refine zIv ?_|refine zJy ?_
  | ((first|refine zGw rfl rfl rfl rfl rfl fun K_ hK_=>?_|refine zGx rfl rfl rfl rfl rfl fun K_ hK_=>?_);simp only [zAz,zDx,zGz,↓reduceIte,reduceCtorEq,Nat.reduceEqDiff,Bool.not_true,Bool.not_false];refine hK_ _ ?_;clear hK_ K_)
  | refine zDv (by decide) ?_
  | ((try first|refine zKy rfl rfl rfl ?_|refine zIw rfl rfl ?_|refine zKx rfl rfl rfl ?_|refine zJz rfl rfl ?_);(refine zIx fun Q_ hQ_=>?_;simp (disch:=first|omega|(simp only [List.length_cons,List.length_nil,List.length_append];omega)) only [bb,bp,zLz,↓reduceIte,reduceCtorEq,Nat.reduceEqDiff,Nat.reduceLT,Nat.reduceLeDiff,Nat.reduceAdd,Nat.reduceMul,Nat.reduceSub,Nat.reduceBEq,Int.reduceToNat,cond_true,cond_false,eq_self,beq_self_eq_true,hl,hlo,f1,f2,go1,go2,g0,g1,g5,g9,zFw wf,zGy wf,zBv wf,zFx wf,zAy wf,zAx,tEvZ30,zIy,zIz,zHv,zHw,zAv wf];first|(refine zCw (Q:=Q_) (fun hp_=>?_) (fun hp_=>?_) <;> first|(exfalso;omega)|(refine hQ_ _ _ ?_;clear hQ_ Q_))|(refine zBw (Q:=Q_) (fun hp_=>?_) (fun hp_=>?_) <;> first|(exfalso;omega)|(refine hQ_ _ _ ?_;clear hQ_ Q_))|(refine hQ_ _ _ ?_;clear hQ_ Q_)))
  | (refine zHy fun K_ hK_=>?_;simp (disch:=omega) only [zFv,zAz,zHx,↓reduceIte,reduceCtorEq,Nat.reduceEqDiff,Nat.reduceLT];refine hK_ _ ?_;clear hK_ K_)))
          (refine zKz _ _ rfl (ret1 (by decide)) ?_;simp only [zAz,↓reduceIte,reduceCtorEq,Nat.reduceEqDiff];refine zKv rfl (by omega) ?_)
          exact ⟨true,⟨fun _=>hsol.1 (hso.2 ⟨fun _=>false,fun r h1 h2=>by omega⟩),fun _=>rfl⟩,rfl,rfl⟩
      · exact ⟨Nat.zero_le _,by simp only [zAz,↓reduceIte,reduceCtorEq,Nat.reduceEqDiff];exact g0,by simp only [zAz,↓reduceIte,reduceCtorEq,Nat.reduceEqDiff];exact g1,by simp only [zAz,↓reduceIte,reduceCtorEq,Nat.reduceEqDiff];exact g5,by simp only [zAz,↓reduceIte,reduceCtorEq,Nat.reduceEqDiff];rfl,rfl,M,eqs L s,w,ows,rat,Iff.rfl,hw,hwl,rfl⟩
  · exact ⟨Nat.le_refl _,hL,by simp only [zAz,↓reduceIte,reduceCtorEq,Nat.reduceEqDiff],by simp only [zAz,↓reduceIte,reduceCtorEq,Nat.reduceEqDiff],by simp only [zAz,↓reduceIte,reduceCtorEq,Nat.reduceEqDiff];try rfl,rfl,[],.nils,0,fun _=>0,h.clock,by simp only [zAz,↓reduceIte,reduceCtorEq,Nat.reduceEqDiff],.inl ⟨by rw [Nat.sub_self];rfl,rfl⟩,⟨fun r hr=>by omega,fun r r' hr=>by omega⟩,Nat.le_refl _,Nat.le_refl _,rfl⟩
end Go.Proofs.Ytmincoafjnnkpaa
end

section
namespace Go.Proofs.Ytmincoafjnnkpaa
open Go.Ev
set_option maxRecDepth 100000
set_option linter.unusedSimpArgs false
set_option linter.unusedVariables false
set_option maxHeartbeats 2000000
theorem tEvZ20 :type_of% (And.intro (And.intro (And.intro (And.intro (And.intro (And.intro (And.intro (@yQw) (@yQx)) (And.intro (@yQy) (@yQz))) (And.intro (And.intro (@yPv) (@yPw)) (And.intro (@ia_2) (And.intro (@ia_3) (@ia_4))))) (And.intro (And.intro (And.intro (@ia_5) (@yPx)) (And.intro (@yPy) (@yPz))) (And.intro (And.intro (@yOv) (@yOw)) (And.intro (@yOx) (And.intro (@zSz) (@yOy)))))) (And.intro (And.intro (And.intro (And.intro (@yOz) (@yNv)) (And.intro (@yNw) (@yNx))) (And.intro (And.intro (@yNy) (@yNz)) (And.intro (@yMv) (And.intro (@yMw) (@sz_2))))) (And.intro (And.intro (And.intro (@sz_3) (@sz_4)) (And.intro (@sz_5) (And.intro (@zRz) (@zYv)))) (And.intro (And.intro (@zYw) (@zYx)) (And.intro (@zYy) (And.intro (@zYz) (@zRw))))))) (And.intro (And.intro (And.intro (And.intro (And.intro (@zXv) (@zXw)) (And.intro (@zXx) (@zQy))) (And.intro (And.intro (@zXy) (@zXz)) (And.intro (@zWv) (And.intro (@zWw) (@zWx))))) (And.intro (And.intro (And.intro (@ze_2) (@ze_3)) (And.intro (@ze_4) (And.intro (@ze_5) (@zWy)))) (And.intro (And.intro (@zWz) (@zVv)) (And.intro (@zVw) (And.intro (@zVx) (@zVy)))))) (And.intro (And.intro (And.intro (And.intro (@zVz) (@zUv)) (And.intro (@zUw) (@zUx))) (And.intro (And.intro (@zUy) (@zUz)) (And.intro (@zTv) (And.intro (@zTw) (@zTx))))) (And.intro (And.intro (And.intro (@zNv) (@zNw)) (And.intro (@zNx) (And.intro (@zNy) (@zNz)))) (And.intro (And.intro (@zMv) (@zMw)) (And.intro (@zMx) (And.intro (@zMy) (@yMx)))))))) (And.intro (And.intro (And.intro (And.intro (And.intro (And.intro (@yMy) (@yMz)) (And.intro (@yLv) (@yLw))) (And.intro (And.intro (@yLx) (@yLy)) (And.intro (@yLz) (And.intro (@yKv) (@yKw))))) (And.intro (And.intro (And.intro (@yKx) (@yKy)) (And.intro (@yKz) (@yJv))) (And.intro (And.intro (@yJw) (@yJx)) (And.intro (@yJy) (And.intro (@yJz) (@yIv)))))) (And.intro (And.intro (And.intro (And.intro (@yIw) (@yIx)) (And.intro (@yIy) (@yIz))) (And.intro (And.intro (@yHv) (@yHw)) (And.intro (@yHx) (And.intro (@yHy) (@yHz))))) (And.intro (And.intro (And.intro (@yGv) (@yGw)) (And.intro (@yGx) (And.intro (@yGy) (@yGz)))) (And.intro (And.intro (@yFv) (@yFw)) (And.intro (@yFx) (And.intro (@yFy) (@yFz))))))) (And.intro (And.intro (And.intro (And.intro (And.intro (@yEv) (@yEw)) (And.intro (@yEx) (@yEy))) (And.intro (And.intro (@yEz) (@yDv)) (And.intro (@yDw) (And.intro (@yDx) (@yDy))))) (And.intro (And.intro (And.intro (@yDz) (@yCv)) (And.intro (@yCw) (And.intro (@yCx) (@yCy)))) (And.intro (And.intro (@zSy) (@yCz)) (And.intro (@yBv) (And.intro (@yBw) (@yBx)))))) (And.intro (And.intro (And.intro (And.intro (@yBy) (@yBz)) (And.intro (@yAv) (@yAw))) (And.intro (And.intro (@yAx) (@yAy)) (And.intro (@yAz) (And.intro (@zZv) (@zZw))))) (And.intro (And.intro (And.intro (@zZx) (@zZy)) (And.intro (@zPv) (And.intro (@zTz) (@zSv)))) (And.intro (And.intro (@zQw) (@zSw)) (And.intro (@zRx) (And.intro (@zSx) (@zRv))))))))):=And.intro (And.intro (And.intro (And.intro (And.intro (And.intro (And.intro (@yQw) (@yQx)) (And.intro (@yQy) (@yQz))) (And.intro (And.intro (@yPv) (@yPw)) (And.intro (@ia_2) (And.intro (@ia_3) (@ia_4))))) (And.intro (And.intro (And.intro (@ia_5) (@yPx)) (And.intro (@yPy) (@yPz))) (And.intro (And.intro (@yOv) (@yOw)) (And.intro (@yOx) (And.intro (@zSz) (@yOy)))))) (And.intro (And.intro (And.intro (And.intro (@yOz) (@yNv)) (And.intro (@yNw) (@yNx))) (And.intro (And.intro (@yNy) (@yNz)) (And.intro (@yMv) (And.intro (@yMw) (@sz_2))))) (And.intro (And.intro (And.intro (@sz_3) (@sz_4)) (And.intro (@sz_5) (And.intro (@zRz) (@zYv)))) (And.intro (And.intro (@zYw) (@zYx)) (And.intro (@zYy) (And.intro (@zYz) (@zRw))))))) (And.intro (And.intro (And.intro (And.intro (And.intro (@zXv) (@zXw)) (And.intro (@zXx) (@zQy))) (And.intro (And.intro (@zXy) (@zXz)) (And.intro (@zWv) (And.intro (@zWw) (@zWx))))) (And.intro (And.intro (And.intro (@ze_2) (@ze_3)) (And.intro (@ze_4) (And.intro (@ze_5) (@zWy)))) (And.intro (And.intro (@zWz) (@zVv)) (And.intro (@zVw) (And.intro (@zVx) (@zVy)))))) (And.intro (And.intro (And.intro (And.intro (@zVz) (@zUv)) (And.intro (@zUw) (@zUx))) (And.intro (And.intro (@zUy) (@zUz)) (And.intro (@zTv) (And.intro (@zTw) (@zTx))))) (And.intro (And.intro (And.intro (@zNv) (@zNw)) (And.intro (@zNx) (And.intro (@zNy) (@zNz)))) (And.intro (And.intro (@zMv) (@zMw)) (And.intro (@zMx) (And.intro (@zMy) (@yMx)))))))) (And.intro (And.intro (And.intro (And.intro (And.intro (And.intro (@yMy) (@yMz)) (And.intro (@yLv) (@yLw))) (And.intro (And.intro (@yLx) (@yLy)) (And.intro (@yLz) (And.intro (@yKv) (@yKw))))) (And.intro (And.intro (And.intro (@yKx) (@yKy)) (And.intro (@yKz) (@yJv))) (And.intro (And.intro (@yJw) (@yJx)) (And.intro (@yJy) (And.intro (@yJz) (@yIv)))))) (And.intro (And.intro (And.intro (And.intro (@yIw) (@yIx)) (And.intro (@yIy) (@yIz))) (And.intro (And.intro (@yHv) (@yHw)) (And.intro (@yHx) (And.intro (@yHy) (@yHz))))) (And.intro (And.intro (And.intro (@yGv) (@yGw)) (And.intro (@yGx) (And.intro (@yGy) (@yGz)))) (And.intro (And.intro (@yFv) (@yFw)) (And.intro (@yFx) (And.intro (@yFy) (@yFz))))))) (And.intro (And.intro (And.intro (And.intro (And.intro (@yEv) (@yEw)) (And.intro (@yEx) (@yEy))) (And.intro (And.intro (@yEz) (@yDv)) (And.intro (@yDw) (And.intro (@yDx) (@yDy))))) (And.intro (And.intro (And.intro (@yDz) (@yCv)) (And.intro (@yCw) (And.intro (@yCx) (@yCy)))) (And.intro (And.intro (@zSy) (@yCz)) (And.intro (@yBv) (And.intro (@yBw) (@yBx)))))) (And.intro (And.intro (And.intro (And.intro (@yBy) (@yBz)) (And.intro (@yAv) (@yAw))) (And.intro (And.intro (@yAx) (@yAy)) (And.intro (@yAz) (And.intro (@zZv) (@zZw))))) (And.intro (And.intro (And.intro (@zZx) (@zZy)) (And.intro (@zPv) (And.intro (@zTz) (@zSv)))) (And.intro (And.intro (@zQw) (@zSw)) (And.intro (@zRx) (And.intro (@zSx) (@zRv))))))))
def profOf (l:List Att):List Nat:=l.foldl (fun P a=>P++List.replicate ((a.at_+1).toNat - P.length) a.L) []
theorem xFx (l:List Att) (a:Att):profOf (l++[a])=profOf l++List.replicate ((a.at_+1).toNat - (profOf l).length) a.L:=by unfold profOf;rw [List.foldl_append];rfl
theorem chain_prof {s:Nat→Bool} {l:List Att} {T L p:Nat} {prof:List Nat} (h:Chain s l T L p prof):profOf l=prof:=by
  induction h with
  | nil=>rfl
  | @snoc l T L p q prof hc hpq w hq ih=>
    rw [xFx,ih,hc.facts.len]
    congr 2
theorem chain_max {s:Nat→Bool} {l:List Att} {T L p q:Nat} {prof:List Nat} (h:Chain s l T L p prof) (hpq:p≤q) (w:Wrong T L s q):max L ((bestA l).L+((q:Int) - (bestA l).at_).toNat)=max L (q+1 - L):=by
  obtain ⟨ne,lt,le,p_le,cx,makes,best,by_,len,prof_,mono⟩:=h.facts
  have hbB:(bestA l).bound=(bestA l).at_+1 - ((bestA l).L:Int):=rfl
  have hlq:=w.le
  have:(bestA l).at_<(q:Int):=by
    rcases by_ with h|⟨_,q',h,h2,_⟩
    · rw [h];show (-1:Int)<_;omega
    · omega
  omega
def Jumps (P:List Nat):Prop:=∀ (k u v:Nat),P[k]? = some u→P[k+1]? = some v→v=u∨v+u=k+1
theorem chain_jumps {s:Nat→Bool} {l:List Att} {T L p:Nat} {prof:List Nat} (h:Chain s l T L p prof):Jumps prof ∧ ∀ u,0<p→prof[p - 1]? = some u→L=u∨L+u=p:=by
  induction h with
  | nil=>exact ⟨fun k u v h=>by simp at h,fun u h=>by omega⟩
  | @snoc l T L p q prof hc hpq w hq ih=>
    have hmx:=chain_max hc hpq w
    have hlen:=hc.facts.len
    obtain ⟨j1,j2⟩:=ih
    have hget : ∀ k,p≤k → ∀ v,(prof++List.replicate (q+1 - p) L)[k]? = some v→v=L:=fun k hk v hv=>by
      rw [List.getElem?_append_right (by omega),List.getElem?_replicate] at hv
      split at hv
      · cases hv;rfl
      · cases hv
    have hlow : ∀ k,k<p→(prof++List.replicate (q+1 - p) L)[k]? = prof[k]?:=fun k hk=>List.getElem?_append_left (by omega)
    refine ⟨fun k u v hu hv=>?_,fun u _ hu=>?_⟩
    · by_cases h1:k+1<p
      · rw [hlow _ (by omega)] at hu
        rw [hlow _ h1] at hv
        exact j1 k u v hu hv
      · have hv2:=hget (k+1) (by omega) v hv
        by_cases h2:k<p
        · rw [hlow _ h2] at hu
          have h3:k=p - 1:=by omega
          rw [h3] at hu
          rcases j2 u (by omega) hu with h|h
          · exact .inl (by omega)
          · exact .inr (by omega)
        · have hu2:=hget k (by omega) u hu
          exact .inl (by omega)
    · have:=hget (q+1 - 1) (by omega) u hu
      have hlq:=w.le
      rw [hmx]
      omega
structure ProfOK (s:Nat→Bool) (n:Nat) (F:List Nat):Prop where
  len:F.length=n+1
  cx : ∀ k,k≤n → ∃ Lk:Nat,F[k]? = some Lk∧Cpx s k Lk
  jumps:Jumps F
  le : ∀ (k u:Nat),F[k]? = some u→u≤n
theorem prof_ok {s:Nat→Bool} {l:List Att} {T L p n:Nat} {prof:List Nat} (h:Chain s l T L p prof) (hp:p≤n) (hm:Makes T L s n):profOf (l++[⟨T,L,(n:Int)⟩])=prof++List.replicate (n+1 - p) L∧ProfOK s n (prof++List.replicate (n+1 - p) L):=by
  have hf:=h.facts
  have hlen:=hf.len
  obtain ⟨j1,j2⟩:=chain_jumps h
  have hLn:L≤n:=by have:=hf.le;omega
  have hget : ∀ k,p≤k → ∀ v,(prof++List.replicate (n+1 - p) L)[k]? = some v→v=L:=fun k hk v hv=>by
    rw [List.getElem?_append_right (by omega),List.getElem?_replicate] at hv
    split at hv
    · cases hv;rfl
    · cases hv
  have hlow : ∀ k,k<p→(prof++List.replicate (n+1 - p) L)[k]? = prof[k]?:=fun k hk=>List.getElem?_append_left (by omega)
  refine ⟨?_,by rw [List.length_append,List.length_replicate];omega,fun k hk=>?_,fun k u v hu hv=>?_,fun k u hu=>?_⟩
  · rw [xFx,chain_prof h,hlen]
    congr 2
  · by_cases h1:k<p
    · rw [hlow k h1];exact hf.prof_ k h1
    · exact ⟨L,by rw [List.getElem?_append_right (by omega),List.getElem?_replicate,if_pos (by omega)],⟨⟨T,hf.lt,hm.less hk⟩,fun T' L' h'=>hf.cx.least T' L' (h'.less (by omega))⟩⟩
  · by_cases h1:k+1<p
    · rw [hlow _ (by omega)] at hu
      rw [hlow _ h1] at hv
      exact j1 k u v hu hv
    · have hv2:=hget (k+1) (by omega) v hv
      by_cases h2:k<p
      · rw [hlow _ h2] at hu
        have h3:k=p - 1:=by omega
        rw [h3] at hu
        rcases j2 u (by omega) hu with h|h
        · exact .inl (by omega)
        · exact .inr (by omega)
      · have hu2:=hget k (by omega) u hu
        exact .inl (by omega)
  · by_cases h1:k<p
    · rw [hlow k h1] at hu
      have:=hf.mono k u hu
      omega
    · have:=hget k (by omega) u hu
      omega
theorem AttsAt.get {h:H} (wf:Wf h) {M:List AO} {idx:Nat} {l:List Att} {v:AV} (x:AttsAt h M idx l v) {i:Nat} (hi:i<l.length):indexAddrE Try.prog 63 v (.int .i64 (i:Int))=some (.ptr (nx h idx) (i * 4)) ∧ ∀ J w,loadAgg (nx h idx) (i * 4) (some 4) (X h (M++J) w)=some (.agg (attC l[i])):=by
  have hia:indexAddrE Try.prog 63 v (.int .i64 (i:Int))=some (.ptr (nx h idx) (i * 4)):=by
    obtain ⟨cap,rfl,_,_⟩:=x
    have ht:toNatE (.int .i64 (i:Int))=some i:=by rw [yUx (by omega),Int.toNat_natCast]
    simp only [zQx,ht,zQw,yTz hi,Nat.zero_add]
  refine ⟨hia,fun J w=>?_⟩
  obtain ⟨id,off,hix,hld⟩:=((x.more J).sl wf h.clock).at (wf.X (by omega)) hi zQw
  rw [hia] at hix
  cases hix
  have h1:=(hld [] w).2
  rw [X_X,List.append_nil,flat_at xAv hi] at h1
  exact h1
abbrev ni (k:Nat):AV:=ii (k:Int)
theorem profile (xs:List Int) (he:errB xs=0) (a:AV) (hc:CapU 1 a) (h:H) (wf:Wf h) (hs:Sl h a 1 xs.length (xs.map ii)) :
    ∃ F v M,ProfOK (sq (bitL xs)) xs.length F∧CapU 1 v∧(∀ J w,Sl (X h (M++J) w) v 1 F.length (F.map ni))∧(om Try.prog KK).call (.fn 23 [a]) h = .ok (.tup [v,ii 0]) (X h M h.w):=by
  suffices hW:WV ((om Try.prog KK).call (.fn 23 [a]) h) fun r h'=>∃ F v M,ProfOK (sq (bitL xs)) xs.length F∧CapU 1 v∧(∀ J w,Sl (X h (M++J) w) v 1 F.length (F.map ni))∧r = .tup [v,ii 0]∧h'=X h M h.w by
    obtain ⟨r,h',e,F,v,M,h1,h2,h3,rfl,rfl⟩:=hW
    exact ⟨F,v,M,h1,h2,h3,e⟩
  obtain ⟨hx1,hx2⟩:=xDv he
  have hxl:=zLw xs
  have hs':Sl h a 1 (bitL xs).length ((bitL xs).map bi):=by rw [zLw,← hx2];exact hs
  have hl : ∀ h',lenE Try.prog 22 a h'=some (ii (xs.length:Int)):=fun h'=>hs.len yRy
  obtain ⟨f1,f2⟩:=zPy hs
  have c1 : ∀ (l:List AO) (w:Nat),w≤h.clock+l.length→(om Try.prog KK).call (.fn 18 [a]) (X h l w) = .ok (ii 0) (X h l w):=fun l w hw=>by rw [checkBits xs a _ (wf.X hw) (hs.up wf l w),he]
  obtain ⟨l,T,L,p,prof,v,M,idx,hch,hp,hm,hat,e⟩:=seek (bitL xs) (by omega) a hc (X h [] h.clock) (wf.X (by simp)) (hs'.up wf _ _)
  rw [X_X,X_w,List.nil_append] at e
  rw [hxl] at hp hm
  have hf:=hch.facts
  obtain ⟨hok,hln⟩:=chain_ok hch
  have hL:L≤xs.length:=by have:=hf.le;omega
  obtain ⟨hpe,hpo⟩:=prof_ok hch hp hm
  obtain ⟨fv1,fv2⟩:=zPy (hat.sl (wf.X (by simp)) h.clock)
  have hat0:AttsAt h (M++[.cells (zBz [uu (T % 2 ^ 64),uu (T >>> 64),ii (L:Int)]) 59]) idx l v:=by
    obtain ⟨cap,hve,hM,hcap⟩:=hat.more [.cells (zBz [uu (T % 2 ^ 64),uu (T >>> 64),ii (L:Int)]) 59]
    exact ⟨cap,by rw [hve,nx_X];rw [List.length_nil,Nat.zero_add],hM,hcap⟩
  obtain ⟨v',M',hat',hlen',hkeep,happ⟩:=hat0.app wf ⟨T,L,(xs.length:Int)⟩ (by omega)
  generalize hlst:l++[(⟨T,L,(xs.length:Int)⟩:Att)]=lst at *
  obtain ⟨w',hw1,hw2,happ⟩:=happ h.clock
  have hwe:w'=h.clock:=by omega
  subst hwe
  obtain ⟨fw1,fw2⟩:=zPy (hat'.sl wf h.clock)
  unfold attC at happ
  simp only [List.append_assoc,List.cons_append,List.nil_append,List.length_append,List.length_cons,List.length_nil,Nat.zero_add] at happ
  have hrz : ∀ id off l c esz,reszT Try.prog 63 (.sl id off l (some c) esz) = .sl id off l (some c) 4:=fun _ _ _ _ _=>yUw un_63 zQy
  have hrz2 : ∀ id off l c esz,reszT Try.prog 22 (.sl id off l (some c) esz) = .sl id off l (some c) 1:=fun _ _ _ _ _=>yUw yRy sz_3
  have hlv : ∀ h',lenE Try.prog 63 v' h'=some (ii (lst.length:Int)):=fun h'=>(hat'.sl wf h.clock).len un_63
  unfold rg at e
  refine zLy (fn:=Try.f23) Try.func23 rfl rfl rfl rfl rfl ?_
  simp only [zLz]
  (repeat' (first
  | (with_reducible first|refine zJx ?_|refine zGv ?_|refine zFz ?_|refine zEv ?_|refine zFy ?_|refine zJw ?_|refine zHz ?_|refine zCz ?_|refine zDw ?_|refine zCy ?_|refine zCv ?_|refine zEx ?_|refine zDz ?_|refine zCx ?_|refine zBx ?_|refine zEz ?_|refine zEy ?_|refine zAw ?_|refine zBy ?_)
  | refine zDy ?_|refine zEw rfl ?_|refine zIv ?_|refine zJy ?_
  | ((first|refine zGw rfl rfl rfl rfl rfl fun K_ hK_=>?_|refine zGx rfl rfl rfl rfl rfl fun K_ hK_=>?_);simp only [zAz,zDx,zGz,↓reduceIte,reduceCtorEq,Nat.reduceEqDiff,Bool.not_true,Bool.not_false];refine hK_ _ ?_;clear hK_ K_)
  | refine zDv (by decide) ?_
  | ((try first|refine zKy rfl rfl rfl ?_|refine zIw rfl rfl ?_|refine zKx rfl rfl rfl ?_|refine zJz rfl rfl ?_);(refine zIx fun Q_ hQ_=>?_;simp (disch:=first|omega|(simp only [List.length_cons,List.length_nil,List.length_append];omega)) only [bb,bp,zLz,↓reduceIte,reduceCtorEq,Nat.reduceEqDiff,Nat.reduceLT,Nat.reduceLeDiff,Nat.reduceAdd,Nat.reduceMul,Nat.reduceSub,Nat.reduceBEq,Int.reduceToNat,cond_true,cond_false,eq_self,beq_self_eq_true,hl,hlv,f1,f2,fv1,fv2,fw1,fw2,happ,hrz,zRv,zFw wf,zGy wf,zBv wf,zFx wf,zAy wf,zAx,tEvZ20,zIy,zIz,zHv,zHw,zAv wf];first|(refine zCw (Q:=Q_) (fun hp_=>?_) (fun hp_=>?_) <;> first|(exfalso;omega)|(refine hQ_ _ _ ?_;clear hQ_ Q_))|(refine zBw (Q:=Q_) (fun hp_=>?_) (fun hp_=>?_) <;> first|(exfalso;omega)|(refine hQ_ _ _ ?_;clear hQ_ Q_))|(refine hQ_ _ _ ?_;clear hQ_ Q_)|(refine zOy (c1 _ _ (by first|omega|(simp only [List.length_append,List.length_cons,List.length_nil];omega))) ?_;refine hQ_ _ _ ?_;clear hQ_ Q_)|(refine zOy (e) ?_;refine hQ_ _ _ ?_;clear hQ_ Q_)))
  | (refine zHy fun K_ hK_=>?_;simp (disch:=omega) only [zFv,zAz,zHx,↓reduceIte,reduceCtorEq,Nat.reduceEqDiff,Nat.reduceLT];refine hK_ _ ?_;clear hK_ K_)))
  have hsl':=fun G w=>(hat'.more G).sl wf w
  have hin : ∀ (k:Nat),oneB (ni k)=true:=fun _=>rfl
  have hokl : ∀ x ∈ lst,OkA x:=by
    rw [← hlst]
    intro x hx
    rcases List.mem_append.1 hx with h|h
    · exact hok x h
    · rw [List.mem_singleton.1 h]
      exact ⟨⟨by show (-1:Int)≤(xs.length:Int);omega,by show (xs.length:Int)≤128;omega⟩,by show L≤128;omega⟩
  have hlstn:lst.length≤200:=by rw [← hlst,List.length_append];simp;have:=hf.p_le;omega
  have hPl : ∀ i,(profOf (lst.take i)).length≤129:=fun i=>by
    induction i with
    | zero=>rw [List.take_zero];exact Nat.zero_le _
    | succ i ih=>
      by_cases hi:i<lst.length
      · rw [List.take_succ_eq_append_getElem hi,xFx,List.length_append,List.length_replicate]
        have:=(hokl _ (List.getElem_mem hi)).1.2
        omega
      · rw [List.take_of_length_le (by omega)];rw [List.take_of_length_le (by omega)] at ih;exact ih
  refine zOv (α:=Nat) (fun (i:Nat) f d h'=>i≤lst.length∧f 26=v'∧f 27=ii (lst.length:Int)∧f 28=ii (i:Int)∧d=[] ∧
    ∃ pv G w,f 7=pv∧Grow h M' G pv 1 3 (profOf (lst.take i)).length ((profOf (lst.take i)).map ni)∧h.clock≤w∧h'=X h (M'++G) w) (fun i=>lst.length - i) ?_ (lst.length+1) 0 (by omega) ?_
  · rintro i f d h' ⟨hi,g26,g27,g28,rfl,pv,G,w,g7,hg,hw,rfl⟩
    obtain ⟨fp1,fp2⟩:=hg.flat
    by_cases hlt:i<lst.length
    · obtain ⟨hix,hld⟩:=hat'.get wf hlt
      have hPi:=hPl i
      have e1:profOf (lst.take (i+1))=profOf (lst.take i)++List.replicate ((lst[i].at_+1).toNat - (profOf (lst.take i)).length) lst[i].L:=by rw [List.take_succ_eq_append_getElem hlt,xFx]
      have hxok:=hokl _ (List.getElem_mem hlt)
      generalize hP:profOf (lst.take i)=P at *
      generalize hxe:lst[i]=x at *
      obtain ⟨⟨ho1,ho2⟩,ho3⟩:=hxok
      unfold attC at hld
      generalize hid:nx h (M.length+2)=idv at *
      generalize nx h ((M++[AO.cells (zBz [uu (T % 2 ^ 64),uu (T >>> 64),ii (L:Int)]) 59]).length+1)=ida at *
      (repeat' (first
  | (with_reducible first|refine zJx ?_|refine zGv ?_|refine zFz ?_|refine zEv ?_|refine zFy ?_|refine zJw ?_|refine zHz ?_|refine zCz ?_|refine zDw ?_|refine zCy ?_|refine zCv ?_|refine zEx ?_|refine zDz ?_|refine zCx ?_|refine zBx ?_|refine zEz ?_|refine zEy ?_|refine zAw ?_|refine zBy ?_)
  | refine zDy ?_|refine zEw rfl ?_|refine zIv ?_|refine zJy ?_
  | ((first|refine zGw rfl rfl rfl rfl rfl fun K_ hK_=>?_|refine zGx rfl rfl rfl rfl rfl fun K_ hK_=>?_);simp only [zAz,zDx,zGz,↓reduceIte,reduceCtorEq,Nat.reduceEqDiff,Bool.not_true,Bool.not_false];refine hK_ _ ?_;clear hK_ K_)
  | refine zDv (by decide) ?_
  | ((try first|refine zKy rfl rfl rfl ?_|refine zIw rfl rfl ?_|refine zKx rfl rfl rfl ?_|refine zJz rfl rfl ?_);(refine zIx fun Q_ hQ_=>?_;simp (disch:=first|omega|(simp only [List.length_cons,List.length_nil,List.length_append];omega)) only [bb,bp,zLz,↓reduceIte,reduceCtorEq,Nat.reduceEqDiff,Nat.reduceLT,Nat.reduceLeDiff,Nat.reduceAdd,Nat.reduceMul,Nat.reduceSub,Nat.reduceBEq,Int.reduceToNat,cond_true,cond_false,eq_self,beq_self_eq_true,hl,hlv,f1,f2,fw1,fw2,fp1,fp2,g7,g26,g27,g28,hix,hld,zFw wf,zGy wf,zBv wf,zFx wf,zAy wf,zAx,tEvZ20,zIy,zIz,zHv,zHw,zAv wf];first|(refine zCw (Q:=Q_) (fun hp_=>?_) (fun hp_=>?_) <;> first|(exfalso;omega)|(refine hQ_ _ _ ?_;clear hQ_ Q_))|(refine zBw (Q:=Q_) (fun hp_=>?_) (fun hp_=>?_) <;> first|(exfalso;omega)|(refine hQ_ _ _ ?_;clear hQ_ Q_))|(refine hQ_ _ _ ?_;clear hQ_ Q_)))
  | (refine zHy fun K_ hK_=>?_;simp (disch:=omega) only [zFv,zAz,zHx,↓reduceIte,reduceCtorEq,Nat.reduceEqDiff,Nat.reduceLT];refine hK_ _ ?_;clear hK_ K_)))
      have lx : ∀ {G':List AO},G'[G.length]? = some (.cells (zBz [uu (x.T % 2 ^ 64),uu (x.T >>> 64),ii (x.L:Int),ii x.at_]) 67) → ∀ J w,load1 (nx h (M'.length+G.length)) 3 (X h (M'++(G'++J)) w)=some (ii x.at_)∧load1 (nx h (M'.length+G.length)) 2 (X h (M'++(G'++J)) w)=some (ii (x.L:Int)):=fun {G'} hG J w=>by
        rw [zGy wf,zGy wf,xGy,List.getElem?_append_left (zMz hG),hG]
        exact ⟨rfl,rfl⟩
      refine zOv (α:=Nat) (fun (c:Nat) f d h'=>P.length+c≤max P.length (x.at_+1).toNat∧f 9 = .ptr (nx h (M'.length+G.length)) 0∧f 26=v'∧f 27=ii (lst.length:Int)∧f 28=ii (i:Int)∧d=[] ∧
        ∃ pv G' w,f 7=pv∧Grow h M' G' pv 1 3 (P.length+c) ((P++List.replicate c x.L).map ni)∧G'[G.length]? = some (.cells (zBz [uu (x.T % 2 ^ 64),uu (x.T >>> 64),ii (x.L:Int),ii x.at_]) 67)∧h.clock≤w∧h'=X h (M'++G') w) (fun c=>300 - c) ?_ 301 0 (by omega) ?_
      · rintro c f d h' ⟨hcn,g9,g26,g27,g28,rfl,pv,G',w,g7,hg,hG9,hw,rfl⟩
        obtain ⟨fp1,fp2⟩:=hg.flat
        have lx1:=fun J w=>(lx hG9 J w).1
        have lx2:=fun J w=>(lx hG9 J w).2
        have lx10:=fun w=>by have:=lx1 [] w;rwa [List.append_nil] at this
        have lx20:=fun w=>by have:=lx2 [] w;rwa [List.append_nil] at this
        have hlp : ∀ h',lenE Try.prog 22 pv h'=some (ii ((P.length+c:Nat):Int)):=fun h'=>(hg.sl wf h.clock).len yRy
        by_cases hcl:P.length+c<max P.length (x.at_+1).toNat
        · have hle:((P.length+c:Nat):Int)≤x.at_:=by omega
          obtain ⟨pv',G'',hg',hk',happ2⟩:=(hg.more [.cells (zBz [ni x.L]) 3]).appendK (P:=Try.prog) wf yRy sz_3 el_3 (x:=.sl (nx h (M'.length+G'.length)) 0 1 (some 1) 1) (n:=1) (new:=[ni x.L]) (by omega) (by omega) (by decide) rfl rfl (fun w=>src_new (e:=3) wf (by rw [← List.append_assoc,show M'.length+G'.length=(M'++G').length by simp];simp) rfl)
          obtain ⟨w',hw1,hw2,happ2⟩:=happ2 w hw
          have hG9':=hk' G.length _ 67 (by decide) (by rw [List.getElem?_append_left (zMz hG9)];exact hG9)
          have hr:reszT Try.prog 22 pv=pv:=hg.resz 22
          have e3:(P++List.replicate (c+1) x.L).map ni=(P++List.replicate c x.L).map ni++[ni x.L]:=by
            rw [List.replicate_succ',← List.append_assoc,List.map_append];rfl
          rw [← e3] at hg'
          obtain ⟨fq1,fq2⟩:=hg'.flat
          (repeat' (first
  | (with_reducible first|refine zJx ?_|refine zGv ?_|refine zFz ?_|refine zEv ?_|refine zFy ?_|refine zJw ?_|refine zHz ?_|refine zCz ?_|refine zDw ?_|refine zCy ?_|refine zCv ?_|refine zEx ?_|refine zDz ?_|refine zCx ?_|refine zBx ?_|refine zEz ?_|refine zEy ?_|refine zAw ?_|refine zBy ?_)
  | refine zDy ?_|refine zEw rfl ?_|refine zIv ?_|refine zJy ?_
  | ((first|refine zGw rfl rfl rfl rfl rfl fun K_ hK_=>?_|refine zGx rfl rfl rfl rfl rfl fun K_ hK_=>?_);simp only [zAz,zDx,zGz,↓reduceIte,reduceCtorEq,Nat.reduceEqDiff,Bool.not_true,Bool.not_false];refine hK_ _ ?_;clear hK_ K_)
  | refine zDv (by decide) ?_
  | ((try first|refine zKy rfl rfl rfl ?_|refine zIw rfl rfl ?_|refine zKx rfl rfl rfl ?_|refine zJz rfl rfl ?_);(refine zIx fun Q_ hQ_=>?_;simp (disch:=first|omega|(simp only [List.length_cons,List.length_nil,List.length_append];omega)) only [bb,bp,zLz,↓reduceIte,reduceCtorEq,Nat.reduceEqDiff,Nat.reduceLT,Nat.reduceLeDiff,Nat.reduceAdd,Nat.reduceMul,Nat.reduceSub,Nat.reduceBEq,Int.reduceToNat,cond_true,cond_false,eq_self,beq_self_eq_true,hl,hlv,hlp,f1,f2,fw1,fw2,fp1,fp2,fq1,fq2,g7,g9,g26,g27,g28,lx10,lx20,hr,hrz2,happ2,zRx,zFw wf,zGy wf,zBv wf,zFx wf,zAy wf,tEvZ20,zIy,zIz,zHv,zHw,zAv wf];first|(refine zCw (Q:=Q_) (fun hp_=>?_) (fun hp_=>?_) <;> first|(exfalso;omega)|(refine hQ_ _ _ ?_;clear hQ_ Q_))|(refine zBw (Q:=Q_) (fun hp_=>?_) (fun hp_=>?_) <;> first|(exfalso;omega)|(refine hQ_ _ _ ?_;clear hQ_ Q_))|(refine hQ_ _ _ ?_;clear hQ_ Q_)))
  | (refine zHy fun K_ hK_=>?_;simp (disch:=omega) only [zFv,zAz,zHx,↓reduceIte,reduceCtorEq,Nat.reduceEqDiff,Nat.reduceLT];refine hK_ _ ?_;clear hK_ K_)))
          exact zKw (c+1) (by omega) ⟨by omega,by simp only [zAz,↓reduceIte,reduceCtorEq,Nat.reduceEqDiff];exact g9,by simp only [zAz,↓reduceIte,reduceCtorEq,Nat.reduceEqDiff];exact g26,by simp only [zAz,↓reduceIte,reduceCtorEq,Nat.reduceEqDiff];exact g27,by simp only [zAz,↓reduceIte,reduceCtorEq,Nat.reduceEqDiff];exact g28,rfl,pv',G'',w',by simp only [zAz,↓reduceIte,reduceCtorEq,Nat.reduceEqDiff],hg',hG9',hw1,rfl⟩
        · have hle : ¬ ((P.length+c:Nat):Int)≤x.at_:=by omega
          have hce:c=(x.at_+1).toNat - P.length:=by omega
          (repeat' (first
  | (with_reducible first|refine zJx ?_|refine zGv ?_|refine zFz ?_|refine zEv ?_|refine zFy ?_|refine zJw ?_|refine zHz ?_|refine zCz ?_|refine zDw ?_|refine zCy ?_|refine zCv ?_|refine zEx ?_|refine zDz ?_|refine zCx ?_|refine zBx ?_|refine zEz ?_|refine zEy ?_|refine zAw ?_|refine zBy ?_)
  | refine zDy ?_|refine zEw rfl ?_|refine zIv ?_|refine zJy ?_
  | ((first|refine zGw rfl rfl rfl rfl rfl fun K_ hK_=>?_|refine zGx rfl rfl rfl rfl rfl fun K_ hK_=>?_);simp only [zAz,zDx,zGz,↓reduceIte,reduceCtorEq,Nat.reduceEqDiff,Bool.not_true,Bool.not_false];refine hK_ _ ?_;clear hK_ K_)
  | refine zDv (by decide) ?_
  | ((try first|refine zKy rfl rfl rfl ?_|refine zIw rfl rfl ?_|refine zKx rfl rfl rfl ?_|refine zJz rfl rfl ?_);(refine zIx fun Q_ hQ_=>?_;simp (disch:=first|omega|(simp only [List.length_cons,List.length_nil,List.length_append];omega)) only [bb,bp,zLz,↓reduceIte,reduceCtorEq,Nat.reduceEqDiff,Nat.reduceLT,Nat.reduceLeDiff,Nat.reduceAdd,Nat.reduceMul,Nat.reduceSub,Nat.reduceBEq,Int.reduceToNat,cond_true,cond_false,eq_self,beq_self_eq_true,hl,hlv,hlp,f1,f2,fw1,fw2,fp1,fp2,g7,g9,g26,g27,g28,lx10,lx20,zFw wf,zGy wf,zBv wf,zFx wf,zAy wf,tEvZ20,zIy,zIz,zHv,zHw,zAv wf];first|(refine zCw (Q:=Q_) (fun hp_=>?_) (fun hp_=>?_) <;> first|(exfalso;omega)|(refine hQ_ _ _ ?_;clear hQ_ Q_))|(refine zBw (Q:=Q_) (fun hp_=>?_) (fun hp_=>?_) <;> first|(exfalso;omega)|(refine hQ_ _ _ ?_;clear hQ_ Q_))|(refine hQ_ _ _ ?_;clear hQ_ Q_)))
  | (refine zHy fun K_ hK_=>?_;simp (disch:=omega) only [zFv,zAz,zHx,↓reduceIte,reduceCtorEq,Nat.reduceEqDiff,Nat.reduceLT];refine hK_ _ ?_;clear hK_ K_)))
          refine zKw (i+1) (by omega) ⟨hlt,by simp only [zAz,↓reduceIte,reduceCtorEq,Nat.reduceEqDiff];exact g26,by simp only [zAz,↓reduceIte,reduceCtorEq,Nat.reduceEqDiff];exact g27,by simp only [zAz,↓reduceIte,reduceCtorEq,Nat.reduceEqDiff];rfl,rfl,pv,G',w,by simp only [zAz,↓reduceIte,reduceCtorEq,Nat.reduceEqDiff];exact g7,?_,hw,rfl⟩
          rw [e1,← hce,List.length_append,List.length_replicate]
          exact hg
      · exact ⟨by omega,by simp only [zAz,↓reduceIte,reduceCtorEq,Nat.reduceEqDiff],by simp only [zAz,↓reduceIte,reduceCtorEq,Nat.reduceEqDiff];exact g26,by simp only [zAz,↓reduceIte,reduceCtorEq,Nat.reduceEqDiff];exact g27,by simp only [zAz,↓reduceIte,reduceCtorEq,Nat.reduceEqDiff];exact g28,rfl,pv,_,_,by simp only [zAz,↓reduceIte,reduceCtorEq,Nat.reduceEqDiff];exact g7,by rw [List.replicate_zero,List.append_nil,Nat.add_zero];exact hg.more _,by rw [List.getElem?_append_right (Nat.le_refl _),Nat.sub_self];rfl,by omega,rfl⟩
    · have hie:i=lst.length:=by omega
      subst hie
      rw [List.take_length] at hg
      rw [hpe] at hg
      (repeat' (first
  | (with_reducible first|refine zJx ?_|refine zGv ?_|refine zFz ?_|refine zEv ?_|refine zFy ?_|refine zJw ?_|refine zHz ?_|refine zCz ?_|refine zDw ?_|refine zCy ?_|refine zCv ?_|refine zEx ?_|refine zDz ?_|refine zCx ?_|refine zBx ?_|refine zEz ?_|refine zEy ?_|refine zAw ?_|refine zBy ?_)
  | refine zDy ?_|refine zEw rfl ?_|refine zIv ?_|refine zJy ?_
  | ((first|refine zGw rfl rfl rfl rfl rfl fun K_ hK_=>?_|refine zGx rfl rfl rfl rfl rfl fun K_ hK_=>?_);simp only [zAz,zDx,zGz,↓reduceIte,reduceCtorEq,Nat.reduceEqDiff,Bool.not_true,Bool.not_false];refine hK_ _ ?_;clear hK_ K_)
  | refine zDv (by decide) ?_
  | ((try first|refine zKy rfl rfl rfl ?_|refine zIw rfl rfl ?_|refine zKx rfl rfl rfl ?_|refine zJz rfl rfl ?_);(refine zIx fun Q_ hQ_=>?_;simp (disch:=first|omega|(simp only [List.length_cons,List.length_nil,List.length_append];omega)) only [bb,bp,zLz,↓reduceIte,reduceCtorEq,Nat.reduceEqDiff,Nat.reduceLT,Nat.reduceLeDiff,Nat.reduceAdd,Nat.reduceMul,Nat.reduceSub,Nat.reduceBEq,Int.reduceToNat,cond_true,cond_false,eq_self,beq_self_eq_true,hl,hlv,f1,f2,fw1,fw2,fp1,fp2,g7,g26,g27,g28,zFw wf,zGy wf,zBv wf,zFx wf,zAy wf,zAx,tEvZ20,zIy,zIz,zHv,zHw,zAv wf];first|(refine zCw (Q:=Q_) (fun hp_=>?_) (fun hp_=>?_) <;> first|(exfalso;omega)|(refine hQ_ _ _ ?_;clear hQ_ Q_))|(refine zBw (Q:=Q_) (fun hp_=>?_) (fun hp_=>?_) <;> first|(exfalso;omega)|(refine hQ_ _ _ ?_;clear hQ_ Q_))|(refine hQ_ _ _ ?_;clear hQ_ Q_)))
  | (refine zHy fun K_ hK_=>?_;simp (disch:=omega) only [zFv,zAz,zHx,↓reduceIte,reduceCtorEq,Nat.reduceEqDiff,Nat.reduceLT];refine hK_ _ ?_;clear hK_ K_)))
      refine zKz _ _ rfl (ret2 (by decide) (by decide)) ?_
      simp only [zAz,↓reduceIte,reduceCtorEq,Nat.reduceEqDiff]
      have hpos:0<(prof++List.replicate (xs.length+1 - p) L).length:=by rw [hpo.len];omega
      generalize prof++List.replicate (xs.length+1 - p) L=F at *
      obtain ⟨hgl,h1|⟨gi,hpv,hgg⟩⟩:=hg
      · omega
      · subst hpv
        refine xUx wf hw (fun hfl=>absurd (show false=true from hfl) (by decide)) (fun _=>?_)
        refine ⟨F,_,M'++G,hpo,capu_none,fun J w=>?_,rfl,rfl⟩
        exact Sl.new (k:=M'.length+gi) wf (by rw [List.length_map,Nat.mul_one]) (by rw [List.append_assoc,xGy,List.getElem?_append_left (zMz hgg)];exact hgg)
  · exact ⟨Nat.zero_le _,by simp only [zAz,↓reduceIte,reduceCtorEq,Nat.reduceEqDiff],by simp only [zAz,↓reduceIte,reduceCtorEq,Nat.reduceEqDiff],by simp only [zAz,↓reduceIte,reduceCtorEq,Nat.reduceEqDiff];try rfl,rfl,.nils,[],_,by simp only [zAz,↓reduceIte,reduceCtorEq,Nat.reduceEqDiff],by rw [List.take_zero];exact Grow.nil _ _ _ _ _,Nat.le_refl _,by rw [List.append_nil]⟩
end Go.Proofs.Ytmincoafjnnkpaa
end

section
namespace Go.Proofs.Ytmincoafjnnkpaa
open Go.Ev
set_option maxRecDepth 100000
set_option linter.unusedSimpArgs false
set_option linter.unusedVariables false
set_option maxHeartbeats 2000000
end Go.Proofs.Ytmincoafjnnkpaa
end

section
namespace Go.Proofs.Ytmincoafjnnkpaa
open Go.Ev
set_option maxRecDepth 100000
set_option linter.unusedSimpArgs false
set_option linter.unusedVariables false
set_option maxHeartbeats 2000000
theorem tEvZ31 :type_of% (And.intro (And.intro (And.intro (And.intro (And.intro (And.intro (And.intro (@yQw) (@yQx)) (And.intro (@yQy) (@yQz))) (And.intro (And.intro (@yPv) (@yPw)) (And.intro (@ia_2) (And.intro (@ia_3) (@ia_4))))) (And.intro (And.intro (And.intro (@ia_5) (@yPx)) (And.intro (@yPy) (@yPz))) (And.intro (And.intro (@yOv) (@yOw)) (And.intro (@yOx) (And.intro (@zSz) (@yOy)))))) (And.intro (And.intro (And.intro (And.intro (@yOz) (@yNv)) (And.intro (@yNw) (@yNx))) (And.intro (And.intro (@yNy) (@yNz)) (And.intro (@yMv) (And.intro (@yMw) (@sz_2))))) (And.intro (And.intro (And.intro (@sz_3) (@sz_4)) (And.intro (@sz_5) (And.intro (@zRz) (@zYv)))) (And.intro (And.intro (@zYw) (@zYx)) (And.intro (@zYy) (And.intro (@zYz) (@zRw))))))) (And.intro (And.intro (And.intro (And.intro (And.intro (@zXv) (@zXw)) (And.intro (@zXx) (@zQy))) (And.intro (And.intro (@zXy) (@zXz)) (And.intro (@zWv) (And.intro (@zWw) (@zWx))))) (And.intro (And.intro (And.intro (@ze_2) (@ze_3)) (And.intro (@ze_4) (And.intro (@ze_5) (@zWy)))) (And.intro (And.intro (@zWz) (@zVv)) (And.intro (@zVw) (And.intro (@zVx) (@zVy)))))) (And.intro (And.intro (And.intro (And.intro (@zVz) (@zUv)) (And.intro (@zUw) (@zUx))) (And.intro (And.intro (@zUy) (@zUz)) (And.intro (@zTv) (And.intro (@zTw) (@zTx))))) (And.intro (And.intro (And.intro (@zNv) (@zNw)) (And.intro (@zNx) (And.intro (@zNy) (@zNz)))) (And.intro (And.intro (@zMv) (@zMw)) (And.intro (@zMx) (And.intro (@zMy) (@yMx)))))))) (And.intro (And.intro (And.intro (And.intro (And.intro (And.intro (@yMy) (@yMz)) (And.intro (@yLv) (@yLw))) (And.intro (And.intro (@yLx) (@yLy)) (And.intro (@yLz) (And.intro (@yKv) (@yKw))))) (And.intro (And.intro (And.intro (@yKx) (@yKy)) (And.intro (@yKz) (@yJv))) (And.intro (And.intro (@yJw) (@yJx)) (And.intro (@yJy) (And.intro (@yJz) (@yIv)))))) (And.intro (And.intro (And.intro (And.intro (@yIw) (@yIx)) (And.intro (@yIy) (@yIz))) (And.intro (And.intro (@yHv) (@yHw)) (And.intro (@yHx) (And.intro (@yHy) (@yHz))))) (And.intro (And.intro (And.intro (@yGv) (@yGw)) (And.intro (@yGx) (And.intro (@yGy) (@yGz)))) (And.intro (And.intro (@yFv) (@yFw)) (And.intro (@yFx) (And.intro (@yFy) (@yFz))))))) (And.intro (And.intro (And.intro (And.intro (And.intro (@yEv) (@yEw)) (And.intro (@yEx) (@yEy))) (And.intro (And.intro (@yEz) (@yDv)) (And.intro (@yDw) (And.intro (@yDx) (@yDy))))) (And.intro (And.intro (And.intro (@yDz) (@yCv)) (And.intro (@yCw) (And.intro (@yCx) (@yCy)))) (And.intro (And.intro (@zSy) (@yCz)) (And.intro (@yBv) (And.intro (@yBw) (@yBx)))))) (And.intro (And.intro (And.intro (And.intro (@yBy) (@yBz)) (And.intro (@yAv) (@yAw))) (And.intro (And.intro (@yAx) (@yAy)) (And.intro (@yAz) (And.intro (@zZv) (@zZw))))) (And.intro (And.intro (And.intro (@zZx) (@zZy)) (And.intro (@zPv) (And.intro (@zTz) (@zSv)))) (And.intro (And.intro (@zQw) (@zSw)) (And.intro (@zRx) (And.intro (@zSx) (@zRv))))))))):=And.intro (And.intro (And.intro (And.intro (And.intro (And.intro (And.intro (@yQw) (@yQx)) (And.intro (@yQy) (@yQz))) (And.intro (And.intro (@yPv) (@yPw)) (And.intro (@ia_2) (And.intro (@ia_3) (@ia_4))))) (And.intro (And.intro (And.intro (@ia_5) (@yPx)) (And.intro (@yPy) (@yPz))) (And.intro (And.intro (@yOv) (@yOw)) (And.intro (@yOx) (And.intro (@zSz) (@yOy)))))) (And.intro (And.intro (And.intro (And.intro (@yOz) (@yNv)) (And.intro (@yNw) (@yNx))) (And.intro (And.intro (@yNy) (@yNz)) (And.intro (@yMv) (And.intro (@yMw) (@sz_2))))) (And.intro (And.intro (And.intro (@sz_3) (@sz_4)) (And.intro (@sz_5) (And.intro (@zRz) (@zYv)))) (And.intro (And.intro (@zYw) (@zYx)) (And.intro (@zYy) (And.intro (@zYz) (@zRw))))))) (And.intro (And.intro (And.intro (And.intro (And.intro (@zXv) (@zXw)) (And.intro (@zXx) (@zQy))) (And.intro (And.intro (@zXy) (@zXz)) (And.intro (@zWv) (And.intro (@zWw) (@zWx))))) (And.intro (And.intro (And.intro (@ze_2) (@ze_3)) (And.intro (@ze_4) (And.intro (@ze_5) (@zWy)))) (And.intro (And.intro (@zWz) (@zVv)) (And.intro (@zVw) (And.intro (@zVx) (@zVy)))))) (And.intro (And.intro (And.intro (And.intro (@zVz) (@zUv)) (And.intro (@zUw) (@zUx))) (And.intro (And.intro (@zUy) (@zUz)) (And.intro (@zTv) (And.intro (@zTw) (@zTx))))) (And.intro (And.intro (And.intro (@zNv) (@zNw)) (And.intro (@zNx) (And.intro (@zNy) (@zNz)))) (And.intro (And.intro (@zMv) (@zMw)) (And.intro (@zMx) (And.intro (@zMy) (@yMx)))))))) (And.intro (And.intro (And.intro (And.intro (And.intro (And.intro (@yMy) (@yMz)) (And.intro (@yLv) (@yLw))) (And.intro (And.intro (@yLx) (@yLy)) (And.intro (@yLz) (And.intro (@yKv) (@yKw))))) (And.intro (And.intro (And.intro (@yKx) (@yKy)) (And.intro (@yKz) (@yJv))) (And.intro (And.intro (@yJw) (@yJx)) (And.intro (@yJy) (And.intro (@yJz) (@yIv)))))) (And.intro (And.intro (And.intro (And.intro (@yIw) (@yIx)) (And.intro (@yIy) (@yIz))) (And.intro (And.intro (@yHv) (@yHw)) (And.intro (@yHx) (And.intro (@yHy) (@yHz))))) (And.intro (And.intro (And.intro (@yGv) (@yGw)) (And.intro (@yGx) (And.intro (@yGy) (@yGz)))) (And.intro (And.intro (@yFv) (@yFw)) (And.intro (@yFx) (And.intro (@yFy) (@yFz))))))) (And.intro (And.intro (And.intro (And.intro (And.intro (@yEv) (@yEw)) (And.intro (@yEx) (@yEy))) (And.intro (And.intro (@yEz) (@yDv)) (And.intro (@yDw) (And.intro (@yDx) (@yDy))))) (And.intro (And.intro (And.intro (@yDz) (@yCv)) (And.intro (@yCw) (And.intro (@yCx) (@yCy)))) (And.intro (And.intro (@zSy) (@yCz)) (And.intro (@yBv) (And.intro (@yBw) (@yBx)))))) (And.intro (And.intro (And.intro (And.intro (@yBy) (@yBz)) (And.intro (@yAv) (@yAw))) (And.intro (And.intro (@yAx) (@yAy)) (And.intro (@yAz) (And.intro (@zZv) (@zZw))))) (And.intro (And.intro (And.intro (@zZx) (@zZy)) (And.intro (@zPv) (And.intro (@zTz) (@zSv)))) (And.intro (And.intro (@zQw) (@zSw)) (And.intro (@zRx) (And.intro (@zSx) (@zRv))))))))
theorem rComplexity (xs:List Int) (he:errB xs=0) (C:Nat) (hC:Cpx (sq (bitL xs)) xs.length C) (a:AV) (h:H) (wf:Wf h) (hs:Sl h a 1 xs.length (xs.map ii)):(om Try.prog KK).call (.fn 29 [a]) h = .ok (ii (C:Int)) h:=by
  obtain ⟨hx1,hx2⟩:=xDv he
  have hxl:=zLw xs
  have hs':Sl h a 1 (bitL xs).length ((bitL xs).map bi):=by rw [zLw,← hx2];exact hs
  have hCn:C≤xs.length:=hC.least 0 xs.length fun i h1 h2=>by omega
  have cs : ∀ L,L≤C→(om Try.prog KK).call (.fn 57 [a,ii (L:Int)]) (X h [] h.clock) = .ok (.bool (decide (L=C))) (X h [] h.clock):=fun L hL=>by
    obtain ⟨b,hb,e⟩:=solved (bitL xs) (by omega) L (by omega) a (X h [] h.clock) (wf.X (by simp)) (hs'.up wf _ _)
    rw [e,hxl] at *
    have:b=decide (L=C):=by
      by_cases h1:L=C
      · rw [decide_eq_true h1,hb,h1];exact hC.some
      · rw [decide_eq_false h1]
        cases hbb:b
        · rfl
        · obtain ⟨T,_,hm⟩:=hb.1 hbb
          have:=hC.least _ _ hm
          omega
    rw [this]
  obtain ⟨f1,f2⟩:=zPy hs
  refine zQv (zLy (fn:=Try.f29) Try.func29 rfl rfl rfl rfl rfl ?_)
  simp only [zLz]
  (repeat' (first
  | (with_reducible first|refine zJx ?_|refine zGv ?_|refine zFz ?_|refine zEv ?_|refine zFy ?_|refine zJw ?_|refine zHz ?_|refine zCz ?_|refine zDw ?_|refine zCy ?_|refine zCv ?_|refine zEx ?_|refine zDz ?_|refine zCx ?_|refine zBx ?_|refine zEz ?_|refine zEy ?_|refine zAw ?_|refine zBy ?_)
  | refine zDy ?_|refine zEw rfl ?_|refine zIv ?_|refine zJy ?_
  | ((first|refine zGw rfl rfl rfl rfl rfl fun K_ hK_=>?_|refine zGx rfl rfl rfl rfl rfl fun K_ hK_=>?_);simp only [zAz,zDx,zGz,↓reduceIte,reduceCtorEq,Nat.reduceEqDiff,Bool.not_true,Bool.not_false];refine hK_ _ ?_;clear hK_ K_)
  | refine zDv (by decide) ?_
  | ((try first|refine zKy rfl rfl rfl ?_|refine zIw rfl rfl ?_|refine zKx rfl rfl rfl ?_|refine zJz rfl rfl ?_);(refine zIx fun Q_ hQ_=>?_;simp (disch:=first|omega|(simp only [List.length_cons,List.length_nil,List.length_append];omega)) only [bb,bp,zLz,↓reduceIte,reduceCtorEq,Nat.reduceEqDiff,Nat.reduceLT,Nat.reduceLeDiff,Nat.reduceAdd,Nat.reduceMul,Nat.reduceSub,Nat.reduceBEq,Int.reduceToNat,cond_true,cond_false,eq_self,beq_self_eq_true,f1,f2,zFw wf,zGy wf,zBv wf,zFx wf,zAy wf,zAx,tEvZ31,zIy,zIz,zHv,zHw,zAv wf];first|(refine zCw (Q:=Q_) (fun hp_=>?_) (fun hp_=>?_) <;> first|(exfalso;omega)|(refine hQ_ _ _ ?_;clear hQ_ Q_))|(refine zBw (Q:=Q_) (fun hp_=>?_) (fun hp_=>?_) <;> first|(exfalso;omega)|(refine hQ_ _ _ ?_;clear hQ_ Q_))|(refine hQ_ _ _ ?_;clear hQ_ Q_)))
  | (refine zHy fun K_ hK_=>?_;simp (disch:=omega) only [zFv,zAz,zHx,↓reduceIte,reduceCtorEq,Nat.reduceEqDiff,Nat.reduceLT];refine hK_ _ ?_;clear hK_ K_)))
  refine zOv (α:=Nat) (fun (L:Nat) f d h'=>L≤C∧f 0=a∧f 3=ii (L:Int)∧d=[]∧h'=X h [] h.clock) (fun L=>C - L) ?_ (C+1) 0 (by omega) ?_
  · rintro L f d h' ⟨hL,g0,g3,rfl,rfl⟩
    have csL:=cs L hL
    clear cs
    by_cases hlt:L<C
    · rw [decide_eq_false (by omega)] at csL
      (repeat' (first
  | (with_reducible first|refine zJx ?_|refine zGv ?_|refine zFz ?_|refine zEv ?_|refine zFy ?_|refine zJw ?_|refine zHz ?_|refine zCz ?_|refine zDw ?_|refine zCy ?_|refine zCv ?_|refine zEx ?_|refine zDz ?_|refine zCx ?_|refine zBx ?_|refine zEz ?_|refine zEy ?_|refine zAw ?_|refine zBy ?_)
  | refine zDy ?_|refine zEw rfl ?_|refine zIv ?_|refine zJy ?_
  | ((first|refine zGw rfl rfl rfl rfl rfl fun K_ hK_=>?_|refine zGx rfl rfl rfl rfl rfl fun K_ hK_=>?_);simp only [zAz,zDx,zGz,↓reduceIte,reduceCtorEq,Nat.reduceEqDiff,Bool.not_true,Bool.not_false];refine hK_ _ ?_;clear hK_ K_)
  | refine zDv (by decide) ?_
  | ((try first|refine zKy rfl rfl rfl ?_|refine zIw rfl rfl ?_|refine zKx rfl rfl rfl ?_|refine zJz rfl rfl ?_);(refine zIx fun Q_ hQ_=>?_;simp (disch:=first|omega|(simp only [List.length_cons,List.length_nil,List.length_append];omega)) only [bb,bp,zLz,↓reduceIte,reduceCtorEq,Nat.reduceEqDiff,Nat.reduceLT,Nat.reduceLeDiff,Nat.reduceAdd,Nat.reduceMul,Nat.reduceSub,Nat.reduceBEq,Int.reduceToNat,cond_true,cond_false,eq_self,beq_self_eq_true,f1,f2,g0,g3,zFw wf,zGy wf,zBv wf,zFx wf,zAy wf,zAx,tEvZ31,zIy,zIz,zHv,zHw,zAv wf];first|(refine zCw (Q:=Q_) (fun hp_=>?_) (fun hp_=>?_) <;> first|(exfalso;omega)|(refine hQ_ _ _ ?_;clear hQ_ Q_))|(refine zBw (Q:=Q_) (fun hp_=>?_) (fun hp_=>?_) <;> first|(exfalso;omega)|(refine hQ_ _ _ ?_;clear hQ_ Q_))|(refine hQ_ _ _ ?_;clear hQ_ Q_)|(refine zOy (csL) ?_;refine hQ_ _ _ ?_;clear hQ_ Q_)))
  | (refine zHy fun K_ hK_=>?_;simp (disch:=omega) only [zFv,zAz,zHx,↓reduceIte,reduceCtorEq,Nat.reduceEqDiff,Nat.reduceLT];refine hK_ _ ?_;clear hK_ K_)))
      exact zKw (L+1) (by omega) ⟨hlt,by simp only [zAz,↓reduceIte,reduceCtorEq,Nat.reduceEqDiff];exact g0,by simp only [zAz,↓reduceIte,reduceCtorEq,Nat.reduceEqDiff];rfl,rfl,rfl⟩
    · have hLe:L=C:=by omega
      rw [decide_eq_true hLe] at csL
      subst hLe
      (repeat' (first
  | (with_reducible first|refine zJx ?_|refine zGv ?_|refine zFz ?_|refine zEv ?_|refine zFy ?_|refine zJw ?_|refine zHz ?_|refine zCz ?_|refine zDw ?_|refine zCy ?_|refine zCv ?_|refine zEx ?_|refine zDz ?_|refine zCx ?_|refine zBx ?_|refine zEz ?_|refine zEy ?_|refine zAw ?_|refine zBy ?_)
  | refine zDy ?_|refine zEw rfl ?_|refine zIv ?_|refine zJy ?_
  | ((first|refine zGw rfl rfl rfl rfl rfl fun K_ hK_=>?_|refine zGx rfl rfl rfl rfl rfl fun K_ hK_=>?_);simp only [zAz,zDx,zGz,↓reduceIte,reduceCtorEq,Nat.reduceEqDiff,Bool.not_true,Bool.not_false];refine hK_ _ ?_;clear hK_ K_)
  | refine zDv (by decide) ?_
  | ((try first|refine zKy rfl rfl rfl ?_|refine zIw rfl rfl ?_|refine zKx rfl rfl rfl ?_|refine zJz rfl rfl ?_);(refine zIx fun Q_ hQ_=>?_;simp (disch:=first|omega|(simp only [List.length_cons,List.length_nil,List.length_append];omega)) only [bb,bp,zLz,↓reduceIte,reduceCtorEq,Nat.reduceEqDiff,Nat.reduceLT,Nat.reduceLeDiff,Nat.reduceAdd,Nat.reduceMul,Nat.reduceSub,Nat.reduceBEq,Int.reduceToNat,cond_true,cond_false,eq_self,beq_self_eq_true,f1,f2,g0,g3,zFw wf,zGy wf,zBv wf,zFx wf,zAy wf,zAx,tEvZ31,zIy,zIz,zHv,zHw,zAv wf];first|(refine zCw (Q:=Q_) (fun hp_=>?_) (fun hp_=>?_) <;> first|(exfalso;omega)|(refine hQ_ _ _ ?_;clear hQ_ Q_))|(refine zBw (Q:=Q_) (fun hp_=>?_) (fun hp_=>?_) <;> first|(exfalso;omega)|(refine hQ_ _ _ ?_;clear hQ_ Q_))|(refine hQ_ _ _ ?_;clear hQ_ Q_)|(refine zOy (csL) ?_;refine hQ_ _ _ ?_;clear hQ_ Q_)))
  | (refine zHy fun K_ hK_=>?_;simp (disch:=omega) only [zFv,zAz,zHx,↓reduceIte,reduceCtorEq,Nat.reduceEqDiff,Nat.reduceLT];refine hK_ _ ?_;clear hK_ K_)))
      (refine zKz _ _ rfl (ret1 (by decide)) ?_;simp only [zAz,↓reduceIte,reduceCtorEq,Nat.reduceEqDiff];refine zKv rfl (by omega) ?_)
      exact ⟨rfl,rfl⟩
  · exact ⟨Nat.zero_le _,by simp only [zAz,↓reduceIte,reduceCtorEq,Nat.reduceEqDiff],by simp only [zAz,↓reduceIte,reduceCtorEq,Nat.reduceEqDiff];try rfl,rfl,rfl⟩
end Go.Proofs.Ytmincoafjnnkpaa
end

section
namespace Go.Proofs.Ytmincoafjnnkpaa
open Go.Ev
set_option maxRecDepth 100000
set_option linter.unusedSimpArgs false
set_option linter.unusedVariables false
set_option maxHeartbeats 2000000
theorem tEvZ22 :type_of% (And.intro (And.intro (And.intro (And.intro (And.intro (And.intro (And.intro (@yQw) (@yQx)) (And.intro (@yQy) (@yQz))) (And.intro (And.intro (@yPv) (@yPw)) (And.intro (@ia_2) (And.intro (@ia_3) (@ia_4))))) (And.intro (And.intro (And.intro (@ia_5) (@yPx)) (And.intro (@yPy) (@yPz))) (And.intro (And.intro (@yOv) (@yOw)) (And.intro (@yOx) (And.intro (@zSz) (@yOy)))))) (And.intro (And.intro (And.intro (And.intro (@yOz) (@yNv)) (And.intro (@yNw) (@yNx))) (And.intro (And.intro (@yNy) (@yNz)) (And.intro (@yMv) (And.intro (@yMw) (@sz_2))))) (And.intro (And.intro (And.intro (@sz_3) (@sz_4)) (And.intro (@sz_5) (And.intro (@zRz) (@zYv)))) (And.intro (And.intro (@zYw) (@zYx)) (And.intro (@zYy) (And.intro (@zYz) (@zRw))))))) (And.intro (And.intro (And.intro (And.intro (And.intro (@zXv) (@zXw)) (And.intro (@zXx) (@zQy))) (And.intro (And.intro (@zXy) (@zXz)) (And.intro (@zWv) (And.intro (@zWw) (@zWx))))) (And.intro (And.intro (And.intro (@ze_2) (@ze_3)) (And.intro (@ze_4) (And.intro (@ze_5) (@zWy)))) (And.intro (And.intro (@zWz) (@zVv)) (And.intro (@zVw) (And.intro (@zVx) (@zVy)))))) (And.intro (And.intro (And.intro (And.intro (@zVz) (@zUv)) (And.intro (@zUw) (@zUx))) (And.intro (And.intro (@zUy) (@zUz)) (And.intro (@zTv) (And.intro (@zTw) (@zTx))))) (And.intro (And.intro (And.intro (@zNv) (@zNw)) (And.intro (@zNx) (And.intro (@zNy) (@zNz)))) (And.intro (And.intro (@zMv) (@zMw)) (And.intro (@zMx) (And.intro (@zMy) (@yMx)))))))) (And.intro (And.intro (And.intro (And.intro (And.intro (And.intro (@yMy) (@yMz)) (And.intro (@yLv) (@yLw))) (And.intro (And.intro (@yLx) (@yLy)) (And.intro (@yLz) (And.intro (@yKv) (@yKw))))) (And.intro (And.intro (And.intro (@yKx) (@yKy)) (And.intro (@yKz) (@yJv))) (And.intro (And.intro (@yJw) (@yJx)) (And.intro (@yJy) (And.intro (@yJz) (@yIv)))))) (And.intro (And.intro (And.intro (And.intro (@yIw) (@yIx)) (And.intro (@yIy) (@yIz))) (And.intro (And.intro (@yHv) (@yHw)) (And.intro (@yHx) (And.intro (@yHy) (@yHz))))) (And.intro (And.intro (And.intro (@yGv) (@yGw)) (And.intro (@yGx) (And.intro (@yGy) (@yGz)))) (And.intro (And.intro (@yFv) (@yFw)) (And.intro (@yFx) (And.intro (@yFy) (@yFz))))))) (And.intro (And.intro (And.intro (And.intro (And.intro (@yEv) (@yEw)) (And.intro (@yEx) (@yEy))) (And.intro (And.intro (@yEz) (@yDv)) (And.intro (@yDw) (And.intro (@yDx) (@yDy))))) (And.intro (And.intro (And.intro (@yDz) (@yCv)) (And.intro (@yCw) (And.intro (@yCx) (@yCy)))) (And.intro (And.intro (@zSy) (@yCz)) (And.intro (@yBv) (And.intro (@yBw) (@yBx)))))) (And.intro (And.intro (And.intro (And.intro (@yBy) (@yBz)) (And.intro (@yAv) (@yAw))) (And.intro (And.intro (@yAx) (@yAy)) (And.intro (@yAz) (And.intro (@zZv) (@zZw))))) (And.intro (And.intro (And.intro (@zZx) (@zZy)) (And.intro (@zPv) (And.intro (@zTz) (@zSv)))) (And.intro (And.intro (@zQw) (@zSw)) (And.intro (@zRx) (And.intro (@zSx) (@zRv))))))))):=And.intro (And.intro (And.intro (And.intro (And.intro (And.intro (And.intro (@yQw) (@yQx)) (And.intro (@yQy) (@yQz))) (And.intro (And.intro (@yPv) (@yPw)) (And.intro (@ia_2) (And.intro (@ia_3) (@ia_4))))) (And.intro (And.intro (And.intro (@ia_5) (@yPx)) (And.intro (@yPy) (@yPz))) (And.intro (And.intro (@yOv) (@yOw)) (And.intro (@yOx) (And.intro (@zSz) (@yOy)))))) (And.intro (And.intro (And.intro (And.intro (@yOz) (@yNv)) (And.intro (@yNw) (@yNx))) (And.intro (And.intro (@yNy) (@yNz)) (And.intro (@yMv) (And.intro (@yMw) (@sz_2))))) (And.intro (And.intro (And.intro (@sz_3) (@sz_4)) (And.intro (@sz_5) (And.intro (@zRz) (@zYv)))) (And.intro (And.intro (@zYw) (@zYx)) (And.intro (@zYy) (And.intro (@zYz) (@zRw))))))) (And.intro (And.intro (And.intro (And.intro (And.intro (@zXv) (@zXw)) (And.intro (@zXx) (@zQy))) (And.intro (And.intro (@zXy) (@zXz)) (And.intro (@zWv) (And.intro (@zWw) (@zWx))))) (And.intro (And.intro (And.intro (@ze_2) (@ze_3)) (And.intro (@ze_4) (And.intro (@ze_5) (@zWy)))) (And.intro (And.intro (@zWz) (@zVv)) (And.intro (@zVw) (And.intro (@zVx) (@zVy)))))) (And.intro (And.intro (And.intro (And.intro (@zVz) (@zUv)) (And.intro (@zUw) (@zUx))) (And.intro (And.intro (@zUy) (@zUz)) (And.intro (@zTv) (And.intro (@zTw) (@zTx))))) (And.intro (And.intro (And.intro (@zNv) (@zNw)) (And.intro (@zNx) (And.intro (@zNy) (@zNz)))) (And.intro (And.intro (@zMv) (@zMw)) (And.intro (@zMx) (And.intro (@zMy) (@yMx)))))))) (And.intro (And.intro (And.intro (And.intro (And.intro (And.intro (@yMy) (@yMz)) (And.intro (@yLv) (@yLw))) (And.intro (And.intro (@yLx) (@yLy)) (And.intro (@yLz) (And.intro (@yKv) (@yKw))))) (And.intro (And.intro (And.intro (@yKx) (@yKy)) (And.intro (@yKz) (@yJv))) (And.intro (And.intro (@yJw) (@yJx)) (And.intro (@yJy) (And.intro (@yJz) (@yIv)))))) (And.intro (And.intro (And.intro (And.intro (@yIw) (@yIx)) (And.intro (@yIy) (@yIz))) (And.intro (And.intro (@yHv) (@yHw)) (And.intro (@yHx) (And.intro (@yHy) (@yHz))))) (And.intro (And.intro (And.intro (@yGv) (@yGw)) (And.intro (@yGx) (And.intro (@yGy) (@yGz)))) (And.intro (And.intro (@yFv) (@yFw)) (And.intro (@yFx) (And.intro (@yFy) (@yFz))))))) (And.intro (And.intro (And.intro (And.intro (And.intro (@yEv) (@yEw)) (And.intro (@yEx) (@yEy))) (And.intro (And.intro (@yEz) (@yDv)) (And.intro (@yDw) (And.intro (@yDx) (@yDy))))) (And.intro (And.intro (And.intro (@yDz) (@yCv)) (And.intro (@yCw) (And.intro (@yCx) (@yCy)))) (And.intro (And.intro (@zSy) (@yCz)) (And.intro (@yBv) (And.intro (@yBw) (@yBx)))))) (And.intro (And.intro (And.intro (And.intro (@yBy) (@yBz)) (And.intro (@yAv) (@yAw))) (And.intro (And.intro (@yAx) (@yAy)) (And.intro (@yAz) (And.intro (@zZv) (@zZw))))) (And.intro (And.intro (And.intro (@zZx) (@zZy)) (And.intro (@zPv) (And.intro (@zTz) (@zSv)))) (And.intro (And.intro (@zQw) (@zSw)) (And.intro (@zRx) (And.intro (@zSx) (@zRv))))))))
theorem WrongAt_unique {T L:Nat} {s:Nat→Bool} {n r r':Nat} (a:WrongAt T L s n r) (b:WrongAt T L s n r'):r=r':=by
  rcases a with ⟨a1,a2⟩|⟨a1,a2,a3,a4,a5⟩ <;> rcases b with ⟨b1,b2⟩|⟨b1,b2,b3,b4,b5⟩
  · omega
  · omega
  · omega
  · rcases Nat.lt_trichotomy r r' with h|h|h
    · exact absurd (b4 r a2 h) (a5 (by omega))
    · exact h
    · exact absurd (a4 r' b2 h) (b5 (by omega))
noncomputable def wr (T L:Nat) (s:Nat→Bool) (n:Nat):Nat:=by
  classical
  exact if h : ∃ r,WrongAt T L s n r then Classical.choose h else 0
theorem wr_of {T L:Nat} {s:Nat→Bool} {n r:Nat} (h:WrongAt T L s n r):wr T L s n=r:=by
  have hex : ∃ r,WrongAt T L s n r:=⟨r,h⟩
  unfold wr
  rw [dif_pos hex]
  exact WrongAt_unique (Classical.choose_spec hex) h
theorem wrong_eq (T Ln:Nat) (hT:T<2 ^ 128) (hL:Ln≤128) (bs:List Bool) (hb:bs.length≤128) (a:AV) (hc:CapU 1 a) (h:H) (wf:Wf h) (hs:Sl h a 1 bs.length (bs.map bi)) :
    (om Try.prog KK).call (.fn 47 [.agg (rg T Ln),a]) h = .ok (ii (wr T Ln (sq bs) bs.length:Nat)) h∧WrongAt T Ln (sq bs) bs.length (wr T Ln (sq bs) bs.length):=by
  obtain ⟨v,h',e,r,hr,rfl,rfl⟩:=wrong T Ln hT hL bs hb a hc h wf hs
  rw [wr_of hr]
  exact ⟨e,hr⟩
def rightB (T L:Nat) (s:Nat→Bool) (q:Nat):Bool:=decide (L≤q) && (makesB T L s q && !makesB T L s (q+1))
theorem rightB_iff {T L:Nat} {s:Nat→Bool} {q:Nat} : rightB T L s q=true ↔ Wrong T L s q:=by
  unfold rightB
  rw [Bool.and_eq_true,Bool.and_eq_true,decide_eq_true_eq,yVw,Bool.not_eq_true',← Bool.not_eq_true,yVw]
  constructor
  · rintro ⟨h1,h2,h3⟩
    exact ⟨h1,h2,fun e=>h3 fun i h4 h5=>by
      by_cases e2:i=q
      · rw [e2];exact e
      · exact h2 i h4 (by omega)⟩
  · intro w
    exact ⟨w.le,w.makes,fun h=>w.bad (h q w.le (by omega))⟩
theorem makesB_congr {T L n:Nat} {s t:Nat→Bool} (e : ∀ i,i<n→s i=t i):makesB T L s n=makesB T L t n:=by
  rw [Bool.eq_iff_iff,yVw,yVw]
  exact ⟨fun h=>xMw h e,fun h=>xMw h fun i hi=>(e i hi).symm⟩
theorem isRight (T L q:Nat) (hT:T<2 ^ 128) (hL:L≤128) (bs:List Bool) (hb:bs.length≤128) (hq:q<bs.length) (a:AV) (hc:CapU 1 a) (h:H) (wf:Wf h) (hs:Sl h a 1 bs.length (bs.map bi)) :
    (om Try.prog KK).call (.fn 51 [.agg (attC ⟨T,L,(q:Int)⟩),a]) h = .ok (.bool (rightB T L (sq bs) q)) h:=by
  obtain ⟨f1,f2⟩:=zPy hs
  obtain ⟨c,hcut,hsc,hcc⟩:=hs.cutTo (P:=Try.prog) (k:=q+1) (by omega) yRy sz_3 (by omega) hc
  rw [Nat.mul_one,← List.map_take] at hsc
  have lt1:(bs.take (q+1)).length=q+1:=by rw [List.length_take];omega
  have hsc':Sl h c 1 (bs.take (q+1)).length ((bs.take (q+1)).map bi):=by rw [lt1];exact hsc
  have hq1:(q:Int)+1=((q+1:Nat):Int):=by omega
  obtain ⟨f3,f4⟩:=zPy hsc
  have c1 : ∀ (l:List AO) (w:Nat),w≤h.clock+l.length→(om Try.prog KK).call (.fn 47 [.agg [uu (T % 2 ^ 64),uu (T >>> 64),ii (L:Int)],c]) (X h l w) = .ok (ii (wr T L (sq (bs.take (q+1))) (q+1):Nat)) (X h l w):=fun l w hw=>by
    have:=(wrong_eq T L hT hL (bs.take (q+1)) (by omega) c hcc _ (wf.X hw) (hsc'.up wf l w)).1
    rw [lt1] at this
    exact this
  have hw:=(wrong_eq T L hT hL (bs.take (q+1)) (by omega) c hcc _ wf hsc').2
  rw [lt1] at hw
  have hmk:L≤q→rightB T L (sq bs) q=decide (((wr T L (sq (bs.take (q+1))) (q+1):Nat):Int)=(q:Int)):=fun hLq=>by
    rw [Bool.eq_iff_iff,rightB_iff,decide_eq_true_eq]
    have hsq : ∀ i,i<q+1→sq (bs.take (q+1)) i=sq bs i:=fun i hi=>by simp only [sq,List.getD_eq_getElem?_getD,List.getElem?_take,if_pos hi]
    generalize wr T L (sq (bs.take (q+1))) (q+1)=r at *
    rcases hw with ⟨h1,_⟩|⟨h1,h2,h3,h4,h5⟩
    · omega
    · have h4':=xMw h4 (t:=sq bs) fun i hi=>hsq i (by omega)
      have h5':r<q+1→sq bs r≠pred T L (sq bs) r:=fun hr=>by
        rw [← hsq r hr,← yYx h2 fun j hj=>hsq j (by omega)]
        exact h5 hr
      constructor
      · intro w
        rcases Nat.lt_trichotomy r q with hr|hr|hr
        · exact absurd (w.makes r h2 hr) (h5' (by omega))
        · omega
        · exact absurd (h4' q w.le hr) w.bad
      · intro e
        have:r=q:=by omega
        subst this
        exact ⟨hLq,h4',h5' (by omega)⟩
  have hno : ¬ L≤q→rightB T L (sq bs) q=false:=fun hn=>by unfold rightB;rw [decide_eq_false hn];rfl
  unfold attC
  refine zQv (zLy (fn:=Try.f51) Try.func51 rfl rfl rfl rfl rfl ?_)
  simp only [zLz]
  by_cases hLq:L≤q
  · rw [hmk hLq]
    have hd:((L:Int)≤(q:Int)):=by omega
    generalize wr T L (sq (bs.take (q+1))) (q+1)=r at *
    clear hw hmk
    (repeat' (first
  | (with_reducible first|refine zJx ?_|refine zGv ?_|refine zFz ?_|refine zEv ?_|refine zFy ?_|refine zJw ?_|refine zHz ?_|refine zCz ?_|refine zDw ?_|refine zCy ?_|refine zCv ?_|refine zEx ?_|refine zDz ?_|refine zCx ?_|refine zBx ?_|refine zEz ?_|refine zEy ?_|refine zAw ?_|refine zBy ?_)
  | refine zDy ?_|refine zEw rfl ?_|refine zIv ?_|refine zJy ?_
  | ((first|refine zGw rfl rfl rfl rfl rfl fun K_ hK_=>?_|refine zGx rfl rfl rfl rfl rfl fun K_ hK_=>?_);simp only [zAz,zDx,zGz,↓reduceIte,reduceCtorEq,Nat.reduceEqDiff,Bool.not_true,Bool.not_false];refine hK_ _ ?_;clear hK_ K_)
  | refine zDv (by decide) ?_
  | ((try first|refine zKy rfl rfl rfl ?_|refine zIw rfl rfl ?_|refine zKx rfl rfl rfl ?_|refine zJz rfl rfl ?_);(refine zIx fun Q_ hQ_=>?_;simp (disch:=first|omega|(simp only [List.length_cons,List.length_nil,List.length_append];omega)) only [bb,bp,zLz,↓reduceIte,reduceCtorEq,Nat.reduceEqDiff,Nat.reduceLT,Nat.reduceLeDiff,Nat.reduceAdd,Nat.reduceMul,Nat.reduceSub,Nat.reduceBEq,Int.reduceToNat,cond_true,cond_false,eq_self,beq_self_eq_true,f1,f2,f3,f4,zFw wf,zGy wf,zBv wf,zFx wf,zAy wf,zAx,tEvZ22,zIy,zIz,zHv,zHw,zAv wf];first|(refine zCw (Q:=Q_) (fun hp_=>?_) (fun hp_=>?_) <;> first|(exfalso;omega)|(refine hQ_ _ _ ?_;clear hQ_ Q_))|(refine zBw (Q:=Q_) (fun hp_=>?_) (fun hp_=>?_) <;> first|(exfalso;omega)|(refine hQ_ _ _ ?_;clear hQ_ Q_))|(refine hQ_ _ _ ?_;clear hQ_ Q_)))
  | (refine zHy fun K_ hK_=>?_;simp (disch:=omega) only [zFv,zAz,zHx,↓reduceIte,reduceCtorEq,Nat.reduceEqDiff,Nat.reduceLT];refine hK_ _ ?_;clear hK_ K_)))
    refine zOz [.no,.no,.no,.no,.no,.full,.full,.no,.no,.no,.no,.no,.no,.no,.no,.no,.no,.full,.full,.full] (by kernel_rfl) ?_
    (repeat' (first
  | (with_reducible first|refine zJx ?_|refine zGv ?_|refine zFz ?_|refine zEv ?_|refine zFy ?_|refine zJw ?_|refine zHz ?_|refine zCz ?_|refine zDw ?_|refine zCy ?_|refine zCv ?_|refine zEx ?_|refine zDz ?_|refine zCx ?_|refine zBx ?_|refine zEz ?_|refine zEy ?_|refine zAw ?_|refine zBy ?_)
  | refine zDy ?_|refine zEw rfl ?_|refine zIv ?_|refine zJy ?_
  | ((first|refine zGw rfl rfl rfl rfl rfl fun K_ hK_=>?_|refine zGx rfl rfl rfl rfl rfl fun K_ hK_=>?_);simp only [zAz,zDx,zGz,↓reduceIte,reduceCtorEq,Nat.reduceEqDiff,Bool.not_true,Bool.not_false];refine hK_ _ ?_;clear hK_ K_)
  | refine zDv (by decide) ?_
  | ((try first|refine zKy rfl rfl rfl ?_|refine zIw rfl rfl ?_|refine zKx rfl rfl rfl ?_|refine zJz rfl rfl ?_);(refine zIx fun Q_ hQ_=>?_;simp (disch:=first|omega|(simp only [List.length_cons,List.length_nil,List.length_append];omega)) only [bb,bp,zLz,↓reduceIte,reduceCtorEq,Nat.reduceEqDiff,Nat.reduceLT,Nat.reduceLeDiff,Nat.reduceAdd,Nat.reduceMul,Nat.reduceSub,Nat.reduceBEq,Int.reduceToNat,cond_true,cond_false,eq_self,beq_self_eq_true,f1,f2,f3,f4,hq1,hcut,c1,zFw wf,zGy wf,zBv wf,zFx wf,zAy wf,zAx,tEvZ22,zIy,zIz,zHv,zHw,zAv wf];first|(refine zCw (Q:=Q_) (fun hp_=>?_) (fun hp_=>?_) <;> first|(exfalso;omega)|(refine hQ_ _ _ ?_;clear hQ_ Q_))|(refine zBw (Q:=Q_) (fun hp_=>?_) (fun hp_=>?_) <;> first|(exfalso;omega)|(refine hQ_ _ _ ?_;clear hQ_ Q_))|(refine hQ_ _ _ ?_;clear hQ_ Q_)))
  | (refine zHy fun K_ hK_=>?_;simp (disch:=omega) only [zFv,zAz,zHx,↓reduceIte,reduceCtorEq,Nat.reduceEqDiff,Nat.reduceLT];refine hK_ _ ?_;clear hK_ K_)))
    all_goals (refine zKz _ _ rfl (ret1 (by decide)) ?_;simp only [zAz,↓reduceIte,reduceCtorEq,Nat.reduceEqDiff];refine zKv rfl (by omega) ?_)
    all_goals exact ⟨by simp [*],rfl⟩
  · rw [hno hLq]
    have hd : ¬ ((L:Int)≤(q:Int)):=by omega
    clear hw hmk
    (repeat' (first
  | (with_reducible first|refine zJx ?_|refine zGv ?_|refine zFz ?_|refine zEv ?_|refine zFy ?_|refine zJw ?_|refine zHz ?_|refine zCz ?_|refine zDw ?_|refine zCy ?_|refine zCv ?_|refine zEx ?_|refine zDz ?_|refine zCx ?_|refine zBx ?_|refine zEz ?_|refine zEy ?_|refine zAw ?_|refine zBy ?_)
  | refine zDy ?_|refine zEw rfl ?_|refine zIv ?_|refine zJy ?_
  | ((first|refine zGw rfl rfl rfl rfl rfl fun K_ hK_=>?_|refine zGx rfl rfl rfl rfl rfl fun K_ hK_=>?_);simp only [zAz,zDx,zGz,↓reduceIte,reduceCtorEq,Nat.reduceEqDiff,Bool.not_true,Bool.not_false];refine hK_ _ ?_;clear hK_ K_)
  | refine zDv (by decide) ?_
  | ((try first|refine zKy rfl rfl rfl ?_|refine zIw rfl rfl ?_|refine zKx rfl rfl rfl ?_|refine zJz rfl rfl ?_);(refine zIx fun Q_ hQ_=>?_;simp (disch:=first|omega|(simp only [List.length_cons,List.length_nil,List.length_append];omega)) only [bb,bp,zLz,↓reduceIte,reduceCtorEq,Nat.reduceEqDiff,Nat.reduceLT,Nat.reduceLeDiff,Nat.reduceAdd,Nat.reduceMul,Nat.reduceSub,Nat.reduceBEq,Int.reduceToNat,cond_true,cond_false,eq_self,beq_self_eq_true,f1,f2,f3,f4,zFw wf,zGy wf,zBv wf,zFx wf,zAy wf,zAx,tEvZ22,zIy,zIz,zHv,zHw,zAv wf];first|(refine zCw (Q:=Q_) (fun hp_=>?_) (fun hp_=>?_) <;> first|(exfalso;omega)|(refine hQ_ _ _ ?_;clear hQ_ Q_))|(refine zBw (Q:=Q_) (fun hp_=>?_) (fun hp_=>?_) <;> first|(exfalso;omega)|(refine hQ_ _ _ ?_;clear hQ_ Q_))|(refine hQ_ _ _ ?_;clear hQ_ Q_)))
  | (refine zHy fun K_ hK_=>?_;simp (disch:=omega) only [zFv,zAz,zHx,↓reduceIte,reduceCtorEq,Nat.reduceEqDiff,Nat.reduceLT];refine hK_ _ ?_;clear hK_ K_)))
    refine zOz [.no,.no,.no,.no,.no,.full,.full,.no,.no,.no,.no,.no,.no,.no,.no,.no,.no,.full,.full,.full] (by kernel_rfl) ?_
    (repeat' (first
  | (with_reducible first|refine zJx ?_|refine zGv ?_|refine zFz ?_|refine zEv ?_|refine zFy ?_|refine zJw ?_|refine zHz ?_|refine zCz ?_|refine zDw ?_|refine zCy ?_|refine zCv ?_|refine zEx ?_|refine zDz ?_|refine zCx ?_|refine zBx ?_|refine zEz ?_|refine zEy ?_|refine zAw ?_|refine zBy ?_)
  | refine zDy ?_|refine zEw rfl ?_|refine zIv ?_|refine zJy ?_
  | ((first|refine zGw rfl rfl rfl rfl rfl fun K_ hK_=>?_|refine zGx rfl rfl rfl rfl rfl fun K_ hK_=>?_);simp only [zAz,zDx,zGz,↓reduceIte,reduceCtorEq,Nat.reduceEqDiff,Bool.not_true,Bool.not_false];refine hK_ _ ?_;clear hK_ K_)
  | refine zDv (by decide) ?_
  | ((try first|refine zKy rfl rfl rfl ?_|refine zIw rfl rfl ?_|refine zKx rfl rfl rfl ?_|refine zJz rfl rfl ?_);(refine zIx fun Q_ hQ_=>?_;simp (disch:=first|omega|(simp only [List.length_cons,List.length_nil,List.length_append];omega)) only [bb,bp,zLz,↓reduceIte,reduceCtorEq,Nat.reduceEqDiff,Nat.reduceLT,Nat.reduceLeDiff,Nat.reduceAdd,Nat.reduceMul,Nat.reduceSub,Nat.reduceBEq,Int.reduceToNat,cond_true,cond_false,eq_self,beq_self_eq_true,f1,f2,f3,f4,hq1,hcut,c1,zFw wf,zGy wf,zBv wf,zFx wf,zAy wf,zAx,tEvZ22,zIy,zIz,zHv,zHw,zAv wf];first|(refine zCw (Q:=Q_) (fun hp_=>?_) (fun hp_=>?_) <;> first|(exfalso;omega)|(refine hQ_ _ _ ?_;clear hQ_ Q_))|(refine zBw (Q:=Q_) (fun hp_=>?_) (fun hp_=>?_) <;> first|(exfalso;omega)|(refine hQ_ _ _ ?_;clear hQ_ Q_))|(refine hQ_ _ _ ?_;clear hQ_ Q_)))
  | (refine zHy fun K_ hK_=>?_;simp (disch:=omega) only [zFv,zAz,zHx,↓reduceIte,reduceCtorEq,Nat.reduceEqDiff,Nat.reduceLT];refine hK_ _ ?_;clear hK_ K_)))
    all_goals (refine zKz _ _ rfl (ret1 (by decide)) ?_;simp only [zAz,↓reduceIte,reduceCtorEq,Nat.reduceEqDiff];refine zKv rfl (by omega) ?_)
    all_goals exact ⟨rfl,rfl⟩
def cpV (xs ts:List Int) (q:Int):Int × Int:=if err2 xs ts=0 then (if q<0∨(xs.length:Int)≤q then (0,3) else if rightB (bN (bitL ts)) ts.length (sq (bitL xs)) q.toNat then (q+1 - (ts.length:Int),0) else (0,14)) else (0,err2 xs ts)
theorem checkProof (xs ts:List Int) (q:Int) (a b:AV) (ha:CapU 1 a) (h:H) (wf:Wf h) (hs:Sl h a 1 xs.length (xs.map ii)) (ht:Sl h b 1 ts.length (ts.map ii)) :
    (om Try.prog KK).call (.fn 26 [a,.agg [b,ii q]]) h = .ok (.tup [ii (cpV xs ts q).1,ii (cpV xs ts q).2]) h:=by
  have hl : ∀ h',lenE Try.prog 22 a h'=some (ii (xs.length:Int)):=fun h'=>hs.len yRy
  obtain ⟨f1,f2⟩:=zPy hs
  obtain ⟨f3,f4⟩:=zPy ht
  have c1 : ∀ (l:List AO) (w:Nat),w≤h.clock+l.length→(om Try.prog KK).call (.fn 46 [a,b]) (X h l w) = .ok (ii (err2 xs ts)) (X h l w):=fun l w hw=>checkBoth xs ts a b _ (wf.X hw) (hs.up wf l w) (ht.up wf l w)
  unfold cpV
  by_cases he:err2 xs ts=0
  · rw [if_pos he]
    rw [he] at c1
    obtain ⟨⟨hx1,hx2⟩,hy1,hy2⟩:=err2_ok he
    have hs':Sl h a 1 (bitL xs).length ((bitL xs).map bi):=by rw [zLw,← yXy hx2];exact hs
    have ht':Sl h b 1 (bitL ts).length ((bitL ts).map bi):=by rw [zLw,← yXy hy2];exact ht
    have hxl:=zLw xs
    have hyl:=zLw ts
    have c2 : ∀ (l:List AO) (w:Nat),w≤h.clock+l.length→(om Try.prog KK).call (.fn 42 [b]) (X h l w) = .ok (.agg [uu (bN (bitL ts) % 2 ^ 64),uu (bN (bitL ts) >>> 64),ii (ts.length:Int)]) (X h l w):=fun l w hw=>by
      have:=registerOf (bitL ts) (by omega) b _ (wf.X hw) (ht'.up wf l w)
      rw [hyl] at this
      exact this
    have hT:bN (bitL ts)<2 ^ 128:=xRz (by omega)
    by_cases hq:q<0∨(xs.length:Int)≤q
    · rw [if_pos hq]
      refine zQv (zLy (fn:=Try.f26) Try.func26 rfl rfl rfl rfl rfl ?_)
      simp only [zLz]
      (repeat' (first
  | (with_reducible first|refine zJx ?_|refine zGv ?_|refine zFz ?_|refine zEv ?_|refine zFy ?_|refine zJw ?_|refine zHz ?_|refine zCz ?_|refine zDw ?_|refine zCy ?_|refine zCv ?_|refine zEx ?_|refine zDz ?_|refine zCx ?_|refine zBx ?_|refine zEz ?_|refine zEy ?_|refine zAw ?_|refine zBy ?_)
  | refine zDy ?_|refine zEw rfl ?_|refine zIv ?_|refine zJy ?_
  | ((first|refine zGw rfl rfl rfl rfl rfl fun K_ hK_=>?_|refine zGx rfl rfl rfl rfl rfl fun K_ hK_=>?_);simp only [zAz,zDx,zGz,↓reduceIte,reduceCtorEq,Nat.reduceEqDiff,Bool.not_true,Bool.not_false];refine hK_ _ ?_;clear hK_ K_)
  | refine zDv (by decide) ?_
  | ((try first|refine zKy rfl rfl rfl ?_|refine zIw rfl rfl ?_|refine zKx rfl rfl rfl ?_|refine zJz rfl rfl ?_);(refine zIx fun Q_ hQ_=>?_;simp (disch:=first|omega|(simp only [List.length_cons,List.length_nil,List.length_append];omega)) only [bb,bp,zLz,↓reduceIte,reduceCtorEq,Nat.reduceEqDiff,Nat.reduceLT,Nat.reduceLeDiff,Nat.reduceAdd,Nat.reduceMul,Nat.reduceSub,Nat.reduceBEq,Int.reduceToNat,cond_true,cond_false,eq_self,beq_self_eq_true,hl,f1,f2,f3,f4,zFw wf,zGy wf,zBv wf,zFx wf,zAy wf,zAx,tEvZ22,zIy,zIz,zHv,zHw,zAv wf];first|(refine zCw (Q:=Q_) (fun hp_=>?_) (fun hp_=>?_) <;> first|(exfalso;omega)|(refine hQ_ _ _ ?_;clear hQ_ Q_))|(refine zBw (Q:=Q_) (fun hp_=>?_) (fun hp_=>?_) <;> first|(exfalso;omega)|(refine hQ_ _ _ ?_;clear hQ_ Q_))|(refine hQ_ _ _ ?_;clear hQ_ Q_)|(refine zOy (c1 _ _ (by first|omega|(simp only [List.length_append,List.length_cons,List.length_nil];omega))) ?_;refine hQ_ _ _ ?_;clear hQ_ Q_)))
  | (refine zHy fun K_ hK_=>?_;simp (disch:=omega) only [zFv,zAz,zHx,↓reduceIte,reduceCtorEq,Nat.reduceEqDiff,Nat.reduceLT];refine hK_ _ ?_;clear hK_ K_)))
      all_goals (refine zKz _ _ rfl (ret2 (by decide) (by decide)) ?_;simp only [zAz,↓reduceIte,reduceCtorEq,Nat.reduceEqDiff];refine zKv rfl (by omega) ?_)
      all_goals exact ⟨rfl,rfl⟩
    · rw [if_neg hq]
      obtain ⟨k,rfl⟩ : ∃ k:Nat,q=(k:Int):=⟨q.toNat,by omega⟩
      rw [Int.toNat_natCast]
      have c3 : ∀ (l:List AO) (w:Nat),w≤h.clock+l.length→(om Try.prog KK).call (.fn 51 [.agg [uu (bN (bitL ts) % 2 ^ 64),uu (bN (bitL ts) >>> 64),ii (ts.length:Int),ii (k:Int)],a]) (X h l w) = .ok (.bool (rightB (bN (bitL ts)) ts.length (sq (bitL xs)) k)) (X h l w):=fun l w hw=>isRight (bN (bitL ts)) ts.length k hT hy1 (bitL xs) (by omega) (by omega) a ha _ (wf.X hw) (hs'.up wf l w)
      have c4 : ∀ (l:List AO) (w:Nat),w≤h.clock+l.length→(om Try.prog KK).call (.fn 52 [.agg [uu (bN (bitL ts) % 2 ^ 64),uu (bN (bitL ts) >>> 64),ii (ts.length:Int),ii (k:Int)]]) (X h l w) = .ok (ii ((k:Int)+1 - (ts.length:Int))) (X h l w):=fun l w hw=>bound ⟨bN (bitL ts),ts.length,(k:Int)⟩ _ (wf.X hw) ⟨by show (-1:Int)≤(k:Int);omega,by show (k:Int)≤128;omega⟩ hy1
      generalize rightB (bN (bitL ts)) ts.length (sq (bitL xs)) k=rb at *
      generalize bN (bitL ts)=T at *
      refine zQv (zLy (fn:=Try.f26) Try.func26 rfl rfl rfl rfl rfl ?_)
      simp only [zLz]
      cases rb
      · (repeat' (first
  | (with_reducible first|refine zJx ?_|refine zGv ?_|refine zFz ?_|refine zEv ?_|refine zFy ?_|refine zJw ?_|refine zHz ?_|refine zCz ?_|refine zDw ?_|refine zCy ?_|refine zCv ?_|refine zEx ?_|refine zDz ?_|refine zCx ?_|refine zBx ?_|refine zEz ?_|refine zEy ?_|refine zAw ?_|refine zBy ?_)
  | refine zDy ?_|refine zEw rfl ?_|refine zIv ?_|refine zJy ?_
  | ((first|refine zGw rfl rfl rfl rfl rfl fun K_ hK_=>?_|refine zGx rfl rfl rfl rfl rfl fun K_ hK_=>?_);simp only [zAz,zDx,zGz,↓reduceIte,reduceCtorEq,Nat.reduceEqDiff,Bool.not_true,Bool.not_false];refine hK_ _ ?_;clear hK_ K_)
  | refine zDv (by decide) ?_
  | ((try first|refine zKy rfl rfl rfl ?_|refine zIw rfl rfl ?_|refine zKx rfl rfl rfl ?_|refine zJz rfl rfl ?_);(refine zIx fun Q_ hQ_=>?_;simp (disch:=first|omega|(simp only [List.length_cons,List.length_nil,List.length_append];omega)) only [bb,bp,zLz,↓reduceIte,reduceCtorEq,Nat.reduceEqDiff,Nat.reduceLT,Nat.reduceLeDiff,Nat.reduceAdd,Nat.reduceMul,Nat.reduceSub,Nat.reduceBEq,Int.reduceToNat,cond_true,cond_false,eq_self,beq_self_eq_true,hl,f1,f2,f3,f4,zFw wf,zGy wf,zBv wf,zFx wf,zAy wf,zAx,tEvZ22,zIy,zIz,zHv,zHw,zAv wf];first|(refine zCw (Q:=Q_) (fun hp_=>?_) (fun hp_=>?_) <;> first|(exfalso;omega)|(refine hQ_ _ _ ?_;clear hQ_ Q_))|(refine zBw (Q:=Q_) (fun hp_=>?_) (fun hp_=>?_) <;> first|(exfalso;omega)|(refine hQ_ _ _ ?_;clear hQ_ Q_))|(refine hQ_ _ _ ?_;clear hQ_ Q_)|(refine zOy (c1 _ _ (by first|omega|(simp only [List.length_append,List.length_cons,List.length_nil];omega))) ?_;refine hQ_ _ _ ?_;clear hQ_ Q_)))
  | (refine zHy fun K_ hK_=>?_;simp (disch:=omega) only [zFv,zAz,zHx,↓reduceIte,reduceCtorEq,Nat.reduceEqDiff,Nat.reduceLT];refine hK_ _ ?_;clear hK_ K_)))
        refine zOz [.no,.no,.no,.no,.no,.no,.no,.full] (by kernel_rfl) ?_
        (repeat' (first
  | (with_reducible first|refine zJx ?_|refine zGv ?_|refine zFz ?_|refine zEv ?_|refine zFy ?_|refine zJw ?_|refine zHz ?_|refine zCz ?_|refine zDw ?_|refine zCy ?_|refine zCv ?_|refine zEx ?_|refine zDz ?_|refine zCx ?_|refine zBx ?_|refine zEz ?_|refine zEy ?_|refine zAw ?_|refine zBy ?_)
  | refine zDy ?_|refine zEw rfl ?_|refine zIv ?_|refine zJy ?_
  | ((first|refine zGw rfl rfl rfl rfl rfl fun K_ hK_=>?_|refine zGx rfl rfl rfl rfl rfl fun K_ hK_=>?_);simp only [zAz,zDx,zGz,↓reduceIte,reduceCtorEq,Nat.reduceEqDiff,Bool.not_true,Bool.not_false];refine hK_ _ ?_;clear hK_ K_)
  | refine zDv (by decide) ?_
  | ((try first|refine zKy rfl rfl rfl ?_|refine zIw rfl rfl ?_|refine zKx rfl rfl rfl ?_|refine zJz rfl rfl ?_);(refine zIx fun Q_ hQ_=>?_;simp (disch:=first|omega|(simp only [List.length_cons,List.length_nil,List.length_append];omega)) only [bb,bp,zLz,↓reduceIte,reduceCtorEq,Nat.reduceEqDiff,Nat.reduceLT,Nat.reduceLeDiff,Nat.reduceAdd,Nat.reduceMul,Nat.reduceSub,Nat.reduceBEq,Int.reduceToNat,cond_true,cond_false,eq_self,beq_self_eq_true,hl,f1,f2,f3,f4,c2,zFw wf,zGy wf,zBv wf,zFx wf,zAy wf,zAx,tEvZ22,zIy,zIz,zHv,zHw,zAv wf];first|(refine zCw (Q:=Q_) (fun hp_=>?_) (fun hp_=>?_) <;> first|(exfalso;omega)|(refine hQ_ _ _ ?_;clear hQ_ Q_))|(refine zBw (Q:=Q_) (fun hp_=>?_) (fun hp_=>?_) <;> first|(exfalso;omega)|(refine hQ_ _ _ ?_;clear hQ_ Q_))|(refine hQ_ _ _ ?_;clear hQ_ Q_)))
  | (refine zHy fun K_ hK_=>?_;simp (disch:=omega) only [zFv,zAz,zHx,↓reduceIte,reduceCtorEq,Nat.reduceEqDiff,Nat.reduceLT];refine hK_ _ ?_;clear hK_ K_)))
        (repeat' (first
  | (with_reducible first|refine zJx ?_|refine zGv ?_|refine zFz ?_|refine zEv ?_|refine zFy ?_|refine zJw ?_|refine zHz ?_|refine zCz ?_|refine zDw ?_|refine zCy ?_|refine zCv ?_|refine zEx ?_|refine zDz ?_|refine zCx ?_|refine zBx ?_|refine zEz ?_|refine zEy ?_|refine zAw ?_|refine zBy ?_)
  | refine zDy ?_|refine zEw rfl ?_|refine zIv ?_|refine zJy ?_
  | ((first|refine zGw rfl rfl rfl rfl rfl fun K_ hK_=>?_|refine zGx rfl rfl rfl rfl rfl fun K_ hK_=>?_);simp only [zAz,zDx,zGz,↓reduceIte,reduceCtorEq,Nat.reduceEqDiff,Bool.not_true,Bool.not_false];refine hK_ _ ?_;clear hK_ K_)
  | refine zDv (by decide) ?_
  | ((try first|refine zKy rfl rfl rfl ?_|refine zIw rfl rfl ?_|refine zKx rfl rfl rfl ?_|refine zJz rfl rfl ?_);(refine zIx fun Q_ hQ_=>?_;simp (disch:=first|omega|(simp only [List.length_cons,List.length_nil,List.length_append];omega)) only [bb,bp,zLz,↓reduceIte,reduceCtorEq,Nat.reduceEqDiff,Nat.reduceLT,Nat.reduceLeDiff,Nat.reduceAdd,Nat.reduceMul,Nat.reduceSub,Nat.reduceBEq,Int.reduceToNat,cond_true,cond_false,eq_self,beq_self_eq_true,hl,f1,f2,f3,f4,zFw wf,zGy wf,zBv wf,zFx wf,zAy wf,zAx,tEvZ22,zIy,zIz,zHv,zHw,zAv wf];first|(refine zCw (Q:=Q_) (fun hp_=>?_) (fun hp_=>?_) <;> first|(exfalso;omega)|(refine hQ_ _ _ ?_;clear hQ_ Q_))|(refine zBw (Q:=Q_) (fun hp_=>?_) (fun hp_=>?_) <;> first|(exfalso;omega)|(refine hQ_ _ _ ?_;clear hQ_ Q_))|(refine hQ_ _ _ ?_;clear hQ_ Q_)|(refine zOy (c3 _ _ (by first|omega|(simp only [List.length_append,List.length_cons,List.length_nil];omega))) ?_;refine hQ_ _ _ ?_;clear hQ_ Q_)))
  | (refine zHy fun K_ hK_=>?_;simp (disch:=omega) only [zFv,zAz,zHx,↓reduceIte,reduceCtorEq,Nat.reduceEqDiff,Nat.reduceLT];refine hK_ _ ?_;clear hK_ K_)))
        all_goals (refine zKz _ _ rfl (ret2 (by decide) (by decide)) ?_;simp only [zAz,↓reduceIte,reduceCtorEq,Nat.reduceEqDiff];refine zKv rfl (by omega) ?_)
        all_goals exact ⟨rfl,rfl⟩
      · (repeat' (first
  | (with_reducible first|refine zJx ?_|refine zGv ?_|refine zFz ?_|refine zEv ?_|refine zFy ?_|refine zJw ?_|refine zHz ?_|refine zCz ?_|refine zDw ?_|refine zCy ?_|refine zCv ?_|refine zEx ?_|refine zDz ?_|refine zCx ?_|refine zBx ?_|refine zEz ?_|refine zEy ?_|refine zAw ?_|refine zBy ?_)
  | refine zDy ?_|refine zEw rfl ?_|refine zIv ?_|refine zJy ?_
  | ((first|refine zGw rfl rfl rfl rfl rfl fun K_ hK_=>?_|refine zGx rfl rfl rfl rfl rfl fun K_ hK_=>?_);simp only [zAz,zDx,zGz,↓reduceIte,reduceCtorEq,Nat.reduceEqDiff,Bool.not_true,Bool.not_false];refine hK_ _ ?_;clear hK_ K_)
  | refine zDv (by decide) ?_
  | ((try first|refine zKy rfl rfl rfl ?_|refine zIw rfl rfl ?_|refine zKx rfl rfl rfl ?_|refine zJz rfl rfl ?_);(refine zIx fun Q_ hQ_=>?_;simp (disch:=first|omega|(simp only [List.length_cons,List.length_nil,List.length_append];omega)) only [bb,bp,zLz,↓reduceIte,reduceCtorEq,Nat.reduceEqDiff,Nat.reduceLT,Nat.reduceLeDiff,Nat.reduceAdd,Nat.reduceMul,Nat.reduceSub,Nat.reduceBEq,Int.reduceToNat,cond_true,cond_false,eq_self,beq_self_eq_true,hl,f1,f2,f3,f4,zFw wf,zGy wf,zBv wf,zFx wf,zAy wf,zAx,tEvZ22,zIy,zIz,zHv,zHw,zAv wf];first|(refine zCw (Q:=Q_) (fun hp_=>?_) (fun hp_=>?_) <;> first|(exfalso;omega)|(refine hQ_ _ _ ?_;clear hQ_ Q_))|(refine zBw (Q:=Q_) (fun hp_=>?_) (fun hp_=>?_) <;> first|(exfalso;omega)|(refine hQ_ _ _ ?_;clear hQ_ Q_))|(refine hQ_ _ _ ?_;clear hQ_ Q_)|(refine zOy (c1 _ _ (by first|omega|(simp only [List.length_append,List.length_cons,List.length_nil];omega))) ?_;refine hQ_ _ _ ?_;clear hQ_ Q_)))
  | (refine zHy fun K_ hK_=>?_;simp (disch:=omega) only [zFv,zAz,zHx,↓reduceIte,reduceCtorEq,Nat.reduceEqDiff,Nat.reduceLT];refine hK_ _ ?_;clear hK_ K_)))
        refine zOz [.no,.no,.no,.no,.no,.no,.no,.full] (by kernel_rfl) ?_
        (repeat' (first
  | (with_reducible first|refine zJx ?_|refine zGv ?_|refine zFz ?_|refine zEv ?_|refine zFy ?_|refine zJw ?_|refine zHz ?_|refine zCz ?_|refine zDw ?_|refine zCy ?_|refine zCv ?_|refine zEx ?_|refine zDz ?_|refine zCx ?_|refine zBx ?_|refine zEz ?_|refine zEy ?_|refine zAw ?_|refine zBy ?_)
  | refine zDy ?_|refine zEw rfl ?_|refine zIv ?_|refine zJy ?_
  | ((first|refine zGw rfl rfl rfl rfl rfl fun K_ hK_=>?_|refine zGx rfl rfl rfl rfl rfl fun K_ hK_=>?_);simp only [zAz,zDx,zGz,↓reduceIte,reduceCtorEq,Nat.reduceEqDiff,Bool.not_true,Bool.not_false];refine hK_ _ ?_;clear hK_ K_)
  | refine zDv (by decide) ?_
  | ((try first|refine zKy rfl rfl rfl ?_|refine zIw rfl rfl ?_|refine zKx rfl rfl rfl ?_|refine zJz rfl rfl ?_);(refine zIx fun Q_ hQ_=>?_;simp (disch:=first|omega|(simp only [List.length_cons,List.length_nil,List.length_append];omega)) only [bb,bp,zLz,↓reduceIte,reduceCtorEq,Nat.reduceEqDiff,Nat.reduceLT,Nat.reduceLeDiff,Nat.reduceAdd,Nat.reduceMul,Nat.reduceSub,Nat.reduceBEq,Int.reduceToNat,cond_true,cond_false,eq_self,beq_self_eq_true,hl,f1,f2,f3,f4,c2,zFw wf,zGy wf,zBv wf,zFx wf,zAy wf,zAx,tEvZ22,zIy,zIz,zHv,zHw,zAv wf];first|(refine zCw (Q:=Q_) (fun hp_=>?_) (fun hp_=>?_) <;> first|(exfalso;omega)|(refine hQ_ _ _ ?_;clear hQ_ Q_))|(refine zBw (Q:=Q_) (fun hp_=>?_) (fun hp_=>?_) <;> first|(exfalso;omega)|(refine hQ_ _ _ ?_;clear hQ_ Q_))|(refine hQ_ _ _ ?_;clear hQ_ Q_)))
  | (refine zHy fun K_ hK_=>?_;simp (disch:=omega) only [zFv,zAz,zHx,↓reduceIte,reduceCtorEq,Nat.reduceEqDiff,Nat.reduceLT];refine hK_ _ ?_;clear hK_ K_)))
        (repeat' (first
  | (with_reducible first|refine zJx ?_|refine zGv ?_|refine zFz ?_|refine zEv ?_|refine zFy ?_|refine zJw ?_|refine zHz ?_|refine zCz ?_|refine zDw ?_|refine zCy ?_|refine zCv ?_|refine zEx ?_|refine zDz ?_|refine zCx ?_|refine zBx ?_|refine zEz ?_|refine zEy ?_|refine zAw ?_|refine zBy ?_)
  | refine zDy ?_|refine zEw rfl ?_|refine zIv ?_|refine zJy ?_
  | ((first|refine zGw rfl rfl rfl rfl rfl fun K_ hK_=>?_|refine zGx rfl rfl rfl rfl rfl fun K_ hK_=>?_);simp only [zAz,zDx,zGz,↓reduceIte,reduceCtorEq,Nat.reduceEqDiff,Bool.not_true,Bool.not_false];refine hK_ _ ?_;clear hK_ K_)
  | refine zDv (by decide) ?_
  | ((try first|refine zKy rfl rfl rfl ?_|refine zIw rfl rfl ?_|refine zKx rfl rfl rfl ?_|refine zJz rfl rfl ?_);(refine zIx fun Q_ hQ_=>?_;simp (disch:=first|omega|(simp only [List.length_cons,List.length_nil,List.length_append];omega)) only [bb,bp,zLz,↓reduceIte,reduceCtorEq,Nat.reduceEqDiff,Nat.reduceLT,Nat.reduceLeDiff,Nat.reduceAdd,Nat.reduceMul,Nat.reduceSub,Nat.reduceBEq,Int.reduceToNat,cond_true,cond_false,eq_self,beq_self_eq_true,hl,f1,f2,f3,f4,zFw wf,zGy wf,zBv wf,zFx wf,zAy wf,zAx,tEvZ22,zIy,zIz,zHv,zHw,zAv wf];first|(refine zCw (Q:=Q_) (fun hp_=>?_) (fun hp_=>?_) <;> first|(exfalso;omega)|(refine hQ_ _ _ ?_;clear hQ_ Q_))|(refine zBw (Q:=Q_) (fun hp_=>?_) (fun hp_=>?_) <;> first|(exfalso;omega)|(refine hQ_ _ _ ?_;clear hQ_ Q_))|(refine hQ_ _ _ ?_;clear hQ_ Q_)|(refine zOy (c3 _ _ (by first|omega|(simp only [List.length_append,List.length_cons,List.length_nil];omega))) ?_;refine hQ_ _ _ ?_;clear hQ_ Q_)|(refine zOy (c4 _ _ (by first|omega|(simp only [List.length_append,List.length_cons,List.length_nil];omega))) ?_;refine hQ_ _ _ ?_;clear hQ_ Q_)))
  | (refine zHy fun K_ hK_=>?_;simp (disch:=omega) only [zFv,zAz,zHx,↓reduceIte,reduceCtorEq,Nat.reduceEqDiff,Nat.reduceLT];refine hK_ _ ?_;clear hK_ K_)))
        all_goals (refine zKz _ _ rfl (ret2 (by decide) (by decide)) ?_;simp only [zAz,↓reduceIte,reduceCtorEq,Nat.reduceEqDiff];refine zKv rfl (by omega) ?_)
        all_goals exact ⟨rfl,rfl⟩
  · rw [if_neg he]
    generalize err2 xs ts=e at *
    refine zQv (zLy (fn:=Try.f26) Try.func26 rfl rfl rfl rfl rfl ?_)
    simp only [zLz]
    (repeat' (first
  | (with_reducible first|refine zJx ?_|refine zGv ?_|refine zFz ?_|refine zEv ?_|refine zFy ?_|refine zJw ?_|refine zHz ?_|refine zCz ?_|refine zDw ?_|refine zCy ?_|refine zCv ?_|refine zEx ?_|refine zDz ?_|refine zCx ?_|refine zBx ?_|refine zEz ?_|refine zEy ?_|refine zAw ?_|refine zBy ?_)
  | refine zDy ?_|refine zEw rfl ?_|refine zIv ?_|refine zJy ?_
  | ((first|refine zGw rfl rfl rfl rfl rfl fun K_ hK_=>?_|refine zGx rfl rfl rfl rfl rfl fun K_ hK_=>?_);simp only [zAz,zDx,zGz,↓reduceIte,reduceCtorEq,Nat.reduceEqDiff,Bool.not_true,Bool.not_false];refine hK_ _ ?_;clear hK_ K_)
  | refine zDv (by decide) ?_
  | ((try first|refine zKy rfl rfl rfl ?_|refine zIw rfl rfl ?_|refine zKx rfl rfl rfl ?_|refine zJz rfl rfl ?_);(refine zIx fun Q_ hQ_=>?_;simp (disch:=first|omega|(simp only [List.length_cons,List.length_nil,List.length_append];omega)) only [bb,bp,zLz,↓reduceIte,reduceCtorEq,Nat.reduceEqDiff,Nat.reduceLT,Nat.reduceLeDiff,Nat.reduceAdd,Nat.reduceMul,Nat.reduceSub,Nat.reduceBEq,Int.reduceToNat,cond_true,cond_false,eq_self,beq_self_eq_true,hl,f1,f2,f3,f4,zFw wf,zGy wf,zBv wf,zFx wf,zAy wf,zAx,tEvZ22,zIy,zIz,zHv,zHw,zAv wf];first|(refine zCw (Q:=Q_) (fun hp_=>?_) (fun hp_=>?_) <;> first|(exfalso;omega)|(refine hQ_ _ _ ?_;clear hQ_ Q_))|(refine zBw (Q:=Q_) (fun hp_=>?_) (fun hp_=>?_) <;> first|(exfalso;omega)|(refine hQ_ _ _ ?_;clear hQ_ Q_))|(refine hQ_ _ _ ?_;clear hQ_ Q_)|(refine zOy (c1 _ _ (by first|omega|(simp only [List.length_append,List.length_cons,List.length_nil];omega))) ?_;refine hQ_ _ _ ?_;clear hQ_ Q_)))
  | (refine zHy fun K_ hK_=>?_;simp (disch:=omega) only [zFv,zAz,zHx,↓reduceIte,reduceCtorEq,Nat.reduceEqDiff,Nat.reduceLT];refine hK_ _ ?_;clear hK_ K_)))
    all_goals (refine zKz _ _ rfl (ret2 (by decide) (by decide)) ?_;simp only [zAz,↓reduceIte,reduceCtorEq,Nat.reduceEqDiff];refine zKv rfl (by omega) ?_)
    all_goals exact ⟨rfl,rfl⟩
end Go.Proofs.Ytmincoafjnnkpaa
end

section
namespace Go.Proofs.Ytmincoafjnnkpaa
open Go.Ev
set_option maxRecDepth 100000
set_option linter.unusedSimpArgs false
set_option linter.unusedVariables false
set_option maxHeartbeats 2000000
theorem tEvZ23 :type_of% (And.intro (And.intro (And.intro (And.intro (And.intro (And.intro (And.intro (@yQw) (@yQx)) (And.intro (@yQy) (@yQz))) (And.intro (And.intro (@yPv) (@yPw)) (And.intro (@ia_2) (And.intro (@ia_3) (@ia_4))))) (And.intro (And.intro (And.intro (@ia_5) (@yPx)) (And.intro (@yPy) (@yPz))) (And.intro (And.intro (@yOv) (@yOw)) (And.intro (@yOx) (And.intro (@zSz) (@yOy)))))) (And.intro (And.intro (And.intro (And.intro (@yOz) (@yNv)) (And.intro (@yNw) (@yNx))) (And.intro (And.intro (@yNy) (@yNz)) (And.intro (@yMv) (And.intro (@yMw) (@sz_2))))) (And.intro (And.intro (And.intro (@sz_3) (@sz_4)) (And.intro (@sz_5) (And.intro (@zRz) (@zYv)))) (And.intro (And.intro (@zYw) (@zYx)) (And.intro (@zYy) (And.intro (@zYz) (@zRw))))))) (And.intro (And.intro (And.intro (And.intro (And.intro (@zXv) (@zXw)) (And.intro (@zXx) (@zQy))) (And.intro (And.intro (@zXy) (@zXz)) (And.intro (@zWv) (And.intro (@zWw) (@zWx))))) (And.intro (And.intro (And.intro (@ze_2) (@ze_3)) (And.intro (@ze_4) (And.intro (@ze_5) (@zWy)))) (And.intro (And.intro (@zWz) (@zVv)) (And.intro (@zVw) (And.intro (@zVx) (@zVy)))))) (And.intro (And.intro (And.intro (And.intro (@zVz) (@zUv)) (And.intro (@zUw) (@zUx))) (And.intro (And.intro (@zUy) (@zUz)) (And.intro (@zTv) (And.intro (@zTw) (@zTx))))) (And.intro (And.intro (And.intro (@zNv) (@zNw)) (And.intro (@zNx) (And.intro (@zNy) (@zNz)))) (And.intro (And.intro (@zMv) (@zMw)) (And.intro (@zMx) (And.intro (@zMy) (@yMx)))))))) (And.intro (And.intro (And.intro (And.intro (And.intro (And.intro (@yMy) (@yMz)) (And.intro (@yLv) (@yLw))) (And.intro (And.intro (@yLx) (@yLy)) (And.intro (@yLz) (And.intro (@yKv) (@yKw))))) (And.intro (And.intro (And.intro (@yKx) (@yKy)) (And.intro (@yKz) (@yJv))) (And.intro (And.intro (@yJw) (@yJx)) (And.intro (@yJy) (And.intro (@yJz) (@yIv)))))) (And.intro (And.intro (And.intro (And.intro (@yIw) (@yIx)) (And.intro (@yIy) (@yIz))) (And.intro (And.intro (@yHv) (@yHw)) (And.intro (@yHx) (And.intro (@yHy) (@yHz))))) (And.intro (And.intro (And.intro (@yGv) (@yGw)) (And.intro (@yGx) (And.intro (@yGy) (@yGz)))) (And.intro (And.intro (@yFv) (@yFw)) (And.intro (@yFx) (And.intro (@yFy) (@yFz))))))) (And.intro (And.intro (And.intro (And.intro (And.intro (@yEv) (@yEw)) (And.intro (@yEx) (@yEy))) (And.intro (And.intro (@yEz) (@yDv)) (And.intro (@yDw) (And.intro (@yDx) (@yDy))))) (And.intro (And.intro (And.intro (@yDz) (@yCv)) (And.intro (@yCw) (And.intro (@yCx) (@yCy)))) (And.intro (And.intro (@zSy) (@yCz)) (And.intro (@yBv) (And.intro (@yBw) (@yBx)))))) (And.intro (And.intro (And.intro (And.intro (@yBy) (@yBz)) (And.intro (@yAv) (@yAw))) (And.intro (And.intro (@yAx) (@yAy)) (And.intro (@yAz) (And.intro (@zZv) (@zZw))))) (And.intro (And.intro (And.intro (@zZx) (@zZy)) (And.intro (@zPv) (And.intro (@zTz) (@zSv)))) (And.intro (And.intro (@zQw) (@zSw)) (And.intro (@zRx) (And.intro (@zSx) (@zRv))))))))):=And.intro (And.intro (And.intro (And.intro (And.intro (And.intro (And.intro (@yQw) (@yQx)) (And.intro (@yQy) (@yQz))) (And.intro (And.intro (@yPv) (@yPw)) (And.intro (@ia_2) (And.intro (@ia_3) (@ia_4))))) (And.intro (And.intro (And.intro (@ia_5) (@yPx)) (And.intro (@yPy) (@yPz))) (And.intro (And.intro (@yOv) (@yOw)) (And.intro (@yOx) (And.intro (@zSz) (@yOy)))))) (And.intro (And.intro (And.intro (And.intro (@yOz) (@yNv)) (And.intro (@yNw) (@yNx))) (And.intro (And.intro (@yNy) (@yNz)) (And.intro (@yMv) (And.intro (@yMw) (@sz_2))))) (And.intro (And.intro (And.intro (@sz_3) (@sz_4)) (And.intro (@sz_5) (And.intro (@zRz) (@zYv)))) (And.intro (And.intro (@zYw) (@zYx)) (And.intro (@zYy) (And.intro (@zYz) (@zRw))))))) (And.intro (And.intro (And.intro (And.intro (And.intro (@zXv) (@zXw)) (And.intro (@zXx) (@zQy))) (And.intro (And.intro (@zXy) (@zXz)) (And.intro (@zWv) (And.intro (@zWw) (@zWx))))) (And.intro (And.intro (And.intro (@ze_2) (@ze_3)) (And.intro (@ze_4) (And.intro (@ze_5) (@zWy)))) (And.intro (And.intro (@zWz) (@zVv)) (And.intro (@zVw) (And.intro (@zVx) (@zVy)))))) (And.intro (And.intro (And.intro (And.intro (@zVz) (@zUv)) (And.intro (@zUw) (@zUx))) (And.intro (And.intro (@zUy) (@zUz)) (And.intro (@zTv) (And.intro (@zTw) (@zTx))))) (And.intro (And.intro (And.intro (@zNv) (@zNw)) (And.intro (@zNx) (And.intro (@zNy) (@zNz)))) (And.intro (And.intro (@zMv) (@zMw)) (And.intro (@zMx) (And.intro (@zMy) (@yMx)))))))) (And.intro (And.intro (And.intro (And.intro (And.intro (And.intro (@yMy) (@yMz)) (And.intro (@yLv) (@yLw))) (And.intro (And.intro (@yLx) (@yLy)) (And.intro (@yLz) (And.intro (@yKv) (@yKw))))) (And.intro (And.intro (And.intro (@yKx) (@yKy)) (And.intro (@yKz) (@yJv))) (And.intro (And.intro (@yJw) (@yJx)) (And.intro (@yJy) (And.intro (@yJz) (@yIv)))))) (And.intro (And.intro (And.intro (And.intro (@yIw) (@yIx)) (And.intro (@yIy) (@yIz))) (And.intro (And.intro (@yHv) (@yHw)) (And.intro (@yHx) (And.intro (@yHy) (@yHz))))) (And.intro (And.intro (And.intro (@yGv) (@yGw)) (And.intro (@yGx) (And.intro (@yGy) (@yGz)))) (And.intro (And.intro (@yFv) (@yFw)) (And.intro (@yFx) (And.intro (@yFy) (@yFz))))))) (And.intro (And.intro (And.intro (And.intro (And.intro (@yEv) (@yEw)) (And.intro (@yEx) (@yEy))) (And.intro (And.intro (@yEz) (@yDv)) (And.intro (@yDw) (And.intro (@yDx) (@yDy))))) (And.intro (And.intro (And.intro (@yDz) (@yCv)) (And.intro (@yCw) (And.intro (@yCx) (@yCy)))) (And.intro (And.intro (@zSy) (@yCz)) (And.intro (@yBv) (And.intro (@yBw) (@yBx)))))) (And.intro (And.intro (And.intro (And.intro (@yBy) (@yBz)) (And.intro (@yAv) (@yAw))) (And.intro (And.intro (@yAx) (@yAy)) (And.intro (@yAz) (And.intro (@zZv) (@zZw))))) (And.intro (And.intro (And.intro (@zZx) (@zZy)) (And.intro (@zPv) (And.intro (@zTz) (@zSv)))) (And.intro (And.intro (@zQw) (@zSw)) (And.intro (@zRx) (And.intro (@zSx) (@zRv))))))))
theorem rcheckProof (xs ts:List Int) (q:Int) (a b:AV) (ha:CapU 1 a) (h:H) (wf:Wf h) (hs:Sl h a 1 xs.length (xs.map ii)) (ht:Sl h b 1 ts.length (ts.map ii)) :
    (om Try.prog KK).call (.fn 27 [a,.agg [b,ii q]]) h = .ok (.tup [ii (cpV xs ts q).1,ii (cpV xs ts q).2]) h:=by
  have hl : ∀ h',lenE Try.prog 22 a h'=some (ii (xs.length:Int)):=fun h'=>hs.len yRy
  have hl2 : ∀ h',lenE Try.prog 22 b h'=some (ii (ts.length:Int)):=fun h'=>ht.len yRy
  obtain ⟨f1,f2⟩:=zPy hs
  obtain ⟨f3,f4⟩:=zPy ht
  have c1 : ∀ (l:List AO) (w:Nat),w≤h.clock+l.length→(om Try.prog KK).call (.fn 48 [a,b]) (X h l w) = .ok (ii (err2 xs ts)) (X h l w):=fun l w hw=>rtwo xs ts a b _ (wf.X hw) (hs.up wf l w) (ht.up wf l w)
  unfold cpV
  by_cases he:err2 xs ts=0
  · rw [if_pos he]
    rw [he] at c1
    obtain ⟨⟨hx1,hx2⟩,hy1,hy2⟩:=err2_ok he
    have hs':Sl h a 1 (bitL xs).length ((bitL xs).map bi):=by rw [zLw,← yXy hx2];exact hs
    have ht':Sl h b 1 (bitL ts).length ((bitL ts).map bi):=by rw [zLw,← yXy hy2];exact ht
    have hxl:=zLw xs
    have hyl:=zLw ts
    by_cases hq:q<0∨(xs.length:Int)≤q
    · rw [if_pos hq]
      refine zQv (zLy (fn:=Try.f27) Try.func27 rfl rfl rfl rfl rfl ?_)
      simp only [zLz]
      (repeat' (first
  | (with_reducible first|refine zJx ?_|refine zGv ?_|refine zFz ?_|refine zEv ?_|refine zFy ?_|refine zJw ?_|refine zHz ?_|refine zCz ?_|refine zDw ?_|refine zCy ?_|refine zCv ?_|refine zEx ?_|refine zDz ?_|refine zCx ?_|refine zBx ?_|refine zEz ?_|refine zEy ?_|refine zAw ?_|refine zBy ?_)
  | refine zDy ?_|refine zEw rfl ?_|refine zIv ?_|refine zJy ?_
  | ((first|refine zGw rfl rfl rfl rfl rfl fun K_ hK_=>?_|refine zGx rfl rfl rfl rfl rfl fun K_ hK_=>?_);simp only [zAz,zDx,zGz,↓reduceIte,reduceCtorEq,Nat.reduceEqDiff,Bool.not_true,Bool.not_false];refine hK_ _ ?_;clear hK_ K_)
  | refine zDv (by decide) ?_
  | ((try first|refine zKy rfl rfl rfl ?_|refine zIw rfl rfl ?_|refine zKx rfl rfl rfl ?_|refine zJz rfl rfl ?_);(refine zIx fun Q_ hQ_=>?_;simp (disch:=first|omega|(simp only [List.length_cons,List.length_nil,List.length_append];omega)) only [bb,bp,zLz,↓reduceIte,reduceCtorEq,Nat.reduceEqDiff,Nat.reduceLT,Nat.reduceLeDiff,Nat.reduceAdd,Nat.reduceMul,Nat.reduceSub,Nat.reduceBEq,Int.reduceToNat,cond_true,cond_false,eq_self,beq_self_eq_true,hl,hl2,f1,f2,f3,f4,zFw wf,zGy wf,zBv wf,zFx wf,zAy wf,zAx,tEvZ23,zIy,zIz,zHv,zHw,zAv wf];first|(refine zCw (Q:=Q_) (fun hp_=>?_) (fun hp_=>?_) <;> first|(exfalso;omega)|(refine hQ_ _ _ ?_;clear hQ_ Q_))|(refine zBw (Q:=Q_) (fun hp_=>?_) (fun hp_=>?_) <;> first|(exfalso;omega)|(refine hQ_ _ _ ?_;clear hQ_ Q_))|(refine hQ_ _ _ ?_;clear hQ_ Q_)|(refine zOy (c1 _ _ (by first|omega|(simp only [List.length_append,List.length_cons,List.length_nil];omega))) ?_;refine hQ_ _ _ ?_;clear hQ_ Q_)))
  | (refine zHy fun K_ hK_=>?_;simp (disch:=omega) only [zFv,zAz,zHx,↓reduceIte,reduceCtorEq,Nat.reduceEqDiff,Nat.reduceLT];refine hK_ _ ?_;clear hK_ K_)))
      all_goals (refine zKz _ _ rfl (ret2 (by decide) (by decide)) ?_;simp only [zAz,↓reduceIte,reduceCtorEq,Nat.reduceEqDiff];refine zKv rfl (by omega) ?_)
      all_goals exact ⟨rfl,rfl⟩
    · rw [if_neg hq]
      obtain ⟨k,rfl⟩ : ∃ k:Nat,q=(k:Int):=⟨q.toNat,by omega⟩
      rw [Int.toNat_natCast]
      have hk1:(k:Int)+1=((k+1:Nat):Int):=by omega
      have cmk : ∀ j,j≤xs.length → ∃ c,sliceE Try.prog 22 (reszT Try.prog 22 a) none (some j) none=some c∧(AV.cells c=[c]∧oneB c=true) ∧ ∀ (l:List AO) (w:Nat),w≤h.clock+l.length→(om Try.prog KK).call (.fn 38 [c,b]) (X h l w) = .ok (.bool (makesB (bN (bitL ts)) ts.length (sq (bitL xs)) j)) (X h l w):=fun j hj=>by
        obtain ⟨c,hcut,hsc,hcc⟩:=hs'.cutTo (P:=Try.prog) (k:=j) (by omega) yRy sz_3 (by omega) ha
        rw [Nat.mul_one,← List.map_take] at hsc
        have lt1:((bitL xs).take j).length=j:=by rw [List.length_take];omega
        refine ⟨c,hcut,zPy hsc,fun l w hw=>?_⟩
        have:=rMakes ((bitL xs).take j) (bitL ts) (by omega) c b hcc _ (wf.X hw) (by rw [lt1];exact hsc.up wf l w) (ht'.up wf l w) (by omega)
        rw [lt1,hyl] at this
        rw [this,makesB_congr fun i hi=>by show sq ((bitL xs).take j) i=sq (bitL xs) i;simp only [sq,List.getD_eq_getElem?_getD,List.getElem?_take,if_pos hi]]
      obtain ⟨d1,hcut1,⟨fd1,fd2⟩,c2⟩:=cmk k (by omega)
      obtain ⟨d2,hcut2,⟨fd3,fd4⟩,c3⟩:=cmk (k+1) (by omega)
      unfold rightB
      refine zQv (zLy (fn:=Try.f27) Try.func27 rfl rfl rfl rfl rfl ?_)
      simp only [zLz]
      by_cases hLq:ts.length≤k
      · rw [decide_eq_true hLq,Bool.true_and]
        have hd : ¬ ((k:Int)<(ts.length:Int)):=by omega
        generalize makesB (bN (bitL ts)) ts.length (sq (bitL xs)) k=m1 at *
        generalize makesB (bN (bitL ts)) ts.length (sq (bitL xs)) (k+1)=m2 at *
        cases m1
        · (repeat' (first
  | (with_reducible first|refine zJx ?_|refine zGv ?_|refine zFz ?_|refine zEv ?_|refine zFy ?_|refine zJw ?_|refine zHz ?_|refine zCz ?_|refine zDw ?_|refine zCy ?_|refine zCv ?_|refine zEx ?_|refine zDz ?_|refine zCx ?_|refine zBx ?_|refine zEz ?_|refine zEy ?_|refine zAw ?_|refine zBy ?_)
  | refine zDy ?_|refine zEw rfl ?_|refine zIv ?_|refine zJy ?_
  | ((first|refine zGw rfl rfl rfl rfl rfl fun K_ hK_=>?_|refine zGx rfl rfl rfl rfl rfl fun K_ hK_=>?_);simp only [zAz,zDx,zGz,↓reduceIte,reduceCtorEq,Nat.reduceEqDiff,Bool.not_true,Bool.not_false];refine hK_ _ ?_;clear hK_ K_)
  | refine zDv (by decide) ?_
  | ((try first|refine zKy rfl rfl rfl ?_|refine zIw rfl rfl ?_|refine zKx rfl rfl rfl ?_|refine zJz rfl rfl ?_);(refine zIx fun Q_ hQ_=>?_;simp (disch:=first|omega|(simp only [List.length_cons,List.length_nil,List.length_append];omega)) only [bb,bp,zLz,↓reduceIte,reduceCtorEq,Nat.reduceEqDiff,Nat.reduceLT,Nat.reduceLeDiff,Nat.reduceAdd,Nat.reduceMul,Nat.reduceSub,Nat.reduceBEq,Int.reduceToNat,cond_true,cond_false,eq_self,beq_self_eq_true,hl,hl2,f1,f2,f3,f4,zFw wf,zGy wf,zBv wf,zFx wf,zAy wf,zAx,tEvZ23,zIy,zIz,zHv,zHw,zAv wf];first|(refine zCw (Q:=Q_) (fun hp_=>?_) (fun hp_=>?_) <;> first|(exfalso;omega)|(refine hQ_ _ _ ?_;clear hQ_ Q_))|(refine zBw (Q:=Q_) (fun hp_=>?_) (fun hp_=>?_) <;> first|(exfalso;omega)|(refine hQ_ _ _ ?_;clear hQ_ Q_))|(refine hQ_ _ _ ?_;clear hQ_ Q_)|(refine zOy (c1 _ _ (by first|omega|(simp only [List.length_append,List.length_cons,List.length_nil];omega))) ?_;refine hQ_ _ _ ?_;clear hQ_ Q_)))
  | (refine zHy fun K_ hK_=>?_;simp (disch:=omega) only [zFv,zAz,zHx,↓reduceIte,reduceCtorEq,Nat.reduceEqDiff,Nat.reduceLT];refine hK_ _ ?_;clear hK_ K_)))
          refine zOz [.no,.no,.no,.no,.no,.full,.full,.no,.no,.no,.no,.no,.no,.full,.full,.full,.full,.no,.no,.no,.no,.no,.no,.no,.full,.full] (by kernel_rfl) ?_
          (repeat' (first
  | (with_reducible first|refine zJx ?_|refine zGv ?_|refine zFz ?_|refine zEv ?_|refine zFy ?_|refine zJw ?_|refine zHz ?_|refine zCz ?_|refine zDw ?_|refine zCy ?_|refine zCv ?_|refine zEx ?_|refine zDz ?_|refine zCx ?_|refine zBx ?_|refine zEz ?_|refine zEy ?_|refine zAw ?_|refine zBy ?_)
  | refine zDy ?_|refine zEw rfl ?_|refine zIv ?_|refine zJy ?_
  | ((first|refine zGw rfl rfl rfl rfl rfl fun K_ hK_=>?_|refine zGx rfl rfl rfl rfl rfl fun K_ hK_=>?_);simp only [zAz,zDx,zGz,↓reduceIte,reduceCtorEq,Nat.reduceEqDiff,Bool.not_true,Bool.not_false];refine hK_ _ ?_;clear hK_ K_)
  | refine zDv (by decide) ?_
  | ((try first|refine zKy rfl rfl rfl ?_|refine zIw rfl rfl ?_|refine zKx rfl rfl rfl ?_|refine zJz rfl rfl ?_);(refine zIx fun Q_ hQ_=>?_;simp (disch:=first|omega|(simp only [List.length_cons,List.length_nil,List.length_append];omega)) only [bb,bp,zLz,↓reduceIte,reduceCtorEq,Nat.reduceEqDiff,Nat.reduceLT,Nat.reduceLeDiff,Nat.reduceAdd,Nat.reduceMul,Nat.reduceSub,Nat.reduceBEq,Int.reduceToNat,cond_true,cond_false,eq_self,beq_self_eq_true,hl,hl2,f1,f2,f3,f4,fd1,fd2,fd3,fd4,hk1,hcut1,hcut2,c2,c3,zFw wf,zGy wf,zBv wf,zFx wf,zAy wf,zAx,tEvZ23,zIy,zIz,zHv,zHw,zAv wf];first|(refine zCw (Q:=Q_) (fun hp_=>?_) (fun hp_=>?_) <;> first|(exfalso;omega)|(refine hQ_ _ _ ?_;clear hQ_ Q_))|(refine zBw (Q:=Q_) (fun hp_=>?_) (fun hp_=>?_) <;> first|(exfalso;omega)|(refine hQ_ _ _ ?_;clear hQ_ Q_))|(refine hQ_ _ _ ?_;clear hQ_ Q_)))
  | (refine zHy fun K_ hK_=>?_;simp (disch:=omega) only [zFv,zAz,zHx,↓reduceIte,reduceCtorEq,Nat.reduceEqDiff,Nat.reduceLT];refine hK_ _ ?_;clear hK_ K_)))
          all_goals (refine zKz _ _ rfl (ret2 (by decide) (by decide)) ?_;simp only [zAz,↓reduceIte,reduceCtorEq,Nat.reduceEqDiff];refine zKv rfl (by omega) ?_)
          all_goals exact ⟨rfl,rfl⟩
        · cases m2
          · (repeat' (first
  | (with_reducible first|refine zJx ?_|refine zGv ?_|refine zFz ?_|refine zEv ?_|refine zFy ?_|refine zJw ?_|refine zHz ?_|refine zCz ?_|refine zDw ?_|refine zCy ?_|refine zCv ?_|refine zEx ?_|refine zDz ?_|refine zCx ?_|refine zBx ?_|refine zEz ?_|refine zEy ?_|refine zAw ?_|refine zBy ?_)
  | refine zDy ?_|refine zEw rfl ?_|refine zIv ?_|refine zJy ?_
  | ((first|refine zGw rfl rfl rfl rfl rfl fun K_ hK_=>?_|refine zGx rfl rfl rfl rfl rfl fun K_ hK_=>?_);simp only [zAz,zDx,zGz,↓reduceIte,reduceCtorEq,Nat.reduceEqDiff,Bool.not_true,Bool.not_false];refine hK_ _ ?_;clear hK_ K_)
  | refine zDv (by decide) ?_
  | ((try first|refine zKy rfl rfl rfl ?_|refine zIw rfl rfl ?_|refine zKx rfl rfl rfl ?_|refine zJz rfl rfl ?_);(refine zIx fun Q_ hQ_=>?_;simp (disch:=first|omega|(simp only [List.length_cons,List.length_nil,List.length_append];omega)) only [bb,bp,zLz,↓reduceIte,reduceCtorEq,Nat.reduceEqDiff,Nat.reduceLT,Nat.reduceLeDiff,Nat.reduceAdd,Nat.reduceMul,Nat.reduceSub,Nat.reduceBEq,Int.reduceToNat,cond_true,cond_false,eq_self,beq_self_eq_true,hl,hl2,f1,f2,f3,f4,zFw wf,zGy wf,zBv wf,zFx wf,zAy wf,zAx,tEvZ23,zIy,zIz,zHv,zHw,zAv wf];first|(refine zCw (Q:=Q_) (fun hp_=>?_) (fun hp_=>?_) <;> first|(exfalso;omega)|(refine hQ_ _ _ ?_;clear hQ_ Q_))|(refine zBw (Q:=Q_) (fun hp_=>?_) (fun hp_=>?_) <;> first|(exfalso;omega)|(refine hQ_ _ _ ?_;clear hQ_ Q_))|(refine hQ_ _ _ ?_;clear hQ_ Q_)|(refine zOy (c1 _ _ (by first|omega|(simp only [List.length_append,List.length_cons,List.length_nil];omega))) ?_;refine hQ_ _ _ ?_;clear hQ_ Q_)))
  | (refine zHy fun K_ hK_=>?_;simp (disch:=omega) only [zFv,zAz,zHx,↓reduceIte,reduceCtorEq,Nat.reduceEqDiff,Nat.reduceLT];refine hK_ _ ?_;clear hK_ K_)))
            refine zOz [.no,.no,.no,.no,.no,.full,.full,.no,.no,.no,.no,.no,.no,.full,.full,.full,.full,.no,.no,.no,.no,.no,.no,.no,.full,.full] (by kernel_rfl) ?_
            (repeat' (first
  | (with_reducible first|refine zJx ?_|refine zGv ?_|refine zFz ?_|refine zEv ?_|refine zFy ?_|refine zJw ?_|refine zHz ?_|refine zCz ?_|refine zDw ?_|refine zCy ?_|refine zCv ?_|refine zEx ?_|refine zDz ?_|refine zCx ?_|refine zBx ?_|refine zEz ?_|refine zEy ?_|refine zAw ?_|refine zBy ?_)
  | refine zDy ?_|refine zEw rfl ?_|refine zIv ?_|refine zJy ?_
  | ((first|refine zGw rfl rfl rfl rfl rfl fun K_ hK_=>?_|refine zGx rfl rfl rfl rfl rfl fun K_ hK_=>?_);simp only [zAz,zDx,zGz,↓reduceIte,reduceCtorEq,Nat.reduceEqDiff,Bool.not_true,Bool.not_false];refine hK_ _ ?_;clear hK_ K_)
  | refine zDv (by decide) ?_
  | ((try first|refine zKy rfl rfl rfl ?_|refine zIw rfl rfl ?_|refine zKx rfl rfl rfl ?_|refine zJz rfl rfl ?_);(refine zIx fun Q_ hQ_=>?_;simp (disch:=first|omega|(simp only [List.length_cons,List.length_nil,List.length_append];omega)) only [bb,bp,zLz,↓reduceIte,reduceCtorEq,Nat.reduceEqDiff,Nat.reduceLT,Nat.reduceLeDiff,Nat.reduceAdd,Nat.reduceMul,Nat.reduceSub,Nat.reduceBEq,Int.reduceToNat,cond_true,cond_false,eq_self,beq_self_eq_true,hl,hl2,f1,f2,f3,f4,fd1,fd2,fd3,fd4,hk1,hcut1,hcut2,c2,c3,zFw wf,zGy wf,zBv wf,zFx wf,zAy wf,zAx,tEvZ23,zIy,zIz,zHv,zHw,zAv wf];first|(refine zCw (Q:=Q_) (fun hp_=>?_) (fun hp_=>?_) <;> first|(exfalso;omega)|(refine hQ_ _ _ ?_;clear hQ_ Q_))|(refine zBw (Q:=Q_) (fun hp_=>?_) (fun hp_=>?_) <;> first|(exfalso;omega)|(refine hQ_ _ _ ?_;clear hQ_ Q_))|(refine hQ_ _ _ ?_;clear hQ_ Q_)))
  | (refine zHy fun K_ hK_=>?_;simp (disch:=omega) only [zFv,zAz,zHx,↓reduceIte,reduceCtorEq,Nat.reduceEqDiff,Nat.reduceLT];refine hK_ _ ?_;clear hK_ K_)))
            all_goals (refine zKz _ _ rfl (ret2 (by decide) (by decide)) ?_;simp only [zAz,↓reduceIte,reduceCtorEq,Nat.reduceEqDiff];refine zKv rfl (by omega) ?_)
            all_goals exact ⟨by rw [← hk1];rfl,rfl⟩
          · (repeat' (first
  | (with_reducible first|refine zJx ?_|refine zGv ?_|refine zFz ?_|refine zEv ?_|refine zFy ?_|refine zJw ?_|refine zHz ?_|refine zCz ?_|refine zDw ?_|refine zCy ?_|refine zCv ?_|refine zEx ?_|refine zDz ?_|refine zCx ?_|refine zBx ?_|refine zEz ?_|refine zEy ?_|refine zAw ?_|refine zBy ?_)
  | refine zDy ?_|refine zEw rfl ?_|refine zIv ?_|refine zJy ?_
  | ((first|refine zGw rfl rfl rfl rfl rfl fun K_ hK_=>?_|refine zGx rfl rfl rfl rfl rfl fun K_ hK_=>?_);simp only [zAz,zDx,zGz,↓reduceIte,reduceCtorEq,Nat.reduceEqDiff,Bool.not_true,Bool.not_false];refine hK_ _ ?_;clear hK_ K_)
  | refine zDv (by decide) ?_
  | ((try first|refine zKy rfl rfl rfl ?_|refine zIw rfl rfl ?_|refine zKx rfl rfl rfl ?_|refine zJz rfl rfl ?_);(refine zIx fun Q_ hQ_=>?_;simp (disch:=first|omega|(simp only [List.length_cons,List.length_nil,List.length_append];omega)) only [bb,bp,zLz,↓reduceIte,reduceCtorEq,Nat.reduceEqDiff,Nat.reduceLT,Nat.reduceLeDiff,Nat.reduceAdd,Nat.reduceMul,Nat.reduceSub,Nat.reduceBEq,Int.reduceToNat,cond_true,cond_false,eq_self,beq_self_eq_true,hl,hl2,f1,f2,f3,f4,zFw wf,zGy wf,zBv wf,zFx wf,zAy wf,zAx,tEvZ23,zIy,zIz,zHv,zHw,zAv wf];first|(refine zCw (Q:=Q_) (fun hp_=>?_) (fun hp_=>?_) <;> first|(exfalso;omega)|(refine hQ_ _ _ ?_;clear hQ_ Q_))|(refine zBw (Q:=Q_) (fun hp_=>?_) (fun hp_=>?_) <;> first|(exfalso;omega)|(refine hQ_ _ _ ?_;clear hQ_ Q_))|(refine hQ_ _ _ ?_;clear hQ_ Q_)|(refine zOy (c1 _ _ (by first|omega|(simp only [List.length_append,List.length_cons,List.length_nil];omega))) ?_;refine hQ_ _ _ ?_;clear hQ_ Q_)))
  | (refine zHy fun K_ hK_=>?_;simp (disch:=omega) only [zFv,zAz,zHx,↓reduceIte,reduceCtorEq,Nat.reduceEqDiff,Nat.reduceLT];refine hK_ _ ?_;clear hK_ K_)))
            refine zOz [.no,.no,.no,.no,.no,.full,.full,.no,.no,.no,.no,.no,.no,.full,.full,.full,.full,.no,.no,.no,.no,.no,.no,.no,.full,.full] (by kernel_rfl) ?_
            (repeat' (first
  | (with_reducible first|refine zJx ?_|refine zGv ?_|refine zFz ?_|refine zEv ?_|refine zFy ?_|refine zJw ?_|refine zHz ?_|refine zCz ?_|refine zDw ?_|refine zCy ?_|refine zCv ?_|refine zEx ?_|refine zDz ?_|refine zCx ?_|refine zBx ?_|refine zEz ?_|refine zEy ?_|refine zAw ?_|refine zBy ?_)
  | refine zDy ?_|refine zEw rfl ?_|refine zIv ?_|refine zJy ?_
  | ((first|refine zGw rfl rfl rfl rfl rfl fun K_ hK_=>?_|refine zGx rfl rfl rfl rfl rfl fun K_ hK_=>?_);simp only [zAz,zDx,zGz,↓reduceIte,reduceCtorEq,Nat.reduceEqDiff,Bool.not_true,Bool.not_false];refine hK_ _ ?_;clear hK_ K_)
  | refine zDv (by decide) ?_
  | ((try first|refine zKy rfl rfl rfl ?_|refine zIw rfl rfl ?_|refine zKx rfl rfl rfl ?_|refine zJz rfl rfl ?_);(refine zIx fun Q_ hQ_=>?_;simp (disch:=first|omega|(simp only [List.length_cons,List.length_nil,List.length_append];omega)) only [bb,bp,zLz,↓reduceIte,reduceCtorEq,Nat.reduceEqDiff,Nat.reduceLT,Nat.reduceLeDiff,Nat.reduceAdd,Nat.reduceMul,Nat.reduceSub,Nat.reduceBEq,Int.reduceToNat,cond_true,cond_false,eq_self,beq_self_eq_true,hl,hl2,f1,f2,f3,f4,fd1,fd2,fd3,fd4,hk1,hcut1,hcut2,c2,c3,zFw wf,zGy wf,zBv wf,zFx wf,zAy wf,zAx,tEvZ23,zIy,zIz,zHv,zHw,zAv wf];first|(refine zCw (Q:=Q_) (fun hp_=>?_) (fun hp_=>?_) <;> first|(exfalso;omega)|(refine hQ_ _ _ ?_;clear hQ_ Q_))|(refine zBw (Q:=Q_) (fun hp_=>?_) (fun hp_=>?_) <;> first|(exfalso;omega)|(refine hQ_ _ _ ?_;clear hQ_ Q_))|(refine hQ_ _ _ ?_;clear hQ_ Q_)))
  | (refine zHy fun K_ hK_=>?_;simp (disch:=omega) only [zFv,zAz,zHx,↓reduceIte,reduceCtorEq,Nat.reduceEqDiff,Nat.reduceLT];refine hK_ _ ?_;clear hK_ K_)))
            all_goals (refine zKz _ _ rfl (ret2 (by decide) (by decide)) ?_;simp only [zAz,↓reduceIte,reduceCtorEq,Nat.reduceEqDiff];refine zKv rfl (by omega) ?_)
            all_goals exact ⟨rfl,rfl⟩
      · rw [decide_eq_false hLq,Bool.false_and]
        have hd:((k:Int)<(ts.length:Int)):=by omega
        (repeat' (first
  | (with_reducible first|refine zJx ?_|refine zGv ?_|refine zFz ?_|refine zEv ?_|refine zFy ?_|refine zJw ?_|refine zHz ?_|refine zCz ?_|refine zDw ?_|refine zCy ?_|refine zCv ?_|refine zEx ?_|refine zDz ?_|refine zCx ?_|refine zBx ?_|refine zEz ?_|refine zEy ?_|refine zAw ?_|refine zBy ?_)
  | refine zDy ?_|refine zEw rfl ?_|refine zIv ?_|refine zJy ?_
  | ((first|refine zGw rfl rfl rfl rfl rfl fun K_ hK_=>?_|refine zGx rfl rfl rfl rfl rfl fun K_ hK_=>?_);simp only [zAz,zDx,zGz,↓reduceIte,reduceCtorEq,Nat.reduceEqDiff,Bool.not_true,Bool.not_false];refine hK_ _ ?_;clear hK_ K_)
  | refine zDv (by decide) ?_
  | ((try first|refine zKy rfl rfl rfl ?_|refine zIw rfl rfl ?_|refine zKx rfl rfl rfl ?_|refine zJz rfl rfl ?_);(refine zIx fun Q_ hQ_=>?_;simp (disch:=first|omega|(simp only [List.length_cons,List.length_nil,List.length_append];omega)) only [bb,bp,zLz,↓reduceIte,reduceCtorEq,Nat.reduceEqDiff,Nat.reduceLT,Nat.reduceLeDiff,Nat.reduceAdd,Nat.reduceMul,Nat.reduceSub,Nat.reduceBEq,Int.reduceToNat,cond_true,cond_false,eq_self,beq_self_eq_true,hl,hl2,f1,f2,f3,f4,zFw wf,zGy wf,zBv wf,zFx wf,zAy wf,zAx,tEvZ23,zIy,zIz,zHv,zHw,zAv wf];first|(refine zCw (Q:=Q_) (fun hp_=>?_) (fun hp_=>?_) <;> first|(exfalso;omega)|(refine hQ_ _ _ ?_;clear hQ_ Q_))|(refine zBw (Q:=Q_) (fun hp_=>?_) (fun hp_=>?_) <;> first|(exfalso;omega)|(refine hQ_ _ _ ?_;clear hQ_ Q_))|(refine hQ_ _ _ ?_;clear hQ_ Q_)|(refine zOy (c1 _ _ (by first|omega|(simp only [List.length_append,List.length_cons,List.length_nil];omega))) ?_;refine hQ_ _ _ ?_;clear hQ_ Q_)))
  | (refine zHy fun K_ hK_=>?_;simp (disch:=omega) only [zFv,zAz,zHx,↓reduceIte,reduceCtorEq,Nat.reduceEqDiff,Nat.reduceLT];refine hK_ _ ?_;clear hK_ K_)))
        refine zOz [.no,.no,.no,.no,.no,.full,.full,.no,.no,.no,.no,.no,.no,.full,.full,.full,.full,.no,.no,.no,.no,.no,.no,.no,.full,.full] (by kernel_rfl) ?_
        (repeat' (first
  | (with_reducible first|refine zJx ?_|refine zGv ?_|refine zFz ?_|refine zEv ?_|refine zFy ?_|refine zJw ?_|refine zHz ?_|refine zCz ?_|refine zDw ?_|refine zCy ?_|refine zCv ?_|refine zEx ?_|refine zDz ?_|refine zCx ?_|refine zBx ?_|refine zEz ?_|refine zEy ?_|refine zAw ?_|refine zBy ?_)
  | refine zDy ?_|refine zEw rfl ?_|refine zIv ?_|refine zJy ?_
  | ((first|refine zGw rfl rfl rfl rfl rfl fun K_ hK_=>?_|refine zGx rfl rfl rfl rfl rfl fun K_ hK_=>?_);simp only [zAz,zDx,zGz,↓reduceIte,reduceCtorEq,Nat.reduceEqDiff,Bool.not_true,Bool.not_false];refine hK_ _ ?_;clear hK_ K_)
  | refine zDv (by decide) ?_
  | ((try first|refine zKy rfl rfl rfl ?_|refine zIw rfl rfl ?_|refine zKx rfl rfl rfl ?_|refine zJz rfl rfl ?_);(refine zIx fun Q_ hQ_=>?_;simp (disch:=first|omega|(simp only [List.length_cons,List.length_nil,List.length_append];omega)) only [bb,bp,zLz,↓reduceIte,reduceCtorEq,Nat.reduceEqDiff,Nat.reduceLT,Nat.reduceLeDiff,Nat.reduceAdd,Nat.reduceMul,Nat.reduceSub,Nat.reduceBEq,Int.reduceToNat,cond_true,cond_false,eq_self,beq_self_eq_true,hl,hl2,f1,f2,f3,f4,fd1,fd2,fd3,fd4,hk1,hcut1,hcut2,c2,c3,zFw wf,zGy wf,zBv wf,zFx wf,zAy wf,zAx,tEvZ23,zIy,zIz,zHv,zHw,zAv wf];first|(refine zCw (Q:=Q_) (fun hp_=>?_) (fun hp_=>?_) <;> first|(exfalso;omega)|(refine hQ_ _ _ ?_;clear hQ_ Q_))|(refine zBw (Q:=Q_) (fun hp_=>?_) (fun hp_=>?_) <;> first|(exfalso;omega)|(refine hQ_ _ _ ?_;clear hQ_ Q_))|(refine hQ_ _ _ ?_;clear hQ_ Q_)))
  | (refine zHy fun K_ hK_=>?_;simp (disch:=omega) only [zFv,zAz,zHx,↓reduceIte,reduceCtorEq,Nat.reduceEqDiff,Nat.reduceLT];refine hK_ _ ?_;clear hK_ K_)))
        all_goals (refine zKz _ _ rfl (ret2 (by decide) (by decide)) ?_;simp only [zAz,↓reduceIte,reduceCtorEq,Nat.reduceEqDiff];refine zKv rfl (by omega) ?_)
        all_goals exact ⟨rfl,rfl⟩
  · rw [if_neg he]
    generalize err2 xs ts=e at *
    refine zQv (zLy (fn:=Try.f27) Try.func27 rfl rfl rfl rfl rfl ?_)
    simp only [zLz]
    (repeat' (first
  | (with_reducible first|refine zJx ?_|refine zGv ?_|refine zFz ?_|refine zEv ?_|refine zFy ?_|refine zJw ?_|refine zHz ?_|refine zCz ?_|refine zDw ?_|refine zCy ?_|refine zCv ?_|refine zEx ?_|refine zDz ?_|refine zCx ?_|refine zBx ?_|refine zEz ?_|refine zEy ?_|refine zAw ?_|refine zBy ?_)
  | refine zDy ?_|refine zEw rfl ?_|refine zIv ?_|refine zJy ?_
  | ((first|refine zGw rfl rfl rfl rfl rfl fun K_ hK_=>?_|refine zGx rfl rfl rfl rfl rfl fun K_ hK_=>?_);simp only [zAz,zDx,zGz,↓reduceIte,reduceCtorEq,Nat.reduceEqDiff,Bool.not_true,Bool.not_false];refine hK_ _ ?_;clear hK_ K_)
  | refine zDv (by decide) ?_
  | ((try first|refine zKy rfl rfl rfl ?_|refine zIw rfl rfl ?_|refine zKx rfl rfl rfl ?_|refine zJz rfl rfl ?_);(refine zIx fun Q_ hQ_=>?_;simp (disch:=first|omega|(simp only [List.length_cons,List.length_nil,List.length_append];omega)) only [bb,bp,zLz,↓reduceIte,reduceCtorEq,Nat.reduceEqDiff,Nat.reduceLT,Nat.reduceLeDiff,Nat.reduceAdd,Nat.reduceMul,Nat.reduceSub,Nat.reduceBEq,Int.reduceToNat,cond_true,cond_false,eq_self,beq_self_eq_true,hl,hl2,f1,f2,f3,f4,zFw wf,zGy wf,zBv wf,zFx wf,zAy wf,zAx,tEvZ23,zIy,zIz,zHv,zHw,zAv wf];first|(refine zCw (Q:=Q_) (fun hp_=>?_) (fun hp_=>?_) <;> first|(exfalso;omega)|(refine hQ_ _ _ ?_;clear hQ_ Q_))|(refine zBw (Q:=Q_) (fun hp_=>?_) (fun hp_=>?_) <;> first|(exfalso;omega)|(refine hQ_ _ _ ?_;clear hQ_ Q_))|(refine hQ_ _ _ ?_;clear hQ_ Q_)|(refine zOy (c1 _ _ (by first|omega|(simp only [List.length_append,List.length_cons,List.length_nil];omega))) ?_;refine hQ_ _ _ ?_;clear hQ_ Q_)))
  | (refine zHy fun K_ hK_=>?_;simp (disch:=omega) only [zFv,zAz,zHx,↓reduceIte,reduceCtorEq,Nat.reduceEqDiff,Nat.reduceLT];refine hK_ _ ?_;clear hK_ K_)))
    all_goals (refine zKz _ _ rfl (ret2 (by decide) (by decide)) ?_;simp only [zAz,↓reduceIte,reduceCtorEq,Nat.reduceEqDiff];refine zKv rfl (by omega) ?_)
    all_goals exact ⟨rfl,rfl⟩
theorem proofErr (xs:List Int) (a:AV) (h:H) (wf:Wf h) (hs:Sl h a 1 xs.length (xs.map ii)) (hne:errB xs≠0):(om Try.prog KK).call (.fn 28 [a]) h = .ok (.tup [.agg [.nils,ii 0],ii (errB xs)]) h:=by
  obtain ⟨f1,f2⟩:=zPy hs
  have c1 : ∀ (l:List AO) (w:Nat),w≤h.clock+l.length→(om Try.prog KK).call (.fn 18 [a]) (X h l w) = .ok (ii (errB xs)) (X h l w):=fun l w hw=>checkBits xs a _ (wf.X hw) (hs.up wf l w)
  generalize errB xs=e at *
  refine zQv (zLy (fn:=Try.f28) Try.func28 rfl rfl rfl rfl rfl ?_)
  simp only [zLz]
  (repeat' (first
  | (with_reducible first|refine zJx ?_|refine zGv ?_|refine zFz ?_|refine zEv ?_|refine zFy ?_|refine zJw ?_|refine zHz ?_|refine zCz ?_|refine zDw ?_|refine zCy ?_|refine zCv ?_|refine zEx ?_|refine zDz ?_|refine zCx ?_|refine zBx ?_|refine zEz ?_|refine zEy ?_|refine zAw ?_|refine zBy ?_)
  | refine zDy ?_|refine zEw rfl ?_|refine zIv ?_|refine zJy ?_
  | ((first|refine zGw rfl rfl rfl rfl rfl fun K_ hK_=>?_|refine zGx rfl rfl rfl rfl rfl fun K_ hK_=>?_);simp only [zAz,zDx,zGz,↓reduceIte,reduceCtorEq,Nat.reduceEqDiff,Bool.not_true,Bool.not_false];refine hK_ _ ?_;clear hK_ K_)
  | refine zDv (by decide) ?_
  | ((try first|refine zKy rfl rfl rfl ?_|refine zIw rfl rfl ?_|refine zKx rfl rfl rfl ?_|refine zJz rfl rfl ?_);(refine zIx fun Q_ hQ_=>?_;simp (disch:=first|omega|(simp only [List.length_cons,List.length_nil,List.length_append];omega)) only [bb,bp,zLz,↓reduceIte,reduceCtorEq,Nat.reduceEqDiff,Nat.reduceLT,Nat.reduceLeDiff,Nat.reduceAdd,Nat.reduceMul,Nat.reduceSub,Nat.reduceBEq,Int.reduceToNat,cond_true,cond_false,eq_self,beq_self_eq_true,f1,f2,zFw wf,zGy wf,zBv wf,zFx wf,zAy wf,zAx,tEvZ23,zIy,zIz,zHv,zHw,zAv wf];first|(refine zCw (Q:=Q_) (fun hp_=>?_) (fun hp_=>?_) <;> first|(exfalso;omega)|(refine hQ_ _ _ ?_;clear hQ_ Q_))|(refine zBw (Q:=Q_) (fun hp_=>?_) (fun hp_=>?_) <;> first|(exfalso;omega)|(refine hQ_ _ _ ?_;clear hQ_ Q_))|(refine hQ_ _ _ ?_;clear hQ_ Q_)|(refine zOy (c1 _ _ (by first|omega|(simp only [List.length_append,List.length_cons,List.length_nil];omega))) ?_;refine hQ_ _ _ ?_;clear hQ_ Q_)))
  | (refine zHy fun K_ hK_=>?_;simp (disch:=omega) only [zFv,zAz,zHx,↓reduceIte,reduceCtorEq,Nat.reduceEqDiff,Nat.reduceLT];refine hK_ _ ?_;clear hK_ K_)))
  refine zKz _ _ rfl (retc1 (by decide) (by decide) (by simp (disch:=first|omega|(simp only [List.length_cons,List.length_nil,List.length_append];omega)) only [bb,bp,zLz,↓reduceIte,reduceCtorEq,Nat.reduceEqDiff,Nat.reduceLT,Nat.reduceLeDiff,Nat.reduceAdd,Nat.reduceMul,Nat.reduceSub,Nat.reduceBEq,Int.reduceToNat,cond_true,cond_false,eq_self,beq_self_eq_true,zBv wf,tEvZ23,zIy,zIz,zHv,zHw,zAv wf];rfl)) ?_
  simp only [zAz,↓reduceIte,reduceCtorEq,Nat.reduceEqDiff]
  refine zKv rfl (by omega) ?_
  exact ⟨rfl,rfl⟩
theorem proofNone (xs:List Int) (he:errB xs=0) (h0:bN (bitL xs)=0) (a:AV) (h:H) (wf:Wf h) (hs:Sl h a 1 xs.length (xs.map ii)):(om Try.prog KK).call (.fn 28 [a]) h = .ok (.tup [.agg [.nils,ii 0],ii 5]) h:=by
  obtain ⟨hx1,hx2⟩:=xDv he
  have hs':Sl h a 1 (bitL xs).length ((bitL xs).map bi):=by rw [zLw,← hx2];exact hs
  obtain ⟨f1,f2⟩:=zPy hs
  have c1 : ∀ (l:List AO) (w:Nat),w≤h.clock+l.length→(om Try.prog KK).call (.fn 18 [a]) (X h l w) = .ok (ii 0) (X h l w):=fun l w hw=>by rw [checkBits xs a _ (wf.X hw) (hs.up wf l w),he]
  have c2 : ∀ (l:List AO) (w:Nat),w≤h.clock+l.length→(om Try.prog KK).call (.fn 53 [a]) (X h l w) = .ok (.agg (wd 0)) (X h l w):=fun l w hw=>by rw [wordsOf (bitL xs) (by rw [zLw];exact hx1) a _ (wf.X hw) (hs'.up wf l w),h0]
  have c3 : ∀ (l:List AO) (w:Nat),w≤h.clock+l.length→(om Try.prog KK).call (.fn 54 [.agg (wd 0)]) (X h l w) = .ok (.bool true) (X h l w):=fun l w hw=>isNone 0 (by decide) _ (wf.X hw)
  refine zQv (zLy (fn:=Try.f28) Try.func28 rfl rfl rfl rfl rfl ?_)
  simp only [zLz]
  (repeat' (first
  | (with_reducible first|refine zJx ?_|refine zGv ?_|refine zFz ?_|refine zEv ?_|refine zFy ?_|refine zJw ?_|refine zHz ?_|refine zCz ?_|refine zDw ?_|refine zCy ?_|refine zCv ?_|refine zEx ?_|refine zDz ?_|refine zCx ?_|refine zBx ?_|refine zEz ?_|refine zEy ?_|refine zAw ?_|refine zBy ?_)
  | refine zDy ?_|refine zEw rfl ?_|refine zIv ?_|refine zJy ?_
  | ((first|refine zGw rfl rfl rfl rfl rfl fun K_ hK_=>?_|refine zGx rfl rfl rfl rfl rfl fun K_ hK_=>?_);simp only [zAz,zDx,zGz,↓reduceIte,reduceCtorEq,Nat.reduceEqDiff,Bool.not_true,Bool.not_false];refine hK_ _ ?_;clear hK_ K_)
  | refine zDv (by decide) ?_
  | ((try first|refine zKy rfl rfl rfl ?_|refine zIw rfl rfl ?_|refine zKx rfl rfl rfl ?_|refine zJz rfl rfl ?_);(refine zIx fun Q_ hQ_=>?_;simp (disch:=first|omega|(simp only [List.length_cons,List.length_nil,List.length_append];omega)) only [bb,bp,zLz,↓reduceIte,reduceCtorEq,Nat.reduceEqDiff,Nat.reduceLT,Nat.reduceLeDiff,Nat.reduceAdd,Nat.reduceMul,Nat.reduceSub,Nat.reduceBEq,Int.reduceToNat,cond_true,cond_false,eq_self,beq_self_eq_true,f1,f2,zFw wf,zGy wf,zBv wf,zFx wf,zAy wf,zAx,tEvZ23,zIy,zIz,zHv,zHw,zAv wf];first|(refine zCw (Q:=Q_) (fun hp_=>?_) (fun hp_=>?_) <;> first|(exfalso;omega)|(refine hQ_ _ _ ?_;clear hQ_ Q_))|(refine zBw (Q:=Q_) (fun hp_=>?_) (fun hp_=>?_) <;> first|(exfalso;omega)|(refine hQ_ _ _ ?_;clear hQ_ Q_))|(refine hQ_ _ _ ?_;clear hQ_ Q_)|(refine zOy (c1 _ _ (by first|omega|(simp only [List.length_append,List.length_cons,List.length_nil];omega))) ?_;refine hQ_ _ _ ?_;clear hQ_ Q_)|(refine zOy (c2 _ _ (by first|omega|(simp only [List.length_append,List.length_cons,List.length_nil];omega))) ?_;refine hQ_ _ _ ?_;clear hQ_ Q_)|(refine zOy (c3 _ _ (by first|omega|(simp only [List.length_append,List.length_cons,List.length_nil];omega))) ?_;refine hQ_ _ _ ?_;clear hQ_ Q_)))
  | (refine zHy fun K_ hK_=>?_;simp (disch:=omega) only [zFv,zAz,zHx,↓reduceIte,reduceCtorEq,Nat.reduceEqDiff,Nat.reduceLT];refine hK_ _ ?_;clear hK_ K_)))
  refine zKz _ _ rfl (retc1 (by decide) (by decide) (by simp (disch:=first|omega|(simp only [List.length_cons,List.length_nil,List.length_append];omega)) only [bb,bp,zLz,↓reduceIte,reduceCtorEq,Nat.reduceEqDiff,Nat.reduceLT,Nat.reduceLeDiff,Nat.reduceAdd,Nat.reduceMul,Nat.reduceSub,Nat.reduceBEq,Int.reduceToNat,cond_true,cond_false,eq_self,beq_self_eq_true,zBv wf,tEvZ23,zIy,zIz,zHv,zHw,zAv wf];rfl)) ?_
  simp only [zAz,↓reduceIte,reduceCtorEq,Nat.reduceEqDiff]
  refine zKv rfl (by omega) ?_
  exact ⟨rfl,rfl⟩
end Go.Proofs.Ytmincoafjnnkpaa
end

section
namespace Go.Proofs.Ytmincoafjnnkpaa
open Go.Ev
set_option maxRecDepth 100000
set_option linter.unusedSimpArgs false
set_option linter.unusedVariables false
set_option maxHeartbeats 2000000
theorem tEvZ24 :type_of% (And.intro (And.intro (And.intro (And.intro (And.intro (And.intro (And.intro (@yQw) (@yQx)) (And.intro (@yQy) (@yQz))) (And.intro (And.intro (@yPv) (@yPw)) (And.intro (@ia_2) (And.intro (@ia_3) (@ia_4))))) (And.intro (And.intro (And.intro (@ia_5) (@yPx)) (And.intro (@yPy) (@yPz))) (And.intro (And.intro (@yOv) (@yOw)) (And.intro (@yOx) (And.intro (@zSz) (@yOy)))))) (And.intro (And.intro (And.intro (And.intro (@yOz) (@yNv)) (And.intro (@yNw) (@yNx))) (And.intro (And.intro (@yNy) (@yNz)) (And.intro (@yMv) (And.intro (@yMw) (@sz_2))))) (And.intro (And.intro (And.intro (@sz_3) (@sz_4)) (And.intro (@sz_5) (And.intro (@zRz) (@zYv)))) (And.intro (And.intro (@zYw) (@zYx)) (And.intro (@zYy) (And.intro (@zYz) (@zRw))))))) (And.intro (And.intro (And.intro (And.intro (And.intro (@zXv) (@zXw)) (And.intro (@zXx) (@zQy))) (And.intro (And.intro (@zXy) (@zXz)) (And.intro (@zWv) (And.intro (@zWw) (@zWx))))) (And.intro (And.intro (And.intro (@ze_2) (@ze_3)) (And.intro (@ze_4) (And.intro (@ze_5) (@zWy)))) (And.intro (And.intro (@zWz) (@zVv)) (And.intro (@zVw) (And.intro (@zVx) (@zVy)))))) (And.intro (And.intro (And.intro (And.intro (@zVz) (@zUv)) (And.intro (@zUw) (@zUx))) (And.intro (And.intro (@zUy) (@zUz)) (And.intro (@zTv) (And.intro (@zTw) (@zTx))))) (And.intro (And.intro (And.intro (@zNv) (@zNw)) (And.intro (@zNx) (And.intro (@zNy) (@zNz)))) (And.intro (And.intro (@zMv) (@zMw)) (And.intro (@zMx) (And.intro (@zMy) (@yMx)))))))) (And.intro (And.intro (And.intro (And.intro (And.intro (And.intro (@yMy) (@yMz)) (And.intro (@yLv) (@yLw))) (And.intro (And.intro (@yLx) (@yLy)) (And.intro (@yLz) (And.intro (@yKv) (@yKw))))) (And.intro (And.intro (And.intro (@yKx) (@yKy)) (And.intro (@yKz) (@yJv))) (And.intro (And.intro (@yJw) (@yJx)) (And.intro (@yJy) (And.intro (@yJz) (@yIv)))))) (And.intro (And.intro (And.intro (And.intro (@yIw) (@yIx)) (And.intro (@yIy) (@yIz))) (And.intro (And.intro (@yHv) (@yHw)) (And.intro (@yHx) (And.intro (@yHy) (@yHz))))) (And.intro (And.intro (And.intro (@yGv) (@yGw)) (And.intro (@yGx) (And.intro (@yGy) (@yGz)))) (And.intro (And.intro (@yFv) (@yFw)) (And.intro (@yFx) (And.intro (@yFy) (@yFz))))))) (And.intro (And.intro (And.intro (And.intro (And.intro (@yEv) (@yEw)) (And.intro (@yEx) (@yEy))) (And.intro (And.intro (@yEz) (@yDv)) (And.intro (@yDw) (And.intro (@yDx) (@yDy))))) (And.intro (And.intro (And.intro (@yDz) (@yCv)) (And.intro (@yCw) (And.intro (@yCx) (@yCy)))) (And.intro (And.intro (@zSy) (@yCz)) (And.intro (@yBv) (And.intro (@yBw) (@yBx)))))) (And.intro (And.intro (And.intro (And.intro (@yBy) (@yBz)) (And.intro (@yAv) (@yAw))) (And.intro (And.intro (@yAx) (@yAy)) (And.intro (@yAz) (And.intro (@zZv) (@zZw))))) (And.intro (And.intro (And.intro (@zZx) (@zZy)) (And.intro (@zPv) (And.intro (@zTz) (@zSv)))) (And.intro (And.intro (@zQw) (@zSw)) (And.intro (@zRx) (And.intro (@zSx) (@zRv))))))))):=And.intro (And.intro (And.intro (And.intro (And.intro (And.intro (And.intro (@yQw) (@yQx)) (And.intro (@yQy) (@yQz))) (And.intro (And.intro (@yPv) (@yPw)) (And.intro (@ia_2) (And.intro (@ia_3) (@ia_4))))) (And.intro (And.intro (And.intro (@ia_5) (@yPx)) (And.intro (@yPy) (@yPz))) (And.intro (And.intro (@yOv) (@yOw)) (And.intro (@yOx) (And.intro (@zSz) (@yOy)))))) (And.intro (And.intro (And.intro (And.intro (@yOz) (@yNv)) (And.intro (@yNw) (@yNx))) (And.intro (And.intro (@yNy) (@yNz)) (And.intro (@yMv) (And.intro (@yMw) (@sz_2))))) (And.intro (And.intro (And.intro (@sz_3) (@sz_4)) (And.intro (@sz_5) (And.intro (@zRz) (@zYv)))) (And.intro (And.intro (@zYw) (@zYx)) (And.intro (@zYy) (And.intro (@zYz) (@zRw))))))) (And.intro (And.intro (And.intro (And.intro (And.intro (@zXv) (@zXw)) (And.intro (@zXx) (@zQy))) (And.intro (And.intro (@zXy) (@zXz)) (And.intro (@zWv) (And.intro (@zWw) (@zWx))))) (And.intro (And.intro (And.intro (@ze_2) (@ze_3)) (And.intro (@ze_4) (And.intro (@ze_5) (@zWy)))) (And.intro (And.intro (@zWz) (@zVv)) (And.intro (@zVw) (And.intro (@zVx) (@zVy)))))) (And.intro (And.intro (And.intro (And.intro (@zVz) (@zUv)) (And.intro (@zUw) (@zUx))) (And.intro (And.intro (@zUy) (@zUz)) (And.intro (@zTv) (And.intro (@zTw) (@zTx))))) (And.intro (And.intro (And.intro (@zNv) (@zNw)) (And.intro (@zNx) (And.intro (@zNy) (@zNz)))) (And.intro (And.intro (@zMv) (@zMw)) (And.intro (@zMx) (And.intro (@zMy) (@yMx)))))))) (And.intro (And.intro (And.intro (And.intro (And.intro (And.intro (@yMy) (@yMz)) (And.intro (@yLv) (@yLw))) (And.intro (And.intro (@yLx) (@yLy)) (And.intro (@yLz) (And.intro (@yKv) (@yKw))))) (And.intro (And.intro (And.intro (@yKx) (@yKy)) (And.intro (@yKz) (@yJv))) (And.intro (And.intro (@yJw) (@yJx)) (And.intro (@yJy) (And.intro (@yJz) (@yIv)))))) (And.intro (And.intro (And.intro (And.intro (@yIw) (@yIx)) (And.intro (@yIy) (@yIz))) (And.intro (And.intro (@yHv) (@yHw)) (And.intro (@yHx) (And.intro (@yHy) (@yHz))))) (And.intro (And.intro (And.intro (@yGv) (@yGw)) (And.intro (@yGx) (And.intro (@yGy) (@yGz)))) (And.intro (And.intro (@yFv) (@yFw)) (And.intro (@yFx) (And.intro (@yFy) (@yFz))))))) (And.intro (And.intro (And.intro (And.intro (And.intro (@yEv) (@yEw)) (And.intro (@yEx) (@yEy))) (And.intro (And.intro (@yEz) (@yDv)) (And.intro (@yDw) (And.intro (@yDx) (@yDy))))) (And.intro (And.intro (And.intro (@yDz) (@yCv)) (And.intro (@yCw) (And.intro (@yCx) (@yCy)))) (And.intro (And.intro (@zSy) (@yCz)) (And.intro (@yBv) (And.intro (@yBw) (@yBx)))))) (And.intro (And.intro (And.intro (And.intro (@yBy) (@yBz)) (And.intro (@yAv) (@yAw))) (And.intro (And.intro (@yAx) (@yAy)) (And.intro (@yAz) (And.intro (@zZv) (@zZw))))) (And.intro (And.intro (And.intro (@zZx) (@zZy)) (And.intro (@zPv) (And.intro (@zTz) (@zSv)))) (And.intro (And.intro (@zQw) (@zSw)) (And.intro (@zRx) (And.intro (@zSx) (@zRv))))))))
theorem attProof (B:Att) (hm:B.L≤128) (h:H) (wf:Wf h) (l:List AO) (w:Nat) (hw:w≤h.clock+l.length) :
    (om Try.prog KK).call (.fn 56 [.agg (attC B)]) (X h l w) = .ok (.agg [.sl (nx h (l.length+4)) 0 B.L (some B.L) 1,ii B.at_]) (X h (l++[.cells (zBz (attC B)) 67,.cells (zBz [.sl (nx h (l.length+4)) 0 B.L (some B.L) 1,ii B.at_]) 34,.cells (zBz (rg B.T B.L)) 59,.cells (zBz (wd B.T)) 57,.cells (zBz ((bitsL B.T B.L).map bi)) 3]) w):=by
  have key : ∀ hb,Wf hb→(om Try.prog KK).call (.fn 56 [.agg (attC B)]) hb = .ok (.agg [.sl (nx hb 4) 0 B.L (some B.L) 1,ii B.at_]) (X hb [.cells (zBz (attC B)) 67,.cells (zBz [.sl (nx hb 4) 0 B.L (some B.L) 1,ii B.at_]) 34,.cells (zBz (rg B.T B.L)) 59,.cells (zBz (wd B.T)) 57,.cells (zBz ((bitsL B.T B.L).map bi)) 3] hb.w):=by
    clear hw wf h
    intro h wf
    have c1 : ∀ (l:List AO) (w:Nat),w≤h.clock+l.length→(om Try.prog KK).call (.fn 50 [.agg [uu (B.T % 2 ^ 64),uu (B.T >>> 64),ii (B.L:Int)]]) (X h l w) = .ok (.sl (nx h (l.length+2)) 0 B.L (some B.L) 1) (X h (l++[.cells (zBz (rg B.T B.L)) 59,.cells (zBz (wd B.T)) 57,.cells (zBz ((bitsL B.T B.L).map bi)) 3]) w):=fun l w hw=>regList B.T B.L hm h wf l w hw
    refine zQv (zLy (fn:=Try.f56) Try.func56 rfl rfl rfl rfl rfl ?_)
    simp only [zLz]
    unfold attC
    (repeat' (first
  | (with_reducible first|refine zJx ?_|refine zGv ?_|refine zFz ?_|refine zEv ?_|refine zFy ?_|refine zJw ?_|refine zHz ?_|refine zCz ?_|refine zDw ?_|refine zCy ?_|refine zCv ?_|refine zEx ?_|refine zDz ?_|refine zCx ?_|refine zBx ?_|refine zEz ?_|refine zEy ?_|refine zAw ?_|refine zBy ?_)
  | refine zDy ?_|refine zEw rfl ?_|refine zIv ?_|refine zJy ?_
  | ((first|refine zGw rfl rfl rfl rfl rfl fun K_ hK_=>?_|refine zGx rfl rfl rfl rfl rfl fun K_ hK_=>?_);simp only [zAz,zDx,zGz,↓reduceIte,reduceCtorEq,Nat.reduceEqDiff,Bool.not_true,Bool.not_false];refine hK_ _ ?_;clear hK_ K_)
  | refine zDv (by decide) ?_
  | ((try first|refine zKy rfl rfl rfl ?_|refine zIw rfl rfl ?_|refine zKx rfl rfl rfl ?_|refine zJz rfl rfl ?_);(refine zIx fun Q_ hQ_=>?_;simp (disch:=first|omega|(simp only [List.length_cons,List.length_nil,List.length_append];omega)) only [bb,bp,zLz,↓reduceIte,reduceCtorEq,Nat.reduceEqDiff,Nat.reduceLT,Nat.reduceLeDiff,Nat.reduceAdd,Nat.reduceMul,Nat.reduceSub,Nat.reduceBEq,Int.reduceToNat,cond_true,cond_false,eq_self,beq_self_eq_true,zFw wf,zGy wf,zBv wf,zFx wf,zAy wf,zAx,tEvZ24,zIy,zIz,zHv,zHw,zAv wf];first|(refine zCw (Q:=Q_) (fun hp_=>?_) (fun hp_=>?_) <;> first|(exfalso;omega)|(refine hQ_ _ _ ?_;clear hQ_ Q_))|(refine zBw (Q:=Q_) (fun hp_=>?_) (fun hp_=>?_) <;> first|(exfalso;omega)|(refine hQ_ _ _ ?_;clear hQ_ Q_))|(refine hQ_ _ _ ?_;clear hQ_ Q_)))
  | (refine zHy fun K_ hK_=>?_;simp (disch:=omega) only [zFv,zAz,zHx,↓reduceIte,reduceCtorEq,Nat.reduceEqDiff,Nat.reduceLT];refine hK_ _ ?_;clear hK_ K_)))
    refine zOz [.no,.no,.no,.no,.no,.full,.full] (by kernel_rfl) ?_
    (repeat' (first
  | (with_reducible first|refine zJx ?_|refine zGv ?_|refine zFz ?_|refine zEv ?_|refine zFy ?_|refine zJw ?_|refine zHz ?_|refine zCz ?_|refine zDw ?_|refine zCy ?_|refine zCv ?_|refine zEx ?_|refine zDz ?_|refine zCx ?_|refine zBx ?_|refine zEz ?_|refine zEy ?_|refine zAw ?_|refine zBy ?_)
  | refine zDy ?_|refine zEw rfl ?_|refine zIv ?_|refine zJy ?_
  | ((first|refine zGw rfl rfl rfl rfl rfl fun K_ hK_=>?_|refine zGx rfl rfl rfl rfl rfl fun K_ hK_=>?_);simp only [zAz,zDx,zGz,↓reduceIte,reduceCtorEq,Nat.reduceEqDiff,Bool.not_true,Bool.not_false];refine hK_ _ ?_;clear hK_ K_)
  | refine zDv (by decide) ?_
  | ((try first|refine zKy rfl rfl rfl ?_|refine zIw rfl rfl ?_|refine zKx rfl rfl rfl ?_|refine zJz rfl rfl ?_);(refine zIx fun Q_ hQ_=>?_;simp (disch:=first|omega|(simp only [List.length_cons,List.length_nil,List.length_append];omega)) only [bb,bp,zLz,↓reduceIte,reduceCtorEq,Nat.reduceEqDiff,Nat.reduceLT,Nat.reduceLeDiff,Nat.reduceAdd,Nat.reduceMul,Nat.reduceSub,Nat.reduceBEq,Int.reduceToNat,cond_true,cond_false,eq_self,beq_self_eq_true,c1,zFw wf,zGy wf,zBv wf,zFx wf,zAy wf,zAx,tEvZ24,zIy,zIz,zHv,zHw,zAv wf];first|(refine zCw (Q:=Q_) (fun hp_=>?_) (fun hp_=>?_) <;> first|(exfalso;omega)|(refine hQ_ _ _ ?_;clear hQ_ Q_))|(refine zBw (Q:=Q_) (fun hp_=>?_) (fun hp_=>?_) <;> first|(exfalso;omega)|(refine hQ_ _ _ ?_;clear hQ_ Q_))|(refine hQ_ _ _ ?_;clear hQ_ Q_)))
  | (refine zHy fun K_ hK_=>?_;simp (disch:=omega) only [zFv,zAz,zHx,↓reduceIte,reduceCtorEq,Nat.reduceEqDiff,Nat.reduceLT];refine hK_ _ ?_;clear hK_ K_)))
    refine zKz _ _ rfl (retc0 (by decide) (by simp (disch:=first|omega|(simp only [List.length_cons,List.length_nil,List.length_append];omega)) only [bb,bp,zLz,↓reduceIte,reduceCtorEq,Nat.reduceEqDiff,Nat.reduceLT,Nat.reduceLeDiff,Nat.reduceAdd,Nat.reduceMul,Nat.reduceSub,Nat.reduceBEq,Int.reduceToNat,cond_true,cond_false,eq_self,beq_self_eq_true,zBv wf,tEvZ24,zIy,zIz,zHv,zHw,zAv wf];rfl)) ?_
    refine xUx wf (by omega) (fun hfl=>absurd (show false=true from hfl) (by decide)) (fun _=>?_)
    exact ⟨rfl,rfl⟩
  rw [key _ (wf.X hw),X_X,nx_X,X_w]
theorem proofOK (xs:List Int) (he:errB xs=0) (h0:bN (bitL xs)≠0) (a:AV) (hc:CapU 1 a) (h:H) (wf:Wf h) (hs:Sl h a 1 xs.length (xs.map ii)) :
    ∃ T L q C v M,Wrong T L (sq (bitL xs)) q∧q<xs.length∧T<2 ^ L∧L≤128∧Cpx (sq (bitL xs)) xs.length C∧q+1=C+L∧0<C∧(AV.cells v=[v]∧oneB v=true)∧(∀ J w,Sl (X h (M++J) w) v 1 (tapI T L).length ((tapI T L).map ii))∧(om Try.prog KK).call (.fn 28 [a]) h = .ok (.tup [.agg [v,ii (q:Int)],ii 0]) (X h M h.w):=by
  obtain ⟨hx1,hx2⟩:=xDv he
  have hxl:=zLw xs
  have hs':Sl h a 1 (bitL xs).length ((bitL xs).map bi):=by rw [zLw,← hx2];exact hs
  obtain ⟨f1,f2⟩:=zPy hs
  have c1 : ∀ (l:List AO) (w:Nat),w≤h.clock+l.length→(om Try.prog KK).call (.fn 18 [a]) (X h l w) = .ok (ii 0) (X h l w):=fun l w hw=>by rw [checkBits xs a _ (wf.X hw) (hs.up wf l w),he]
  have c2 : ∀ (l:List AO) (w:Nat),w≤h.clock+l.length→(om Try.prog KK).call (.fn 53 [a]) (X h l w) = .ok (.agg (wd (bN (bitL xs)))) (X h l w):=fun l w hw=>wordsOf (bitL xs) (by omega) a _ (wf.X hw) (hs'.up wf l w)
  have c3 : ∀ (l:List AO) (w:Nat),w≤h.clock+l.length→(om Try.prog KK).call (.fn 54 [.agg (wd (bN (bitL xs)))]) (X h l w) = .ok (.bool false) (X h l w):=fun l w hw=>by rw [isNone _ (xRz (by omega)) _ (wf.X hw),decide_eq_false h0]

  obtain ⟨l,T,L,p,prof,v,M,idx,hch,hp,hm,hat,e⟩:=seek (bitL xs) (by omega) a hc (X h [.cells (zBz [.nils,.int .i64 0]) 34] h.clock) (wf.X (by simp)) (hs'.up wf _ _)
  rw [X_X,X_w] at e
  rw [hxl] at hp hm
  have hf:=hch.facts
  obtain ⟨hok,hln⟩:=chain_ok hch
  have hC:=chain_cx hch hp hm

  have hC0:0<L:=Nat.pos_of_ne_zero fun hL0=>h0 (by
    apply Nat.eq_of_testBit_eq;intro i
    rw [xIx,Nat.zero_testBit]
    by_cases hi:i<xs.length
    · have:=hm i (by omega) hi
      rw [hL0] at this
      exact this
    · rw [List.getD_eq_getElem?_getD,List.getElem?_eq_none (by omega)];rfl)
  have hBok:=hok _ (bestA_mem hf.ne)
  have hbest:=hf.best
  have hBb:(bestA l).bound=(bestA l).at_+1 - ((bestA l).L:Int):=rfl
  obtain ⟨hBT,q,hBat,hqp,hBw⟩:(bestA l).T<2 ^ (bestA l).L ∧ ∃ q:Nat,(bestA l).at_=(q:Int)∧q<p∧Wrong (bestA l).T (bestA l).L (sq (bitL xs)) q:=by
    rcases hf.by_ with h|h
    · rw [h] at hbest
      have:(0:Int)=(L:Int):=hbest
      omega
    · exact h
  have hat2:AttsAt h ([.cells (zBz [.nils,.int .i64 0]) 34]++M) (1+idx) l v:=by
    obtain ⟨cap,hve,hM,hcap⟩:=hat
    exact ⟨cap,by rw [hve,nx_X];rfl,by rw [show 1+idx=[AO.cells (zBz [AV.nils,AV.int .i64 0]) 34].length+idx from rfl,xGy];exact hM,hcap⟩
  obtain ⟨fv1,fv2⟩:=zPy (hat2.sl wf h.clock)
  have cS : ∀ (J:List AO) (w:Nat),w≤h.clock+(1+M.length+J.length)→(om Try.prog KK).call (.fn 55 [v]) (X h ([.cells (zBz [.nils,.int .i64 0]) 34]++M++J) w) = .ok (.agg (attC (bestA l))) (X h ([.cells (zBz [.nils,.int .i64 0]) 34]++M++J) w):=fun J w hw=>strongest l hf.ne (by have:=hf.p_le;omega) hok v hat2.capU _ (wf.X (by simp only [List.length_append,List.length_cons,List.length_nil];omega)) ((hat2.more J).sl wf w)
  have cP : ∀ (J:List AO) (w:Nat),w≤h.clock+J.length→_:=fun J w hw=>attProof (bestA l) hBok.2 h wf J w hw
  generalize hBe:bestA l=B at *
  rw [hBat] at cP
  simp only [List.cons_append,List.nil_append,List.append_assoc] at cS e
  unfold rg at e
  refine ⟨B.T,B.L,q,L,.sl (nx h (M.length+1+1+4)) 0 B.L (some B.L) 1,.cells (zBz [.sl (nx h (M.length+1+1+4)) 0 B.L (some B.L) 1,ii (q:Int)]) 34 :: (M++[.cells (zBz [uu (T % 2 ^ 64),uu (T >>> 64),ii (L:Int)]) 59,.cells (zBz (attC B)) 67,.cells (zBz [.sl (nx h (M.length+1+1+4)) 0 B.L (some B.L) 1,ii (q:Int)]) 34,.cells (zBz (rg B.T B.L)) 59,.cells (zBz (wd B.T)) 57,.cells (zBz ((bitsL B.T B.L).map bi)) 3]),hBw,by omega,hBT,hBok.2,hC,by omega,hC0,⟨rfl,rfl⟩,fun J w=>?_,?_⟩
  · rw [wAy,tapI_bits]
    refine Sl.new (e:=3) wf (by rw [List.length_map,xIy,Nat.mul_one]) ?_
    rw [List.cons_append,List.append_assoc,show M.length+1+1+4=(M.length+5)+1 from rfl,List.getElem?_cons_succ,xGy]
    rfl
  · refine zQv (zLy (fn:=Try.f28) Try.func28 rfl rfl rfl rfl rfl ?_)
    simp only [zLz]
    (repeat' (first
  | (with_reducible first|refine zJx ?_|refine zGv ?_|refine zFz ?_|refine zEv ?_|refine zFy ?_|refine zJw ?_|refine zHz ?_|refine zCz ?_|refine zDw ?_|refine zCy ?_|refine zCv ?_|refine zEx ?_|refine zDz ?_|refine zCx ?_|refine zBx ?_|refine zEz ?_|refine zEy ?_|refine zAw ?_|refine zBy ?_)
  | refine zDy ?_|refine zEw rfl ?_|refine zIv ?_|refine zJy ?_
  | ((first|refine zGw rfl rfl rfl rfl rfl fun K_ hK_=>?_|refine zGx rfl rfl rfl rfl rfl fun K_ hK_=>?_);simp only [zAz,zDx,zGz,↓reduceIte,reduceCtorEq,Nat.reduceEqDiff,Bool.not_true,Bool.not_false];refine hK_ _ ?_;clear hK_ K_)
  | refine zDv (by decide) ?_
  | ((try first|refine zKy rfl rfl rfl ?_|refine zIw rfl rfl ?_|refine zKx rfl rfl rfl ?_|refine zJz rfl rfl ?_);(refine zIx fun Q_ hQ_=>?_;simp (disch:=first|omega|(simp only [List.length_cons,List.length_nil,List.length_append];omega)) only [bb,bp,zLz,↓reduceIte,reduceCtorEq,Nat.reduceEqDiff,Nat.reduceLT,Nat.reduceLeDiff,Nat.reduceAdd,Nat.reduceMul,Nat.reduceSub,Nat.reduceBEq,Int.reduceToNat,cond_true,cond_false,eq_self,beq_self_eq_true,f1,f2,fv1,fv2,zFw wf,zGy wf,zBv wf,zFx wf,zAy wf,zAx,tEvZ24,zIy,zIz,zHv,zHw,zAv wf];first|(refine zCw (Q:=Q_) (fun hp_=>?_) (fun hp_=>?_) <;> first|(exfalso;omega)|(refine hQ_ _ _ ?_;clear hQ_ Q_))|(refine zBw (Q:=Q_) (fun hp_=>?_) (fun hp_=>?_) <;> first|(exfalso;omega)|(refine hQ_ _ _ ?_;clear hQ_ Q_))|(refine hQ_ _ _ ?_;clear hQ_ Q_)|(refine zOy (c1 _ _ (by first|omega|(simp only [List.length_append,List.length_cons,List.length_nil];omega))) ?_;refine hQ_ _ _ ?_;clear hQ_ Q_)|(refine zOy (c2 _ _ (by first|omega|(simp only [List.length_append,List.length_cons,List.length_nil];omega))) ?_;refine hQ_ _ _ ?_;clear hQ_ Q_)|(refine zOy (c3 _ _ (by first|omega|(simp only [List.length_append,List.length_cons,List.length_nil];omega))) ?_;refine hQ_ _ _ ?_;clear hQ_ Q_)|(refine zOy (e) ?_;refine hQ_ _ _ ?_;clear hQ_ Q_)|(refine zOy (cS _ _ (by first|omega|(simp only [List.length_append,List.length_cons,List.length_nil];omega))) ?_;refine hQ_ _ _ ?_;clear hQ_ Q_)|(refine zOy (cP _ _ (by first|omega|(simp only [List.length_append,List.length_cons,List.length_nil];omega))) ?_;refine hQ_ _ _ ?_;clear hQ_ Q_)))
  | (refine zHy fun K_ hK_=>?_;simp (disch:=omega) only [zFv,zAz,zHx,↓reduceIte,reduceCtorEq,Nat.reduceEqDiff,Nat.reduceLT];refine hK_ _ ?_;clear hK_ K_)))
    refine zKz _ _ rfl (retc1 (by decide) (by decide) (by simp (disch:=first|omega|(simp only [List.length_cons,List.length_nil,List.length_append];omega)) only [bb,bp,zLz,↓reduceIte,reduceCtorEq,Nat.reduceEqDiff,Nat.reduceLT,Nat.reduceLeDiff,Nat.reduceAdd,Nat.reduceMul,Nat.reduceSub,Nat.reduceBEq,Int.reduceToNat,cond_true,cond_false,eq_self,beq_self_eq_true,zBv wf,tEvZ24,zIy,zIz,zHv,zHw,zAv wf];rfl)) ?_
    simp only [zAz,↓reduceIte,reduceCtorEq,Nat.reduceEqDiff]
    refine xUx wf (by omega) (fun hfl=>absurd (show false=true from hfl) (by decide)) (fun _=>?_)
    exact ⟨rfl,rfl⟩
end Go.Proofs.Ytmincoafjnnkpaa
end

section
namespace Go.Proofs.Ytmincoafjnnkpaa
open Go.Ev
set_option maxRecDepth 100000
set_option linter.unusedSimpArgs false
set_option linter.unusedVariables false
set_option maxHeartbeats 2000000
theorem cpV_ok {xs ts:List Int} {k:Nat} (hx:errB xs=0) (ht:errB ts=0) (hk:k<xs.length) (w:Wrong (bN (bitL ts)) ts.length (sq (bitL xs)) k):cpV xs ts (k:Int)=((k:Int)+1 - (ts.length:Int),0):=by
  unfold cpV err2
  rw [if_pos hx,if_pos ht,if_neg (by omega),Int.toNat_natCast,rightB_iff.2 w,if_pos rfl]
end Go.Proofs.Ytmincoafjnnkpaa
end
