import Derived.Test.YtkmdidplmfdikabDoorM5
set_option linter.all false
section
namespace Go.Proofs.YtkmdidplmfdikabDoor
open Go.Ev
set_option maxRecDepth 100000
set_option linter.unusedSimpArgs false
set_option linter.unusedVariables false
set_option maxHeartbeats 2000000

theorem tEvbT10 :type_of% (And.intro (And.intro (And.intro (And.intro (And.intro (@zSz) (And.intro (@ia_2) (@sz_2))) (And.intro (And.intro (@ze_2) (@ia_3)) (And.intro (@sz_3) (@zTz)))) (And.intro (And.intro (@zUw) (And.intro (@zRw) (@zPw))) (And.intro (And.intro (@zVx) (@zUy)) (And.intro (@zVy) (@zXv))))) (And.intro (And.intro (And.intro (@zXw) (And.intro (@zTy) (@zSv))) (And.intro (And.intro (@zRv) (@zXz)) (And.intro (@zTw) (@yJw)))) (And.intro (And.intro (@yJx) (And.intro (@yJz) (@yFy))) (And.intro (And.intro (@yEx) (@yVw)) (And.intro (@xZv) (@ia_92)))))) (And.intro (And.intro (And.intro (And.intro (@sz_92) (And.intro (@ia_4) (@sz_4))) (And.intro (And.intro (@ze_4) (@zVv)) (And.intro (@zVw) (@zOz)))) (And.intro (And.intro (@zNv) (And.intro (@zNw) (@zOw))) (And.intro (And.intro (@zMv) (@zNz)) (And.intro (@zPv) (@zMy))))) (And.intro (And.intro (And.intro (@zMz) (And.intro (@zPw) (@yJy))) (And.intro (And.intro (@yIv) (@yFz)) (And.intro (@yMz) (@xFv)))) (And.intro (And.intro (And.intro (@yCz) (@yRy)) (And.intro (@xAv) (@pb_52))) (And.intro (And.intro (@xBz) (@pb_50)) (And.intro (@xNz) (@yPx))))))):=And.intro (And.intro (And.intro (And.intro (And.intro (@zSz) (And.intro (@ia_2) (@sz_2))) (And.intro (And.intro (@ze_2) (@ia_3)) (And.intro (@sz_3) (@zTz)))) (And.intro (And.intro (@zUw) (And.intro (@zRw) (@zPw))) (And.intro (And.intro (@zVx) (@zUy)) (And.intro (@zVy) (@zXv))))) (And.intro (And.intro (And.intro (@zXw) (And.intro (@zTy) (@zSv))) (And.intro (And.intro (@zRv) (@zXz)) (And.intro (@zTw) (@yJw)))) (And.intro (And.intro (@yJx) (And.intro (@yJz) (@yFy))) (And.intro (And.intro (@yEx) (@yVw)) (And.intro (@xZv) (@ia_92)))))) (And.intro (And.intro (And.intro (And.intro (@sz_92) (And.intro (@ia_4) (@sz_4))) (And.intro (And.intro (@ze_4) (@zVv)) (And.intro (@zVw) (@zOz)))) (And.intro (And.intro (@zNv) (And.intro (@zNw) (@zOw))) (And.intro (And.intro (@zMv) (@zNz)) (And.intro (@zPv) (@zMy))))) (And.intro (And.intro (And.intro (@zMz) (And.intro (@zPw) (@yJy))) (And.intro (And.intro (@yIv) (@yFz)) (And.intro (@yMz) (@xFv)))) (And.intro (And.intro (And.intro (@yCz) (@yRy)) (And.intro (@xAv) (@pb_52))) (And.intro (And.intro (@xBz) (@pb_50)) (And.intro (@xNz) (@yPx))))))
def onwS (pf:Int→Int→Int→Int→Int) (sp:List (Int × Int)) (x:Stt):Int × Int:=onw pf (sp.drop (x.i+1)) x.a x.b x.s
def dueS (pf:Int→Int→Int→Int→Int) (sp:List (Int × Int)) (x:Stt):Int:=(onwS pf sp x).2
theorem xCx {sp:List (Int × Int)} {i:Nat} (hi:i<sp.length):sp.drop i=spot sp i :: sp.drop (i+1):=by rw [List.drop_eq_getElem_cons hi,zPz hi]
theorem onwS_step {pf:Int→Int→Int→Int→Int} {sp:List (Int × Int)} {x:Stt} (hi:x.i+1<sp.length) (hr:(spot sp (x.i+1)).1≤(spot sp (x.i+1)).2):bst (fun c=>pf x.a x.b x.s c+dueS pf sp (nxt x c)) (offs (spot sp (x.i+1)))=some (onwS pf sp x):=by
  obtain ⟨b,e,_⟩:=xDy (fun c=>pf x.a x.b x.s c+dueS pf sp (nxt x c)) (offs (spot sp (x.i+1))) (offs_ne hr)
  have e2:onwS pf sp x=(bst (fun c=>pf x.a x.b x.s c+dueS pf sp (nxt x c)) (offs (spot sp (x.i+1)))).getD (0,0):=by
    show onw pf (sp.drop (x.i+1)) x.a x.b x.s=_
    rw [xCx hi]
    show (bst (fun c=>pf x.a x.b x.s c+(onw pf (sp.drop (x.i+1+1)) x.b c (nsg x.s (x.a - 2 * x.b+c))).2) (offs (spot sp (x.i+1)))).getD (0,0)=_
    congr 1
    refine bst_congr fun c _=>?_
    show _=pf x.a x.b x.s c+(onw pf (sp.drop (x.i+1+1)) x.b c ((nxt x c).s:Int)).2
    rw [nxt_s];rfl
  rw [e2,e];rfl
theorem onwS_last {pf:Int→Int→Int→Int→Int} {sp:List (Int × Int)} {x:Stt} (hi:x.i+1=sp.length):onwS pf sp x=(0,0):=by
  show onw pf (sp.drop (x.i+1)) x.a x.b x.s=_
  rw [hi,List.drop_length];rfl

theorem onward {byv:AV} {pf:Int→Int→Int→Int→Int} (S:StepOK byv pf) (sp:List (Int × Int)) (hsp:SpotsOK sp) (a:AV) (turn:Int) (q:Pos) (Tb:List Int) (hTl:Tb.length=(sp.length - 1) * 75) (hTb : ∀ n,-1000000000000000≤Tb.getD n 0∧Tb.getD n 0≤1000000000000000)
    (x:Stt) (hx:x.Ok sp) (hgood : ∀ c,x.i+1<sp.length→(spot sp (x.i+1)).1≤c→c≤(spot sp (x.i+1)).2→Tb.getD ((nxt x c).ix sp) 0=dueS pf sp (nxt x c)) (h:H) (wf:Wf h) (hs:Sl h a 2 sp.length (zKv sp)) (ht:TabIn h q Tb) :
    (om Tryd.prog KK).call (.fn 27 [prv a turn q (sp.length - 1),stv x,byv]) h = .ok (.tup [ii (onwS pf sp x).1,ii (onwS pf sp x).2]) h:=by
  have hx':=hx
  obtain ⟨⟨k1,k2⟩,k3,k4,k5⟩:=hx'
  have n24:=hsp.n24
  have hla : ∀ l w,w≤h.clock+l.length→(om Tryd.prog KK).call (.fn 26 [.agg [a,ii turn]]) (X h l w) = .ok (ii ((sp.length - 1:Nat):Int)) (X h l w):=fun l w hw=>last a turn sp (by omega) _ (wf.X hw) (hs.up wf _ _)
  have hby:=S.flat
  by_cases hl:x.i+1=sp.length
  · rw [onwS_last hl]
    refine zWv (zLv (fn:=Tryd.f27) Tryd.func27 rfl rfl rfl rfl rfl ?_)
    simp only [zKx]
    unfold stv prv
    (repeat' (first
  | (with_reducible first|refine zJz ?_|refine zGw ?_|refine zEw ?_|refine zEx ?_|refine zEv ?_|refine zJy ?_|refine zGv ?_|refine zBw ?_|refine zDx ?_|refine zBv ?_|refine zCx ?_|refine zEz ?_|refine zCw ?_|refine zCz ?_|refine zBz ?_|refine zDv ?_|refine zDy ?_|refine zAx ?_|refine zAv ?_)
  | refine zCv ?_|refine zEy rfl ?_|refine zIw ?_|refine zIv ?_
  | ((first|refine zGx rfl rfl rfl rfl rfl fun K_ hK_=>?_|refine zGy rfl rfl rfl rfl rfl fun K_ hK_=>?_);simp only [zAz,zDz,zFw,↓reduceIte,reduceCtorEq,Nat.reduceEqDiff,Bool.not_true,Bool.not_false];refine hK_ _ ?_;clear hK_ K_)
  | refine zDw (by decide) ?_
  | ((try first|refine zJx rfl rfl rfl ?_|refine zIy rfl rfl ?_|refine zJv rfl rfl rfl ?_|refine zIx rfl rfl ?_);(refine zIz fun Q_ hQ_=>?_;simp (disch:=first|omega|(simp only [List.length_cons,List.length_nil,List.length_append];omega)) only [bb,bp,zKx,↓reduceIte,reduceCtorEq,Nat.reduceEqDiff,Nat.reduceLT,Nat.reduceLeDiff,Nat.reduceAdd,Nat.reduceMul,Nat.reduceSub,Nat.reduceBEq,Int.reduceToNat,cond_true,cond_false,eq_self,beq_self_eq_true,hby.1,hby.2,zHz wf,zHx wf,zFz wf,zHy wf,zBx wf,zFy,tEvbT10,zHw,zKy,zAw wf];first|(refine zCy (Q:=Q_) (fun hp_=>?_) (fun hp_=>?_) <;> first|(exfalso;omega)|(refine hQ_ _ _ ?_;clear hQ_ Q_))|(refine zBy (Q:=Q_) (fun hp_=>?_) (fun hp_=>?_) <;> first|(exfalso;omega)|(refine hQ_ _ _ ?_;clear hQ_ Q_))|(refine hQ_ _ _ ?_;clear hQ_ Q_)))
  | (refine zFv fun K_ hK_=>?_;simp (disch:=omega) only [zFx,zAz,zGz,↓reduceIte,reduceCtorEq,Nat.reduceEqDiff,Nat.reduceLT];refine hK_ _ ?_;clear hK_ K_)))
    refine zMw [.no,.no,.no,.no,.no,.full] (by kernel_rfl) ?_
    (repeat' (first
  | (with_reducible first|refine zJz ?_|refine zGw ?_|refine zEw ?_|refine zEx ?_|refine zEv ?_|refine zJy ?_|refine zGv ?_|refine zBw ?_|refine zDx ?_|refine zBv ?_|refine zCx ?_|refine zEz ?_|refine zCw ?_|refine zCz ?_|refine zBz ?_|refine zDv ?_|refine zDy ?_|refine zAx ?_|refine zAv ?_)
  | refine zCv ?_|refine zEy rfl ?_|refine zIw ?_|refine zIv ?_
  | ((first|refine zGx rfl rfl rfl rfl rfl fun K_ hK_=>?_|refine zGy rfl rfl rfl rfl rfl fun K_ hK_=>?_);simp only [zAz,zDz,zFw,↓reduceIte,reduceCtorEq,Nat.reduceEqDiff,Bool.not_true,Bool.not_false];refine hK_ _ ?_;clear hK_ K_)
  | refine zDw (by decide) ?_
  | ((try first|refine zJx rfl rfl rfl ?_|refine zIy rfl rfl ?_|refine zJv rfl rfl rfl ?_|refine zIx rfl rfl ?_);(refine zIz fun Q_ hQ_=>?_;simp (disch:=first|omega|(simp only [List.length_cons,List.length_nil,List.length_append];omega)) only [bb,bp,zKx,↓reduceIte,reduceCtorEq,Nat.reduceEqDiff,Nat.reduceLT,Nat.reduceLeDiff,Nat.reduceAdd,Nat.reduceMul,Nat.reduceSub,Nat.reduceBEq,Int.reduceToNat,cond_true,cond_false,eq_self,beq_self_eq_true,hla,zHz wf,zHx wf,zFz wf,zHy wf,zBx wf,zFy,tEvbT10,zHw,zKy,zAw wf];first|(refine zCy (Q:=Q_) (fun hp_=>?_) (fun hp_=>?_) <;> first|(exfalso;omega)|(refine hQ_ _ _ ?_;clear hQ_ Q_))|(refine zBy (Q:=Q_) (fun hp_=>?_) (fun hp_=>?_) <;> first|(exfalso;omega)|(refine hQ_ _ _ ?_;clear hQ_ Q_))|(refine hQ_ _ _ ?_;clear hQ_ Q_)))
  | (refine zFv fun K_ hK_=>?_;simp (disch:=omega) only [zFx,zAz,zGz,↓reduceIte,reduceCtorEq,Nat.reduceEqDiff,Nat.reduceLT];refine hK_ _ ?_;clear hK_ K_)))
    (refine zJw _ _ rfl (ret2 (by decide) (by decide)) ?_;simp only [zAz,↓reduceIte,reduceCtorEq,Nat.reduceEqDiff];refine zLx rfl (by omega) ?_)
    exact ⟨rfl,rfl⟩
  · have hi:x.i+1<sp.length:=by omega
    obtain ⟨c1,c2,c3,c4⟩:=hsp.at hi
    obtain ⟨id0,off0,hix0,hld0⟩:=hs.at wf hi yLz
    have hr0 : ∀ l w,loadAgg id0 off0 (some 2) (X h l w)=some (.agg [ii (spot sp (x.i+1)).1,ii (spot sp (x.i+1)).2]):=fun l w=>by rw [(hld0 l w).2,zWx hi,zPz hi]
    have e1:((x.i:Int)+1)=((x.i+1:Nat):Int):=by omega
    have hleast : ∀ w,w≤h.clock+4→(om Tryd.prog KK).call (.fn 50 [.fn 63 [] [.ptr (nx h 3) 0],.fn 52 [] [.ptr (nx h 2) 0,.ptr (nx h 1) 0,.ptr (nx h 0) 0]]) (X h [.cells (zAy [a,ii turn,.sl q 0 (sp.length - 1) (some (sp.length - 1)) 75]) 56,.cells (zAy [ii (x.i:Int),ii x.a,ii x.b,ii (x.s:Int)]) 60,.cells (zAy [byv]) 87,.cells (zAy [ii (spot sp (x.i+1)).1,ii (spot sp (x.i+1)).2]) 35] w) = .ok (.tup [ii (onwS pf sp x).1,ii (onwS pf sp x).2]) (X h [.cells (zAy [a,ii turn,.sl q 0 (sp.length - 1) (some (sp.length - 1)) 75]) 56,.cells (zAy [ii (x.i:Int),ii x.a,ii x.b,ii (x.s:Int)]) 60,.cells (zAy [byv]) 87,.cells (zAy [ii (spot sp (x.i+1)).1,ii (spot sp (x.i+1)).2]) 35] w):=fun w hw=>by
      refine leastInt (f:=fun c=>pf x.a x.b x.s c+dueS pf sp (nxt x c)) (ys:=offs (spot sp (x.i+1))) (offsets1 (t:=60) (nx h 3) (spot sp (x.i+1)) ⟨c1,c2,c3⟩).plain ⟨rfl,rfl⟩ (by rw [zOy];omega) _ (wf.X hw) (fun L w2 hw2=>?_) (fun y hy L w2 hw2=>?_) _ (onwS_step hi c3)
      · rw [X_X]
        have hw3:w2≤h.clock+4+L.length:=hw2
        exact RangeIn.of wf (k:=3) (by simp only [List.length_append,List.length_cons,List.length_nil];omega) rfl
      · obtain ⟨y1,y2⟩:=zXy.1 hy
        rw [yFx,pb_52]
        show (om Tryd.prog KK).call (.fn 52 [ii y,.ptr (nx h 2) 0,.ptr (nx h 1) 0,.ptr (nx h 0) 0]) _ = .ok (ii (pf x.a x.b x.s y+dueS pf sp (nxt x y))) _
        rw [← hgood y hi y1 y2,X_X]
        have hw3:w2≤h.clock+4+L.length:=hw2
        refine onward1 S sp hsp a turn q Tb hTl hTb x y hx hi ⟨y1,y2⟩ _ (wf.X (by simp only [List.length_append,List.length_cons,List.length_nil];omega)) (hs.up wf _ _) (ht.up _ _) _ _ _ (fun J w=>?_) (fun J w=>?_) (fun J w=>?_)
        · rw [X_X,zHx wf];rfl
        · rw [X_X,zFz wf]
          show aggAt (some (.cells (zAy [ii (x.i:Int),ii x.a,ii x.b,ii (x.s:Int)]) 60)) 0 4=_
          rw [zOx (by decide)];rfl
        · rw [X_X,zFz wf]
          show aggAt (some (.cells (zAy [a,ii turn,.sl q 0 (sp.length - 1) (some (sp.length - 1)) 75]) 56)) 0 3=_
          rw [zOx (by decide)];rfl
    refine zWv (zLv (fn:=Tryd.f27) Tryd.func27 rfl rfl rfl rfl rfl ?_)
    simp only [zKx]
    unfold stv prv
    (repeat' (first
  | (with_reducible first|refine zJz ?_|refine zGw ?_|refine zEw ?_|refine zEx ?_|refine zEv ?_|refine zJy ?_|refine zGv ?_|refine zBw ?_|refine zDx ?_|refine zBv ?_|refine zCx ?_|refine zEz ?_|refine zCw ?_|refine zCz ?_|refine zBz ?_|refine zDv ?_|refine zDy ?_|refine zAx ?_|refine zAv ?_)
  | refine zCv ?_|refine zEy rfl ?_|refine zIw ?_|refine zIv ?_
  | ((first|refine zGx rfl rfl rfl rfl rfl fun K_ hK_=>?_|refine zGy rfl rfl rfl rfl rfl fun K_ hK_=>?_);simp only [zAz,zDz,zFw,↓reduceIte,reduceCtorEq,Nat.reduceEqDiff,Bool.not_true,Bool.not_false];refine hK_ _ ?_;clear hK_ K_)
  | refine zDw (by decide) ?_
  | ((try first|refine zJx rfl rfl rfl ?_|refine zIy rfl rfl ?_|refine zJv rfl rfl rfl ?_|refine zIx rfl rfl ?_);(refine zIz fun Q_ hQ_=>?_;simp (disch:=first|omega|(simp only [List.length_cons,List.length_nil,List.length_append];omega)) only [bb,bp,zKx,↓reduceIte,reduceCtorEq,Nat.reduceEqDiff,Nat.reduceLT,Nat.reduceLeDiff,Nat.reduceAdd,Nat.reduceMul,Nat.reduceSub,Nat.reduceBEq,Int.reduceToNat,cond_true,cond_false,eq_self,beq_self_eq_true,hby.1,hby.2,zHz wf,zHx wf,zFz wf,zHy wf,zBx wf,zFy,tEvbT10,zHw,zKy,zAw wf];first|(refine zCy (Q:=Q_) (fun hp_=>?_) (fun hp_=>?_) <;> first|(exfalso;omega)|(refine hQ_ _ _ ?_;clear hQ_ Q_))|(refine zBy (Q:=Q_) (fun hp_=>?_) (fun hp_=>?_) <;> first|(exfalso;omega)|(refine hQ_ _ _ ?_;clear hQ_ Q_))|(refine hQ_ _ _ ?_;clear hQ_ Q_)))
  | (refine zFv fun K_ hK_=>?_;simp (disch:=omega) only [zFx,zAz,zGz,↓reduceIte,reduceCtorEq,Nat.reduceEqDiff,Nat.reduceLT];refine hK_ _ ?_;clear hK_ K_)))
    refine zMw [.no,.no,.no,.no,.no,.full] (by kernel_rfl) ?_
    (repeat' (first
  | (with_reducible first|refine zJz ?_|refine zGw ?_|refine zEw ?_|refine zEx ?_|refine zEv ?_|refine zJy ?_|refine zGv ?_|refine zBw ?_|refine zDx ?_|refine zBv ?_|refine zCx ?_|refine zEz ?_|refine zCw ?_|refine zCz ?_|refine zBz ?_|refine zDv ?_|refine zDy ?_|refine zAx ?_|refine zAv ?_)
  | refine zCv ?_|refine zEy rfl ?_|refine zIw ?_|refine zIv ?_
  | ((first|refine zGx rfl rfl rfl rfl rfl fun K_ hK_=>?_|refine zGy rfl rfl rfl rfl rfl fun K_ hK_=>?_);simp only [zAz,zDz,zFw,↓reduceIte,reduceCtorEq,Nat.reduceEqDiff,Bool.not_true,Bool.not_false];refine hK_ _ ?_;clear hK_ K_)
  | refine zDw (by decide) ?_
  | ((try first|refine zJx rfl rfl rfl ?_|refine zIy rfl rfl ?_|refine zJv rfl rfl rfl ?_|refine zIx rfl rfl ?_);(refine zIz fun Q_ hQ_=>?_;simp (disch:=first|omega|(simp only [List.length_cons,List.length_nil,List.length_append];omega)) only [bb,bp,zKx,↓reduceIte,reduceCtorEq,Nat.reduceEqDiff,Nat.reduceLT,Nat.reduceLeDiff,Nat.reduceAdd,Nat.reduceMul,Nat.reduceSub,Nat.reduceBEq,Int.reduceToNat,cond_true,cond_false,eq_self,beq_self_eq_true,hla,e1,hix0,hr0,hleast,zHz wf,zHx wf,zFz wf,zHy wf,zBx wf,zFy,tEvbT10,zHw,zKy,zAw wf];first|(refine zCy (Q:=Q_) (fun hp_=>?_) (fun hp_=>?_) <;> first|(exfalso;omega)|(refine hQ_ _ _ ?_;clear hQ_ Q_))|(refine zBy (Q:=Q_) (fun hp_=>?_) (fun hp_=>?_) <;> first|(exfalso;omega)|(refine hQ_ _ _ ?_;clear hQ_ Q_))|(refine hQ_ _ _ ?_;clear hQ_ Q_)|(refine yIx (offsets _ _ h wf _ _ (by simp only [List.length_append,List.length_cons,List.length_nil];omega)) ?_;refine hQ_ _ _ ?_;clear hQ_ Q_)))
  | (refine zFv fun K_ hK_=>?_;simp (disch:=omega) only [zFx,zAz,zGz,↓reduceIte,reduceCtorEq,Nat.reduceEqDiff,Nat.reduceLT];refine hK_ _ ?_;clear hK_ K_)))
    (refine zJw _ _ rfl (ret2 (by decide) (by decide)) ?_;simp only [zAz,↓reduceIte,reduceCtorEq,Nat.reduceEqDiff];refine zLx rfl (by omega) ?_)
    exact ⟨rfl,rfl⟩
end Go.Proofs.YtkmdidplmfdikabDoor
end

section
namespace Go.Proofs.YtkmdidplmfdikabDoor
open Go.Ev
set_option maxRecDepth 100000
set_option linter.unusedSimpArgs false
set_option linter.unusedVariables false
set_option maxHeartbeats 2000000

theorem tEvbT11 :type_of% (And.intro (And.intro (And.intro (And.intro (And.intro (@zSz) (@ia_2)) (And.intro (@sz_2) (And.intro (@ze_2) (@ia_3)))) (And.intro (And.intro (@sz_3) (@zTz)) (And.intro (@zUw) (And.intro (@zRw) (@zPw))))) (And.intro (And.intro (And.intro (@zVx) (@zUy)) (And.intro (@zVy) (And.intro (@zXv) (@zXw)))) (And.intro (And.intro (@zTy) (And.intro (@zSv) (@zRv))) (And.intro (@zXz) (And.intro (@zTw) (@yJw)))))) (And.intro (And.intro (And.intro (And.intro (@sz_54) (@ia_98)) (And.intro (@yVx) (And.intro (@ia_95) (@sz_95)))) (And.intro (And.intro (@ia_109) (And.intro (@sz_109) (@ia_114))) (And.intro (@sz_114) (And.intro (@yFy) (@yEx))))) (And.intro (And.intro (And.intro (@xMv) (@zVv)) (And.intro (@zVw) (And.intro (@zPv) (@zMy)))) (And.intro (And.intro (@zMz) (And.intro (@pb_64) (@pb_66))) (And.intro (@pb_59) (And.intro (@xBz) (@ni_54))))))):=And.intro (And.intro (And.intro (And.intro (And.intro (@zSz) (@ia_2)) (And.intro (@sz_2) (And.intro (@ze_2) (@ia_3)))) (And.intro (And.intro (@sz_3) (@zTz)) (And.intro (@zUw) (And.intro (@zRw) (@zPw))))) (And.intro (And.intro (And.intro (@zVx) (@zUy)) (And.intro (@zVy) (And.intro (@zXv) (@zXw)))) (And.intro (And.intro (@zTy) (And.intro (@zSv) (@zRv))) (And.intro (@zXz) (And.intro (@zTw) (@yJw)))))) (And.intro (And.intro (And.intro (And.intro (@sz_54) (@ia_98)) (And.intro (@yVx) (And.intro (@ia_95) (@sz_95)))) (And.intro (And.intro (@ia_109) (And.intro (@sz_109) (@ia_114))) (And.intro (@sz_114) (And.intro (@yFy) (@yEx))))) (And.intro (And.intro (And.intro (@xMv) (@zVv)) (And.intro (@zVw) (And.intro (@zPv) (@zMy)))) (And.intro (And.intro (@zMz) (And.intro (@pb_64) (@pb_66))) (And.intro (@pb_59) (And.intro (@xBz) (@ni_54))))))
abbrev u6 (n:Nat):AV:=.int .u64 (n:Int)
theorem c24 {p:Nat→Prop} {k:Nat} (hk:k<24) (h:p 0∧p 1∧p 2∧p 3∧p 4∧p 5∧p 6∧p 7∧p 8∧p 9∧p 10∧p 11∧p 12∧p 13∧p 14∧p 15∧p 16∧p 17∧p 18∧p 19∧p 20∧p 21∧p 22∧p 23):p k:=by
  obtain ⟨h0,h1,h2,h3,h4,h5,h6,h7,h8,h9,h10,h11,h12,h13,h14,h15,h16,h17,h18,h19,h20,h21,h22,h23⟩:=h
  have:k=0∨k=1∨k=2∨k=3∨k=4∨k=5∨k=6∨k=7∨k=8∨k=9∨k=10∨k=11∨k=12∨k=13∨k=14∨k=15∨k=16∨k=17∨k=18∨k=19∨k=20∨k=21∨k=22∨k=23:=by omega
  rcases this with rfl|rfl|rfl|rfl|rfl|rfl|rfl|rfl|rfl|rfl|rfl|rfl|rfl|rfl|rfl|rfl|rfl|rfl|rfl|rfl|rfl|rfl|rfl|rfl
  · exact h0
  · exact h1
  · exact h2
  · exact h3
  · exact h4
  · exact h5
  · exact h6
  · exact h7
  · exact h8
  · exact h9
  · exact h10
  · exact h11
  · exact h12
  · exact h13
  · exact h14
  · exact h15
  · exact h16
  · exact h17
  · exact h18
  · exact h19
  · exact h20
  · exact h21
  · exact h22
  · exact h23
theorem m_and {k:Nat} (hk:k<24) {x y:Operand} : binE Tryd.prog .and 114 x y (u6 k) (.int .u64 4294967295)=some (u6 k):=c24 (p:=fun k=>binE Tryd.prog .and 114 x y (u6 k) (.int .u64 4294967295)=some (u6 k)) hk ⟨rfl,rfl,rfl,rfl,rfl,rfl,rfl,rfl,rfl,rfl,rfl,rfl,rfl,rfl,rfl,rfl,rfl,rfl,rfl,rfl,rfl,rfl,rfl,rfl⟩
theorem m_shr {k:Nat} (hk:k<24) {x y:Operand} : binE Tryd.prog .shr 114 x y (u6 k) (.int .u64 32)=some (.int .u64 0):=c24 (p:=fun k=>binE Tryd.prog .shr 114 x y (u6 k) (.int .u64 32)=some (.int .u64 0)) hk ⟨rfl,rfl,rfl,rfl,rfl,rfl,rfl,rfl,rfl,rfl,rfl,rfl,rfl,rfl,rfl,rfl,rfl,rfl,rfl,rfl,rfl,rfl,rfl,rfl⟩
theorem m_mul1 {k:Nat} (hk:k<24) {x y:Operand} : binE Tryd.prog .mul 114 x y (.int .u64 1) (u6 k)=some (u6 k):=c24 (p:=fun k=>binE Tryd.prog .mul 114 x y (.int .u64 1) (u6 k)=some (u6 k)) hk ⟨rfl,rfl,rfl,rfl,rfl,rfl,rfl,rfl,rfl,rfl,rfl,rfl,rfl,rfl,rfl,rfl,rfl,rfl,rfl,rfl,rfl,rfl,rfl,rfl⟩
theorem m_mul0 {k:Nat} (hk:k<24) {x y:Operand} : binE Tryd.prog .mul 114 x y (.int .u64 0) (u6 k)=some (.int .u64 0):=c24 (p:=fun k=>binE Tryd.prog .mul 114 x y (.int .u64 0) (u6 k)=some (.int .u64 0)) hk ⟨rfl,rfl,rfl,rfl,rfl,rfl,rfl,rfl,rfl,rfl,rfl,rfl,rfl,rfl,rfl,rfl,rfl,rfl,rfl,rfl,rfl,rfl,rfl,rfl⟩
theorem m_gtr {k:Nat} (hk:k<24) {x y:Operand} : binE Tryd.prog .gtr 109 x y (u6 k) (.int .u64 9223372036854775807)=some (.bool false):=c24 (p:=fun k=>binE Tryd.prog .gtr 109 x y (u6 k) (.int .u64 9223372036854775807)=some (.bool false)) hk ⟨rfl,rfl,rfl,rfl,rfl,rfl,rfl,rfl,rfl,rfl,rfl,rfl,rfl,rfl,rfl,rfl,rfl,rfl,rfl,rfl,rfl,rfl,rfl,rfl⟩
theorem k_and1 {x y:Operand} : binE Tryd.prog .and 114 x y (.int .u64 1) (.int .u64 4294967295)=some (.int .u64 1):=rfl
theorem k_and0 {x y:Operand} : binE Tryd.prog .and 114 x y (.int .u64 0) (.int .u64 4294967295)=some (.int .u64 0):=rfl
theorem k_shr1 {x y:Operand} : binE Tryd.prog .shr 114 x y (.int .u64 1) (.int .u64 32)=some (.int .u64 0):=rfl
theorem k_shr0 {x y:Operand} : binE Tryd.prog .shr 114 x y (.int .u64 0) (.int .u64 32)=some (.int .u64 0):=rfl
theorem k_mul00 {x y:Operand} : binE Tryd.prog .mul 114 x y (.int .u64 0) (.int .u64 0)=some (.int .u64 0):=rfl
theorem k_mul10 {x y:Operand} : binE Tryd.prog .mul 114 x y (.int .u64 1) (.int .u64 0)=some (.int .u64 0):=rfl
theorem k_add00 {x y:Operand} : binE Tryd.prog .add 114 x y (.int .u64 0) (.int .u64 0)=some (.int .u64 0):=rfl
theorem k_gtr0 {x y:Operand} : binE Tryd.prog .gtr 109 x y (.int .u64 0) (.int .u64 0)=some (.bool false):=rfl
theorem cv_in {k:Nat} (hk:k<24):convE Tryd.prog 3 109 (.int .i64 (k:Int))=some (u6 k):=c24 (p:=fun k=>convE Tryd.prog 3 109 (.int .i64 (k:Int))=some (u6 k)) hk ⟨rfl,rfl,rfl,rfl,rfl,rfl,rfl,rfl,rfl,rfl,rfl,rfl,rfl,rfl,rfl,rfl,rfl,rfl,rfl,rfl,rfl,rfl,rfl,rfl⟩
theorem cv_in1 :convE Tryd.prog 3 109 (.int .i64 1)=some (.int .u64 1):=rfl
theorem cv_out {k:Nat} (hk:k<24):convE Tryd.prog 109 3 (u6 k)=some (ii (k:Int)):=c24 (p:=fun k=>convE Tryd.prog 109 3 (u6 k)=some (ii (k:Int))) hk ⟨rfl,rfl,rfl,rfl,rfl,rfl,rfl,rfl,rfl,rfl,rfl,rfl,rfl,rfl,rfl,rfl,rfl,rfl,rfl,rfl,rfl,rfl,rfl,rfl⟩

theorem mul64 {k:Nat} (hk:k<24) (h:H) (wf:Wf h):(om Tryd.prog KK).call (.fn 66 [.int .u64 1,u6 k]) h = .ok (.tup [.int .u64 0,u6 k]) h:=by
  refine zWv (zLv (fn:=Tryd.f66) Tryd.func66 rfl rfl rfl rfl rfl ?_)
  simp only [zKx]
  have q1:=fun x y=>m_and hk (x:=x) (y:=y)
  have q2:=fun x y=>m_shr hk (x:=x) (y:=y)
  have q3:=fun x y=>m_mul1 hk (x:=x) (y:=y)
  have q4:=fun x y=>m_mul0 hk (x:=x) (y:=y)
  (repeat' (first
  | (with_reducible first|refine zJz ?_|refine zGw ?_|refine zEw ?_|refine zEx ?_|refine zEv ?_|refine zJy ?_|refine zGv ?_|refine zBw ?_|refine zDx ?_|refine zBv ?_|refine zCx ?_|refine zEz ?_|refine zCw ?_|refine zCz ?_|refine zBz ?_|refine zDv ?_|refine zDy ?_|refine zAx ?_|refine zAv ?_)
  | refine zCv ?_|refine zEy rfl ?_|refine zIw ?_|refine zIv ?_
  | ((first|refine zGx rfl rfl rfl rfl rfl fun K_ hK_=>?_|refine zGy rfl rfl rfl rfl rfl fun K_ hK_=>?_);simp only [zAz,zDz,zFw,↓reduceIte,reduceCtorEq,Nat.reduceEqDiff,Bool.not_true,Bool.not_false];refine hK_ _ ?_;clear hK_ K_)
  | refine zDw (by decide) ?_
  | ((try first|refine zJx rfl rfl rfl ?_|refine zIy rfl rfl ?_|refine zJv rfl rfl rfl ?_|refine zIx rfl rfl ?_);(refine zIz fun Q_ hQ_=>?_;simp (disch:=first|omega|(simp only [List.length_cons,List.length_nil,List.length_append];omega)) only [bb,bp,zKx,↓reduceIte,reduceCtorEq,Nat.reduceEqDiff,Nat.reduceLT,Nat.reduceLeDiff,Nat.reduceAdd,Nat.reduceMul,Nat.reduceSub,Nat.reduceBEq,Int.reduceToNat,cond_true,cond_false,eq_self,beq_self_eq_true,q1,q2,q3,q4,k_and1,k_and0,k_shr1,k_shr0,k_mul00,k_mul10,k_add00,tEvbT11,zHw,zKy,zAw wf];first|(refine zCy (Q:=Q_) (fun hp_=>?_) (fun hp_=>?_) <;> first|(exfalso;omega)|(refine hQ_ _ _ ?_;clear hQ_ Q_))|(refine zBy (Q:=Q_) (fun hp_=>?_) (fun hp_=>?_) <;> first|(exfalso;omega)|(refine hQ_ _ _ ?_;clear hQ_ Q_))|(refine hQ_ _ _ ?_;clear hQ_ Q_)))
  | (refine zFv fun K_ hK_=>?_;simp (disch:=omega) only [zFx,zAz,zGz,↓reduceIte,reduceCtorEq,Nat.reduceEqDiff,Nat.reduceLT];refine hK_ _ ?_;clear hK_ K_)))
  (refine zJw _ _ rfl (ret2 (by decide) (by decide)) ?_;simp only [zAz,↓reduceIte,reduceCtorEq,Nat.reduceEqDiff];refine zLx rfl (by omega) ?_)
  exact ⟨rfl,rfl⟩
theorem mul {k:Nat} (hk:k<24) (h:H) (wf:Wf h):(om Tryd.prog KK).call (.fn 64 [.int .u64 1,u6 k]) h = .ok (.tup [.int .u64 0,u6 k]) h:=by
  refine zWv (zLv (fn:=Tryd.f64) Tryd.func64 rfl rfl rfl rfl rfl ?_)
  simp only [zKx]
  (repeat' (first
  | (with_reducible first|refine zJz ?_|refine zGw ?_|refine zEw ?_|refine zEx ?_|refine zEv ?_|refine zJy ?_|refine zGv ?_|refine zBw ?_|refine zDx ?_|refine zBv ?_|refine zCx ?_|refine zEz ?_|refine zCw ?_|refine zCz ?_|refine zBz ?_|refine zDv ?_|refine zDy ?_|refine zAx ?_|refine zAv ?_)
  | refine zCv ?_|refine zEy rfl ?_|refine zIw ?_|refine zIv ?_
  | ((first|refine zGx rfl rfl rfl rfl rfl fun K_ hK_=>?_|refine zGy rfl rfl rfl rfl rfl fun K_ hK_=>?_);simp only [zAz,zDz,zFw,↓reduceIte,reduceCtorEq,Nat.reduceEqDiff,Bool.not_true,Bool.not_false];refine hK_ _ ?_;clear hK_ K_)
  | refine zDw (by decide) ?_
  | ((try first|refine zJx rfl rfl rfl ?_|refine zIy rfl rfl ?_|refine zJv rfl rfl rfl ?_|refine zIx rfl rfl ?_);(refine zIz fun Q_ hQ_=>?_;simp (disch:=first|omega|(simp only [List.length_cons,List.length_nil,List.length_append];omega)) only [bb,bp,zKx,↓reduceIte,reduceCtorEq,Nat.reduceEqDiff,Nat.reduceLT,Nat.reduceLeDiff,Nat.reduceAdd,Nat.reduceMul,Nat.reduceSub,Nat.reduceBEq,Int.reduceToNat,cond_true,cond_false,eq_self,beq_self_eq_true,tEvbT11,zHw,zKy,zAw wf];first|(refine zCy (Q:=Q_) (fun hp_=>?_) (fun hp_=>?_) <;> first|(exfalso;omega)|(refine hQ_ _ _ ?_;clear hQ_ Q_))|(refine zBy (Q:=Q_) (fun hp_=>?_) (fun hp_=>?_) <;> first|(exfalso;omega)|(refine hQ_ _ _ ?_;clear hQ_ Q_))|(refine hQ_ _ _ ?_;clear hQ_ Q_)))
  | (refine zFv fun K_ hK_=>?_;simp (disch:=omega) only [zFx,zAz,zGz,↓reduceIte,reduceCtorEq,Nat.reduceEqDiff,Nat.reduceLT];refine hK_ _ ?_;clear hK_ K_)))
  refine zFv fun K_ hK_=>?_
  simp only [evT_bool,zGz]
  refine hK_ _ (zDy ?_)
  clear hK_ K_
  (repeat' (first
  | (with_reducible first|refine zJz ?_|refine zGw ?_|refine zEw ?_|refine zEx ?_|refine zEv ?_|refine zJy ?_|refine zGv ?_|refine zBw ?_|refine zDx ?_|refine zBv ?_|refine zCx ?_|refine zEz ?_|refine zCw ?_|refine zCz ?_|refine zBz ?_|refine zDv ?_|refine zDy ?_|refine zAx ?_|refine zAv ?_)
  | refine zCv ?_|refine zEy rfl ?_|refine zIw ?_|refine zIv ?_
  | ((first|refine zGx rfl rfl rfl rfl rfl fun K_ hK_=>?_|refine zGy rfl rfl rfl rfl rfl fun K_ hK_=>?_);simp only [zAz,zDz,zFw,↓reduceIte,reduceCtorEq,Nat.reduceEqDiff,Bool.not_true,Bool.not_false];refine hK_ _ ?_;clear hK_ K_)
  | refine zDw (by decide) ?_
  | ((try first|refine zJx rfl rfl rfl ?_|refine zIy rfl rfl ?_|refine zJv rfl rfl rfl ?_|refine zIx rfl rfl ?_);(refine zIz fun Q_ hQ_=>?_;simp (disch:=first|omega|(simp only [List.length_cons,List.length_nil,List.length_append];omega)) only [bb,bp,zKx,↓reduceIte,reduceCtorEq,Nat.reduceEqDiff,Nat.reduceLT,Nat.reduceLeDiff,Nat.reduceAdd,Nat.reduceMul,Nat.reduceSub,Nat.reduceBEq,Int.reduceToNat,cond_true,cond_false,eq_self,beq_self_eq_true,tEvbT11,zHw,zKy,zAw wf];first|(refine zCy (Q:=Q_) (fun hp_=>?_) (fun hp_=>?_) <;> first|(exfalso;omega)|(refine hQ_ _ _ ?_;clear hQ_ Q_))|(refine zBy (Q:=Q_) (fun hp_=>?_) (fun hp_=>?_) <;> first|(exfalso;omega)|(refine hQ_ _ _ ?_;clear hQ_ Q_))|(refine hQ_ _ _ ?_;clear hQ_ Q_)|(refine yIx (mul64 hk _ (wf.X (by first|omega|(simp only [List.length_append,List.length_cons,List.length_nil];omega)))) ?_;refine hQ_ _ _ ?_;clear hQ_ Q_)))
  | (refine zFv fun K_ hK_=>?_;simp (disch:=omega) only [zFx,zAz,zGz,↓reduceIte,reduceCtorEq,Nat.reduceEqDiff,Nat.reduceLT];refine hK_ _ ?_;clear hK_ K_)))
  (refine zJw _ _ rfl (ret2 (by decide) (by decide)) ?_;simp only [zAz,↓reduceIte,reduceCtorEq,Nat.reduceEqDiff];refine zLx rfl (by omega) ?_)
  exact ⟨rfl,rfl⟩

def FF :AV:=.int .i64 1099511627776
def fz (n m:Nat):List AV:=List.replicate (m * 75) FF++List.replicate ((n - m) * 75) (.int .i64 0)
theorem fz_len {n m:Nat} (hm:m≤n):(fz n m).length=n * 75:=by unfold fz;rw [List.length_append,List.length_replicate,List.length_replicate,← Nat.add_mul];congr 1;omega
theorem xVw {n m j:Nat} (hj:m+j≤n):splice (fz n m) (m * 75) (List.replicate (j * 75) FF)=fz n (m+j):=by
  unfold splice fz
  rw [List.length_replicate,List.take_append_of_le_length (by rw [List.length_replicate];exact Nat.le_refl _),List.take_of_length_le (by rw [List.length_replicate];exact Nat.le_refl _),List.replicate_append_replicate,List.drop_append,List.length_replicate,
    List.drop_of_length_le (by rw [List.length_replicate];omega),List.nil_append,List.drop_replicate,← Nat.add_mul,show (n - m) * 75 - ((m+j) * 75 - m * 75)=(n - (m+j)) * 75 from by omega]
theorem fz_done (n:Nat):fz n n=List.replicate (n * 75) FF:=by unfold fz;rw [Nat.sub_self,Nat.zero_mul];simp
theorem xHy (k:Nat):allOne (List.replicate k FF)=true:=by
  have:=yVy (f:=fun (_:Unit)=>FF) (fun _=>rfl) (List.replicate k ())
  rwa [List.map_replicate] at this
theorem rs_65 (id:Pos) (off len c esz:Nat):reszT Tryd.prog 54 (.sl id off len (some c) esz) = .sl id off len (some c) 75:=yAx Tryd.underlying54 yVx
theorem len_65 {q:Pos} {h':H} {n c:Nat} : lenE Tryd.prog 54 (.sl q 0 n (some c) 75) h'=some (.int .i64 (n:Int)):=by
  unfold lenE;rw [Tryd.underlying54];rfl
theorem zero_112 :AV.cells (.agg (List.replicate 75 (.int .i64 0)))=List.replicate 75 (.int .i64 0):=rfl
theorem el112 :El Tryd.prog 98 75 600 (.agg (List.replicate 75 (.int .i64 0))):=el_98
theorem repeat_ {n:Nat} (hn:1≤n∧n<24) (h:H) (wf:Wf h) (L:List AO) (k w:Nat) (hk:L[k]? = some (.cells (zAy (List.replicate 75 FF)) 98)) (hw:w≤h.clock+L.length) :
    (om Tryd.prog KK).call (.fn 59 [.sl (nx h k) 0 1 (some 1) 75,ii (n:Int)]) (X h L w) = .ok (.sl (nx h L.length) 0 n (some n) 75) (X h (L++[.cells (zAy (List.replicate (n * 75) FF)) 98]) w):=by
  have hmk:=wBw (P:=Tryd.prog) (n:=n) (l:=L) (w:=h.clock+L.length) wf Tryd.underlying54 yVx el112 (by omega) (by decide) zero_112
  have hf0:fz n 0=List.replicate (n * 75) (.int .i64 0):=by unfold fz;simp
  rw [← hf0] at hmk
  have hcp:copyE Tryd.prog 54 (.sl (nx h L.length) 0 n (some n) 75) (.sl (nx h k) 0 1 (some 1) 75) (X h (L++[.cells (zAy (fz n 0)) 98]) (h.clock+L.length)) = .ok (.int .i64 1) (X h (L++[.cells (zAy (fz n 1)) 98]) (h.clock+L.length)):=by
    have:=copyE_X (P:=Tryd.prog) (n:=1) (off:=0) (len:=n) (esz:=75) (cap:=some n) (k:=L.length) (old:=fz n 0) (ee:=98) (l:=L++[.cells (zAy (fz n 0)) 98]) (w:=h.clock+L.length) wf Tryd.underlying54 yVx (xEy (e:=98) (cap:=some 1) wf (by rw [List.getElem?_append_left (zHv hk)];exact hk) (by rw [List.length_replicate])) (by decide) hn.1 (by rw [List.length_replicate]) (by rw [zNx];rfl) (by rw [fz_len (Nat.zero_le n),List.length_replicate];omega) (xHy _)
    rw [yAy,List.set_cons_zero,Nat.min_self] at this
    rw [this]
    have e:=xVw (n:=n) (m:=0) (j:=1) (by omega)
    rw [Nat.zero_mul,Nat.one_mul,Nat.zero_add] at e
    rw [e];rfl
  have hmul : ∀ l w,w≤h.clock+l.length→(om Tryd.prog KK).call (.fn 64 [.int .u64 1,u6 n]) (X h l w) = .ok (.tup [.int .u64 0,u6 n]) (X h l w):=fun l w hw=>mul (by omega) _ (wf.X hw)
  have hlen1 : ∀ h',lenE Tryd.prog 54 (.sl (nx h k) 0 1 (some 1) 75) h'=some (ii 1):=fun h'=>len_65
  have hlen2 : ∀ h',lenE Tryd.prog 54 (.sl (nx h L.length) 0 n (some n) 75) h'=some (ii (n:Int)):=fun h'=>len_65
  have q1:=cv_in hn.2
  have q2:=cv_out hn.2
  have q3:=fun x y=>m_gtr hn.2 (x:=x) (y:=y)
  refine zWv (zLv (fn:=Tryd.f59) Tryd.func59 rfl rfl rfl rfl rfl ?_)
  simp only [zKx]
  (repeat' (first
  | (with_reducible first|refine zJz ?_|refine zGw ?_|refine zEw ?_|refine zEx ?_|refine zEv ?_|refine zJy ?_|refine zGv ?_|refine zBw ?_|refine zDx ?_|refine zBv ?_|refine zCx ?_|refine zEz ?_|refine zCw ?_|refine zCz ?_|refine zBz ?_|refine zDv ?_|refine zDy ?_|refine zAx ?_|refine zAv ?_)
  | refine zCv ?_|refine zEy rfl ?_|refine zIw ?_|refine zIv ?_
  | ((first|refine zGx rfl rfl rfl rfl rfl fun K_ hK_=>?_|refine zGy rfl rfl rfl rfl rfl fun K_ hK_=>?_);simp only [zAz,zDz,zFw,↓reduceIte,reduceCtorEq,Nat.reduceEqDiff,Bool.not_true,Bool.not_false];refine hK_ _ ?_;clear hK_ K_)
  | refine zDw (by decide) ?_
  | ((try first|refine zJx rfl rfl rfl ?_|refine zIy rfl rfl ?_|refine zJv rfl rfl rfl ?_|refine zIx rfl rfl ?_);(refine zIz fun Q_ hQ_=>?_;simp (disch:=first|omega|(simp only [List.length_cons,List.length_nil,List.length_append];omega)) only [bb,bp,zKx,↓reduceIte,reduceCtorEq,Nat.reduceEqDiff,Nat.reduceLT,Nat.reduceLeDiff,Nat.reduceAdd,Nat.reduceMul,Nat.reduceSub,Nat.reduceBEq,Int.reduceToNat,cond_true,cond_false,eq_self,beq_self_eq_true,X_X,zQx,hlen1,hlen2,q1,q2,q3,cv_in1,k_gtr0,hmul,hmk,hcp,rs_65,zHz wf,zHx wf,zFz wf,zHy wf,zBx wf,zFy,tEvbT11,zHw,zKy,zAw wf];first|(refine zCy (Q:=Q_) (fun hp_=>?_) (fun hp_=>?_) <;> first|(exfalso;omega)|(refine hQ_ _ _ ?_;clear hQ_ Q_))|(refine zBy (Q:=Q_) (fun hp_=>?_) (fun hp_=>?_) <;> first|(exfalso;omega)|(refine hQ_ _ _ ?_;clear hQ_ Q_))|(refine hQ_ _ _ ?_;clear hQ_ Q_)))
  | (refine zFv fun K_ hK_=>?_;simp (disch:=omega) only [zFx,zAz,zGz,↓reduceIte,reduceCtorEq,Nat.reduceEqDiff,Nat.reduceLT];refine hK_ _ ?_;clear hK_ K_)))
  refine zVz (fun (m:Nat) f d h'=>1≤m∧m≤n∧f 7 = .sl (nx h L.length) 0 n (some n) 75∧f 8=ii (m:Int)∧d=[]∧h'=X h (L++[.cells (zAy (fz n m)) 98]) (h.clock+L.length)) (fun m=>n - m) ?_ (n+1) 1 (by omega) ?_
  · rintro m f d h' ⟨m1,mn,g7,g8,rfl,rfl⟩
    by_cases hlt:m<n
    · have s1:=slice_from (P:=Tryd.prog) (id:=nx h L.length) (len:=n) (m:=m) Tryd.underlying54 yVx hlt
      have s2:=slice_to (P:=Tryd.prog) (id:=nx h L.length) (len:=n) (m:=m) Tryd.underlying54 yVx mn (by omega)
      have hsrc:srcCells (X h (L++[.cells (zAy (fz n m)) 98]) (h.clock+(L.length+1))) 75 (.sl (nx h L.length) 0 m (some n) 75)=some (m,List.replicate (m * 75) FF):=by
        refine src_sl (o:=.cells (zAy (fz n m)) 98) (by rw [zQv wf,zNx];rfl) rfl ?_ rfl
        rw [yCv _ _ _ (by rw [fz_len mn,Nat.zero_add];exact Nat.mul_le_mul_right _ mn),List.drop_zero]
        unfold fz
        rw [List.take_append_of_le_length (by rw [List.length_replicate];exact Nat.le_refl _),List.take_of_length_le (by rw [List.length_replicate];exact Nat.le_refl _)]
      have hcopy : ∃ j:Nat,1≤j∧m+j≤n∧copyE Tryd.prog 54 (.sl (nx h L.length) (m * 75) (n - m) (some (n - m)) 75) (.sl (nx h L.length) 0 m (some n) 75) (X h (L++[.cells (zAy (fz n m)) 98]) (h.clock+(L.length+1))) = .ok (ii (j:Int)) (X h (L++[.cells (zAy (fz n (m+j))) 98]) (h.clock+L.length)):=by
        by_cases hm2:m≤n - m
        · refine ⟨m,m1,by omega,?_⟩
          rw [copyE_X (P:=Tryd.prog) (old:=fz n m) (ee:=98) wf Tryd.underlying54 yVx hsrc (by omega) hm2 (by rw [List.length_replicate]) (by rw [zNx];rfl) (by rw [fz_len mn,List.length_replicate,← Nat.add_mul];exact Nat.mul_le_mul_right _ (by omega)) (xHy _),yAy,List.set_cons_zero,xVw (by omega),Nat.min_eq_left (by omega)]
        · have ht:(List.replicate (m * 75) FF).take ((n - m) * 75)=List.replicate ((n - m) * 75) FF:=by rw [List.take_replicate,Nat.min_eq_left (Nat.mul_le_mul_right _ (by omega))]
          refine ⟨n - m,by omega,by omega,?_⟩
          rw [copyE_min (P:=Tryd.prog) (old:=fz n m) (ee:=98) wf Tryd.underlying54 yVx hsrc (by omega) (by omega) (by rw [List.length_replicate]) (by rw [zNx];rfl) (by rw [fz_len mn,← Nat.add_mul];exact Nat.mul_le_mul_right _ (by omega)) (by rw [ht];exact xHy _),ht,yAy,List.set_cons_zero,xVw (by omega),Nat.min_eq_left (by omega)]
      obtain ⟨j,j1,j2,hcopy⟩:=hcopy
      have e5:(m:Int)+(j:Int)=((m+j:Nat):Int):=by omega
      (repeat' (first
  | (with_reducible first|refine zJz ?_|refine zGw ?_|refine zEw ?_|refine zEx ?_|refine zEv ?_|refine zJy ?_|refine zGv ?_|refine zBw ?_|refine zDx ?_|refine zBv ?_|refine zCx ?_|refine zEz ?_|refine zCw ?_|refine zCz ?_|refine zBz ?_|refine zDv ?_|refine zDy ?_|refine zAx ?_|refine zAv ?_)
  | refine zCv ?_|refine zEy rfl ?_|refine zIw ?_|refine zIv ?_
  | ((first|refine zGx rfl rfl rfl rfl rfl fun K_ hK_=>?_|refine zGy rfl rfl rfl rfl rfl fun K_ hK_=>?_);simp only [zAz,zDz,zFw,↓reduceIte,reduceCtorEq,Nat.reduceEqDiff,Bool.not_true,Bool.not_false];refine hK_ _ ?_;clear hK_ K_)
  | refine zDw (by decide) ?_
  | ((try first|refine zJx rfl rfl rfl ?_|refine zIy rfl rfl ?_|refine zJv rfl rfl rfl ?_|refine zIx rfl rfl ?_);(refine zIz fun Q_ hQ_=>?_;simp (disch:=first|omega|(simp only [List.length_cons,List.length_nil,List.length_append];omega)) only [bb,bp,zKx,↓reduceIte,reduceCtorEq,Nat.reduceEqDiff,Nat.reduceLT,Nat.reduceLeDiff,Nat.reduceAdd,Nat.reduceMul,Nat.reduceSub,Nat.reduceBEq,Int.reduceToNat,cond_true,cond_false,eq_self,beq_self_eq_true,g7,g8,hlen2,rs_65,zHz wf,zHx wf,zFz wf,zHy wf,zBx wf,zFy,tEvbT11,zHw,zKy,zAw wf];first|(refine zCy (Q:=Q_) (fun hp_=>?_) (fun hp_=>?_) <;> first|(exfalso;omega)|(refine hQ_ _ _ ?_;clear hQ_ Q_))|(refine zBy (Q:=Q_) (fun hp_=>?_) (fun hp_=>?_) <;> first|(exfalso;omega)|(refine hQ_ _ _ ?_;clear hQ_ Q_))|(refine hQ_ _ _ ?_;clear hQ_ Q_)))
  | (refine zFv fun K_ hK_=>?_;simp (disch:=omega) only [zFx,zAz,zGz,↓reduceIte,reduceCtorEq,Nat.reduceEqDiff,Nat.reduceLT];refine hK_ _ ?_;clear hK_ K_)))
      refine zMw [.no,.full,.full,.full,.full,.full,.full,.full,.full,.full] (by kernel_rfl) ?_
      (repeat' (first
  | (with_reducible first|refine zJz ?_|refine zGw ?_|refine zEw ?_|refine zEx ?_|refine zEv ?_|refine zJy ?_|refine zGv ?_|refine zBw ?_|refine zDx ?_|refine zBv ?_|refine zCx ?_|refine zEz ?_|refine zCw ?_|refine zCz ?_|refine zBz ?_|refine zDv ?_|refine zDy ?_|refine zAx ?_|refine zAv ?_)
  | refine zCv ?_|refine zEy rfl ?_|refine zIw ?_|refine zIv ?_
  | ((first|refine zGx rfl rfl rfl rfl rfl fun K_ hK_=>?_|refine zGy rfl rfl rfl rfl rfl fun K_ hK_=>?_);simp only [zAz,zDz,zFw,↓reduceIte,reduceCtorEq,Nat.reduceEqDiff,Bool.not_true,Bool.not_false];refine hK_ _ ?_;clear hK_ K_)
  | refine zDw (by decide) ?_
  | ((try first|refine zJx rfl rfl rfl ?_|refine zIy rfl rfl ?_|refine zJv rfl rfl rfl ?_|refine zIx rfl rfl ?_);(refine zIz fun Q_ hQ_=>?_;simp (disch:=first|omega|(simp only [List.length_cons,List.length_nil,List.length_append];omega)) only [bb,bp,zKx,↓reduceIte,reduceCtorEq,Nat.reduceEqDiff,Nat.reduceLT,Nat.reduceLeDiff,Nat.reduceAdd,Nat.reduceMul,Nat.reduceSub,Nat.reduceBEq,Int.reduceToNat,cond_true,cond_false,eq_self,beq_self_eq_true,g7,g8,hlen2,rs_65,s1,s2,hcopy,e5,zHz wf,zHx wf,zFz wf,zHy wf,zBx wf,zFy,tEvbT11,zHw,zKy,zAw wf];first|(refine zCy (Q:=Q_) (fun hp_=>?_) (fun hp_=>?_) <;> first|(exfalso;omega)|(refine hQ_ _ _ ?_;clear hQ_ Q_))|(refine zBy (Q:=Q_) (fun hp_=>?_) (fun hp_=>?_) <;> first|(exfalso;omega)|(refine hQ_ _ _ ?_;clear hQ_ Q_))|(refine hQ_ _ _ ?_;clear hQ_ Q_)))
  | (refine zFv fun K_ hK_=>?_;simp (disch:=omega) only [zFx,zAz,zGz,↓reduceIte,reduceCtorEq,Nat.reduceEqDiff,Nat.reduceLT];refine hK_ _ ?_;clear hK_ K_)))
      exact zKw (m+j) (by omega) ⟨by omega,j2,by simp only [zAz,↓reduceIte,reduceCtorEq,Nat.reduceEqDiff];exact g7,by simp only [zAz,↓reduceIte,reduceCtorEq,Nat.reduceEqDiff],rfl,rfl⟩
    · have hme:m=n:=by omega
      subst hme
      (repeat' (first
  | (with_reducible first|refine zJz ?_|refine zGw ?_|refine zEw ?_|refine zEx ?_|refine zEv ?_|refine zJy ?_|refine zGv ?_|refine zBw ?_|refine zDx ?_|refine zBv ?_|refine zCx ?_|refine zEz ?_|refine zCw ?_|refine zCz ?_|refine zBz ?_|refine zDv ?_|refine zDy ?_|refine zAx ?_|refine zAv ?_)
  | refine zCv ?_|refine zEy rfl ?_|refine zIw ?_|refine zIv ?_
  | ((first|refine zGx rfl rfl rfl rfl rfl fun K_ hK_=>?_|refine zGy rfl rfl rfl rfl rfl fun K_ hK_=>?_);simp only [zAz,zDz,zFw,↓reduceIte,reduceCtorEq,Nat.reduceEqDiff,Bool.not_true,Bool.not_false];refine hK_ _ ?_;clear hK_ K_)
  | refine zDw (by decide) ?_
  | ((try first|refine zJx rfl rfl rfl ?_|refine zIy rfl rfl ?_|refine zJv rfl rfl rfl ?_|refine zIx rfl rfl ?_);(refine zIz fun Q_ hQ_=>?_;simp (disch:=first|omega|(simp only [List.length_cons,List.length_nil,List.length_append];omega)) only [bb,bp,zKx,↓reduceIte,reduceCtorEq,Nat.reduceEqDiff,Nat.reduceLT,Nat.reduceLeDiff,Nat.reduceAdd,Nat.reduceMul,Nat.reduceSub,Nat.reduceBEq,Int.reduceToNat,cond_true,cond_false,eq_self,beq_self_eq_true,g7,g8,hlen2,rs_65,zHz wf,zHx wf,zFz wf,zHy wf,zBx wf,zFy,tEvbT11,zHw,zKy,zAw wf];first|(refine zCy (Q:=Q_) (fun hp_=>?_) (fun hp_=>?_) <;> first|(exfalso;omega)|(refine hQ_ _ _ ?_;clear hQ_ Q_))|(refine zBy (Q:=Q_) (fun hp_=>?_) (fun hp_=>?_) <;> first|(exfalso;omega)|(refine hQ_ _ _ ?_;clear hQ_ Q_))|(refine hQ_ _ _ ?_;clear hQ_ Q_)))
  | (refine zFv fun K_ hK_=>?_;simp (disch:=omega) only [zFx,zAz,zGz,↓reduceIte,reduceCtorEq,Nat.reduceEqDiff,Nat.reduceLT];refine hK_ _ ?_;clear hK_ K_)))
      refine zJw _ _ rfl (ret1 (by decide)) ?_
      simp only [zAz,↓reduceIte,reduceCtorEq,Nat.reduceEqDiff,fz_done]
      have e:X h (L++[.cells (zAy (List.replicate (m * 75) FF)) 98]) (h.clock+L.length)=X (X h L w) [.cells (zAy (List.replicate (m * 75) FF)) 98] (h.clock+L.length):=by rw [X_X]
      rw [e]
      refine yCy (by
        show (_ && flat (.sl _ 0 _ _ 75))=false
        exact Bool.and_false _) ⟨rfl,?_⟩
      rw [X_X,X_w,Nat.min_eq_left hw]
  · exact ⟨Nat.le_refl _,hn.1,by simp only [zAz,↓reduceIte,reduceCtorEq,Nat.reduceEqDiff],by simp only [zAz,↓reduceIte,reduceCtorEq,Nat.reduceEqDiff];rfl,rfl,rfl⟩
end Go.Proofs.YtkmdidplmfdikabDoor
end

section
namespace Go.Proofs.YtkmdidplmfdikabDoor
open Go.Ev
set_option maxRecDepth 100000
set_option linter.unusedSimpArgs false
set_option linter.unusedVariables false
set_option maxHeartbeats 2000000

theorem tEvbT12 :type_of% (And.intro (And.intro (And.intro (And.intro (And.intro (@zSz) (@bs_53)) (And.intro (@bs_56) (And.intro (@ia_2) (@sz_2)))) (And.intro (And.intro (@ze_2) (And.intro (@ia_3) (@sz_3))) (And.intro (@zTz) (And.intro (@zUw) (@zRw))))) (And.intro (And.intro (And.intro (@zPw) (And.intro (@zVx) (@zUy))) (And.intro (@zVy) (And.intro (@zXv) (@zXw)))) (And.intro (And.intro (@zTy) (And.intro (@zSv) (@zRv))) (And.intro (@zXz) (And.intro (@zTw) (@yJw)))))) (And.intro (And.intro (And.intro (And.intro (@sz_54) (@ia_98)) (And.intro (@yVx) (And.intro (@ze_98) (@ia_95)))) (And.intro (And.intro (@sz_95) (And.intro (@ia_109) (@sz_109))) (And.intro (@ia_114) (And.intro (@sz_114) (@yFy))))) (And.intro (And.intro (And.intro (@yEx) (And.intro (@xMv) (@zVv))) (And.intro (@zVw) (And.intro (@zPv) (@zMy)))) (And.intro (And.intro (@zMz) (And.intro (@pb_64) (@pb_66))) (And.intro (@pb_59) (And.intro (@xBz) (@ni_54))))))):=And.intro (And.intro (And.intro (And.intro (And.intro (@zSz) (@bs_53)) (And.intro (@bs_56) (And.intro (@ia_2) (@sz_2)))) (And.intro (And.intro (@ze_2) (And.intro (@ia_3) (@sz_3))) (And.intro (@zTz) (And.intro (@zUw) (@zRw))))) (And.intro (And.intro (And.intro (@zPw) (And.intro (@zVx) (@zUy))) (And.intro (@zVy) (And.intro (@zXv) (@zXw)))) (And.intro (And.intro (@zTy) (And.intro (@zSv) (@zRv))) (And.intro (@zXz) (And.intro (@zTw) (@yJw)))))) (And.intro (And.intro (And.intro (And.intro (@sz_54) (@ia_98)) (And.intro (@yVx) (And.intro (@ze_98) (@ia_95)))) (And.intro (And.intro (@sz_95) (And.intro (@ia_109) (@sz_109))) (And.intro (@ia_114) (And.intro (@sz_114) (@yFy))))) (And.intro (And.intro (And.intro (@yEx) (And.intro (@xMv) (@zVv))) (And.intro (@zVw) (And.intro (@zPv) (@zMy)))) (And.intro (And.intro (@zMz) (And.intro (@pb_64) (@pb_66))) (And.intro (@pb_59) (And.intro (@xBz) (@ni_54))))))
def TabF (h:H):Prop:=∃ f,Ev.getObj (posN 0) h=some (AO.ro f)∧f 0=some FF∧f 1=some FF∧f 2=some FF
theorem TabF.up {h:H} (wf:Wf h) (t:TabF h) (l:List AO) (w:Nat):TabF (X h l w):=let ⟨f,h1,h2⟩:=t;⟨f,yMy wf h1 l w,h2⟩
theorem TabF.load {h:H} (t:TabF h):loadAgg (posN 0) 0 (some 3) h=some (.agg [FF,FF,FF]):=by
  obtain ⟨f,t1,t2,t3,t4⟩:=t
  unfold loadAgg readCells
  dsimp only
  rw [t1]
  have e:readM f 3 0=some [FF,FF,FF]:=by
    simp only [readM,Nat.succ_eq_add_one,Nat.zero_add,Nat.reduceAdd,t2,t3,t4]
  dsimp only [cellsOf]
  rw [e]
def gz (q:Nat):List AV:=List.replicate q FF++List.replicate (75 - q) (.int .i64 0)
theorem gz_len {q:Nat} (hq:q≤75):(gz q).length=75:=by unfold gz;rw [List.length_append,List.length_replicate,List.length_replicate];omega
theorem gz_splice {q:Nat} (hq:q+3≤75):splice (gz q) q [FF,FF,FF]=gz (q+3):=by
  unfold splice gz
  show List.take q _++List.replicate 3 FF++List.drop (q+3) _=_
  rw [List.take_append_of_le_length (by rw [List.length_replicate];exact Nat.le_refl _),List.take_of_length_le (by rw [List.length_replicate];exact Nat.le_refl _),List.replicate_append_replicate,List.drop_append,List.length_replicate,
    List.drop_of_length_le (by rw [List.length_replicate];omega),List.nil_append,List.drop_replicate,show 75 - q - (q+3 - q)=75 - (q+3) from by omega]
theorem bs_54 {h:H} (wf:Wf h) (l:List AO) (w:Nat):buildSliceE Tryd.prog 54 1 [(0,.agg (List.replicate 75 FF))] (X h l w) = .ok (.sl (nx h l.length) 0 1 (some 1) 75) (X h (l++[.cells (zAy (List.replicate 75 FF)) 98]) w):=by
  show newSlice 98 (List.replicate 75 FF) 1 1 75 (X h l w)=_
  exact zAw wf

theorem flat_prv {h:H} {a:AV} {m len:Nat} {cells:List AV} (hs:Sl h a m len cells) (turn:Int) (q:Pos) (n:Nat):flat (prv a turn q n)=false:=by
  obtain ⟨_,⟨rfl,_⟩|⟨_,_,_,_,_,_,rfl,_⟩⟩:=hs <;> rfl
theorem zPy {tm:M AV} : evT tm (.global 0)=some (.ptr (posN 0) 0):=rfl
theorem ix_arr {h:H} {k a b:Nat} (ha:a<5) (hb:b<5):indexAddrE Tryd.prog 98 (.ptr (nx h k) 0) (.int .i64 (a:Int))=some (.ptr (nx h k) (0+a * 15))∧indexAddrE Tryd.prog 96 (.ptr (nx h k) (0+a * 15)) (.int .i64 (b:Int))=some (.ptr (nx h k) (a * 15+b * 3)):=by
  refine ⟨ix_112 ha,?_⟩
  rw [ix_110 hb,Nat.zero_add]
theorem unpriced (sp:List (Int × Int)) (hsp:SpotsOK sp) (a:AV) (turn:Int) (h:H) (wf:Wf h) (ht:TabF h) (hs:Sl h a 2 sp.length (zKv sp)) :
    WV ((om Tryd.prog KK).call (.fn 43 [.agg [a,ii turn]]) h) fun v h'=>∃ M,v=prv a turn (nx h 4) (sp.length - 1)∧h'=X h M h.w∧M[4]? = some (.cells (zAy (List.replicate ((sp.length - 1) * 75) FF)) 98):=by
  have n2:=hsp.n2
  have n24:=hsp.n24
  have hG : ∀ l w,loadAgg (posN 0) 0 (some 3) (X h l w)=some (.agg [FF,FF,FF]):=fun l w=>(ht.up wf l w).load
  have ha1:oneB a=true∧AV.cells a=[a]:=by obtain ⟨_,⟨rfl,_⟩|⟨_,_,_,_,_,_,rfl,_⟩⟩:=hs <;> exact ⟨rfl,rfl⟩
  have hst : ∀ (o1 o2:AO) (q w:Nat),q+3≤75→writeCells (nx h 2) q [FF,FF,FF] (X h [o1,o2,.cells (zAy (gz q)) 98] w)=some (X h [o1,o2,.cells (zAy (gz (q+3))) 98] (min (h.clock+2) w)):=fun o1 o2 q w hq=>by
    rw [zBx wf]
    show (match writeAt (some (.cells (zAy (gz q)) 98)) q [FF,FF,FF] with|some o=>some (X h ([o1,o2,.cells (zAy (gz q)) 98].set 2 o) (min (h.clock+2) w))|none=>none)=_
    rw [zUz,if_pos (by rw [gz_len (by omega)];exact hq),gz_splice hq]
    rfl
  have hg0:gz 0=AV.cells (.agg (List.replicate 75 (.int .i64 0))):=rfl
  refine zLv (fn:=Tryd.f43) Tryd.func43 rfl rfl rfl rfl rfl ?_
  simp only [zKx]
  (repeat' (first
  | (with_reducible first|refine zJz ?_|refine zGw ?_|refine zEw ?_|refine zEx ?_|refine zEv ?_|refine zJy ?_|refine zGv ?_|refine zBw ?_|refine zDx ?_|refine zBv ?_|refine zCx ?_|refine zEz ?_|refine zCw ?_|refine zCz ?_|refine zBz ?_|refine zDv ?_|refine zDy ?_|refine zAx ?_|refine zAv ?_)
  | refine zCv ?_|refine zEy rfl ?_|refine zIw ?_|refine zIv ?_
  | ((first|refine zGx rfl rfl rfl rfl rfl fun K_ hK_=>?_|refine zGy rfl rfl rfl rfl rfl fun K_ hK_=>?_);simp only [zAz,zDz,zFw,↓reduceIte,reduceCtorEq,Nat.reduceEqDiff,Bool.not_true,Bool.not_false];refine hK_ _ ?_;clear hK_ K_)
  | refine zDw (by decide) ?_
  | ((try first|refine zJx rfl rfl rfl ?_|refine zIy rfl rfl ?_|refine zJv rfl rfl rfl ?_|refine zIx rfl rfl ?_);(refine zIz fun Q_ hQ_=>?_;simp (disch:=first|omega|(simp only [List.length_cons,List.length_nil,List.length_append];omega)) only [bb,bp,zKx,↓reduceIte,reduceCtorEq,Nat.reduceEqDiff,Nat.reduceLT,Nat.reduceLeDiff,Nat.reduceAdd,Nat.reduceMul,Nat.reduceSub,Nat.reduceBEq,Int.reduceToNat,cond_true,cond_false,eq_self,beq_self_eq_true,ha1.1,ha1.2,zHz wf,zHx wf,zFz wf,zHy wf,zBx wf,zFy,tEvbT12,zHw,zKy,zAw wf];first|(refine zCy (Q:=Q_) (fun hp_=>?_) (fun hp_=>?_) <;> first|(exfalso;omega)|(refine hQ_ _ _ ?_;clear hQ_ Q_))|(refine zBy (Q:=Q_) (fun hp_=>?_) (fun hp_=>?_) <;> first|(exfalso;omega)|(refine hQ_ _ _ ?_;clear hQ_ Q_))|(refine hQ_ _ _ ?_;clear hQ_ Q_)))
  | (refine zFv fun K_ hK_=>?_;simp (disch:=omega) only [zFx,zAz,zGz,↓reduceIte,reduceCtorEq,Nat.reduceEqDiff,Nat.reduceLT];refine hK_ _ ?_;clear hK_ K_)))
  refine zVz (fun (u:Nat) f d h'=>u≤5∧f 1 = .ptr (nx h 0) 0∧f 2 = .ptr (nx h 1) 0∧f 3 = .ptr (nx h 2) 0∧f 6=ii (u:Int)∧d=[] ∧ ∃ w,h'=X h [.cells (zAy [a,ii turn]) 53,.cells (zAy [.nils,.int .i64 0,.nils]) 56,.cells (zAy (gz (u * 15))) 98] w∧h.clock≤w∧w≤h.clock+3) (fun u=>5 - u) ?_ (5+1) 0 (by omega) ?_
  · rintro u f d h' ⟨hu,g1,g2,g3,g6,rfl,w,rfl,hw1,hw2⟩
    by_cases hlt:u<5
    · (repeat' (first
  | (with_reducible first|refine zJz ?_|refine zGw ?_|refine zEw ?_|refine zEx ?_|refine zEv ?_|refine zJy ?_|refine zGv ?_|refine zBw ?_|refine zDx ?_|refine zBv ?_|refine zCx ?_|refine zEz ?_|refine zCw ?_|refine zCz ?_|refine zBz ?_|refine zDv ?_|refine zDy ?_|refine zAx ?_|refine zAv ?_)
  | refine zCv ?_|refine zEy rfl ?_|refine zIw ?_|refine zIv ?_
  | ((first|refine zGx rfl rfl rfl rfl rfl fun K_ hK_=>?_|refine zGy rfl rfl rfl rfl rfl fun K_ hK_=>?_);simp only [zAz,zDz,zFw,↓reduceIte,reduceCtorEq,Nat.reduceEqDiff,Bool.not_true,Bool.not_false];refine hK_ _ ?_;clear hK_ K_)
  | refine zDw (by decide) ?_
  | ((try first|refine zJx rfl rfl rfl ?_|refine zIy rfl rfl ?_|refine zJv rfl rfl rfl ?_|refine zIx rfl rfl ?_);(refine zIz fun Q_ hQ_=>?_;simp (disch:=first|omega|(simp only [List.length_cons,List.length_nil,List.length_append];omega)) only [bb,bp,zKx,↓reduceIte,reduceCtorEq,Nat.reduceEqDiff,Nat.reduceLT,Nat.reduceLeDiff,Nat.reduceAdd,Nat.reduceMul,Nat.reduceSub,Nat.reduceBEq,Int.reduceToNat,cond_true,cond_false,eq_self,beq_self_eq_true,g1,g2,g3,g6,zHz wf,zHx wf,zFz wf,zHy wf,zBx wf,zFy,tEvbT12,zHw,zKy,zAw wf];first|(refine zCy (Q:=Q_) (fun hp_=>?_) (fun hp_=>?_) <;> first|(exfalso;omega)|(refine hQ_ _ _ ?_;clear hQ_ Q_))|(refine zBy (Q:=Q_) (fun hp_=>?_) (fun hp_=>?_) <;> first|(exfalso;omega)|(refine hQ_ _ _ ?_;clear hQ_ Q_))|(refine hQ_ _ _ ?_;clear hQ_ Q_)))
  | (refine zFv fun K_ hK_=>?_;simp (disch:=omega) only [zFx,zAz,zGz,↓reduceIte,reduceCtorEq,Nat.reduceEqDiff,Nat.reduceLT];refine hK_ _ ?_;clear hK_ K_)))
      refine zVz (fun (v:Nat) f d h'=>v≤5∧f 1 = .ptr (nx h 0) 0∧f 2 = .ptr (nx h 1) 0∧f 3 = .ptr (nx h 2) 0∧f 6=ii (u:Int)∧f 4=ii (u:Int)∧f 9=ii (v:Int)∧d=[] ∧ ∃ w,h'=X h [.cells (zAy [a,ii turn]) 53,.cells (zAy [.nils,.int .i64 0,.nils]) 56,.cells (zAy (gz (u * 15+v * 3))) 98] w∧h.clock≤w∧w≤h.clock+3) (fun v=>5 - v) ?_ (5+1) 0 (by omega) ?_
      · clear g1 g2 g3 g6 hw1 hw2
        rintro v f d h' ⟨hv,g1,g2,g3,g6,g4,g9,rfl,w,rfl,hw1,hw2⟩
        by_cases hlv:v<5
        · obtain ⟨j1,j2⟩:=ix_arr (h:=h) (k:=2) hlt hlv
          have hs1:=hst (.cells (zAy [a,ii turn]) 53) (.cells (zAy [.nils,.int .i64 0,.nils]) 56) (u * 15+v * 3)
          rw [Nat.zero_add] at j1 j2
          have hs1':=fun w=>hs1 w (by omega)
          (repeat' (first
  | (with_reducible first|refine zJz ?_|refine zGw ?_|refine zEw ?_|refine zEx ?_|refine zEv ?_|refine zJy ?_|refine zGv ?_|refine zBw ?_|refine zDx ?_|refine zBv ?_|refine zCx ?_|refine zEz ?_|refine zCw ?_|refine zCz ?_|refine zBz ?_|refine zDv ?_|refine zDy ?_|refine zAx ?_|refine zAv ?_)
  | refine zCv ?_|refine zEy rfl ?_|refine zIw ?_|refine zIv ?_
  | ((first|refine zGx rfl rfl rfl rfl rfl fun K_ hK_=>?_|refine zGy rfl rfl rfl rfl rfl fun K_ hK_=>?_);simp only [zAz,zDz,zFw,↓reduceIte,reduceCtorEq,Nat.reduceEqDiff,Bool.not_true,Bool.not_false];refine hK_ _ ?_;clear hK_ K_)
  | refine zDw (by decide) ?_
  | ((try first|refine zJx rfl rfl rfl ?_|refine zIy rfl rfl ?_|refine zJv rfl rfl rfl ?_|refine zIx rfl rfl ?_);(refine zIz fun Q_ hQ_=>?_;simp (disch:=first|omega|(simp only [List.length_cons,List.length_nil,List.length_append];omega)) only [bb,bp,zKx,↓reduceIte,reduceCtorEq,Nat.reduceEqDiff,Nat.reduceLT,Nat.reduceLeDiff,Nat.reduceAdd,Nat.reduceMul,Nat.reduceSub,Nat.reduceBEq,Int.reduceToNat,cond_true,cond_false,eq_self,beq_self_eq_true,g1,g2,g3,g6,g4,g9,zHz wf,zHx wf,zFz wf,zHy wf,zBx wf,zFy,tEvbT12,zHw,zKy,zAw wf];first|(refine zCy (Q:=Q_) (fun hp_=>?_) (fun hp_=>?_) <;> first|(exfalso;omega)|(refine hQ_ _ _ ?_;clear hQ_ Q_))|(refine zBy (Q:=Q_) (fun hp_=>?_) (fun hp_=>?_) <;> first|(exfalso;omega)|(refine hQ_ _ _ ?_;clear hQ_ Q_))|(refine hQ_ _ _ ?_;clear hQ_ Q_)))
  | (refine zFv fun K_ hK_=>?_;simp (disch:=omega) only [zFx,zAz,zGz,↓reduceIte,reduceCtorEq,Nat.reduceEqDiff,Nat.reduceLT];refine hK_ _ ?_;clear hK_ K_)))
          refine zMw [.no,.no,.full,.no,.full,.full] (by kernel_rfl) ?_
          (repeat' (first
  | (with_reducible first|refine zJz ?_|refine zGw ?_|refine zEw ?_|refine zEx ?_|refine zEv ?_|refine zJy ?_|refine zGv ?_|refine zBw ?_|refine zDx ?_|refine zBv ?_|refine zCx ?_|refine zEz ?_|refine zCw ?_|refine zCz ?_|refine zBz ?_|refine zDv ?_|refine zDy ?_|refine zAx ?_|refine zAv ?_)
  | refine zCv ?_|refine zEy rfl ?_|refine zIw ?_|refine zIv ?_
  | ((first|refine zGx rfl rfl rfl rfl rfl fun K_ hK_=>?_|refine zGy rfl rfl rfl rfl rfl fun K_ hK_=>?_);simp only [zAz,zDz,zFw,↓reduceIte,reduceCtorEq,Nat.reduceEqDiff,Bool.not_true,Bool.not_false];refine hK_ _ ?_;clear hK_ K_)
  | refine zDw (by decide) ?_
  | ((try first|refine zJx rfl rfl rfl ?_|refine zIy rfl rfl ?_|refine zJv rfl rfl rfl ?_|refine zIx rfl rfl ?_);(refine zIz fun Q_ hQ_=>?_;simp (disch:=first|omega|(simp only [List.length_cons,List.length_nil,List.length_append];omega)) only [bb,bp,zKx,↓reduceIte,reduceCtorEq,Nat.reduceEqDiff,Nat.reduceLT,Nat.reduceLeDiff,Nat.reduceAdd,Nat.reduceMul,Nat.reduceSub,Nat.reduceBEq,Int.reduceToNat,cond_true,cond_false,eq_self,beq_self_eq_true,g1,g2,g3,g6,g4,g9,zPy,hG,j1,j2,hs1',zHz wf,zHx wf,zFz wf,zHy wf,zBx wf,zFy,tEvbT12,zHw,zKy,zAw wf];first|(refine zCy (Q:=Q_) (fun hp_=>?_) (fun hp_=>?_) <;> first|(exfalso;omega)|(refine hQ_ _ _ ?_;clear hQ_ Q_))|(refine zBy (Q:=Q_) (fun hp_=>?_) (fun hp_=>?_) <;> first|(exfalso;omega)|(refine hQ_ _ _ ?_;clear hQ_ Q_))|(refine hQ_ _ _ ?_;clear hQ_ Q_)))
  | (refine zFv fun K_ hK_=>?_;simp (disch:=omega) only [zFx,zAz,zGz,↓reduceIte,reduceCtorEq,Nat.reduceEqDiff,Nat.reduceLT];refine hK_ _ ?_;clear hK_ K_)))
          exact zKw (v+1) (by omega) ⟨hlv,by simp only [zAz,↓reduceIte,reduceCtorEq,Nat.reduceEqDiff];exact g1,by simp only [zAz,↓reduceIte,reduceCtorEq,Nat.reduceEqDiff];exact g2,by simp only [zAz,↓reduceIte,reduceCtorEq,Nat.reduceEqDiff];exact g3,by simp only [zAz,↓reduceIte,reduceCtorEq,Nat.reduceEqDiff];exact g6,by simp only [zAz,↓reduceIte,reduceCtorEq,Nat.reduceEqDiff];exact g4,by simp only [zAz,↓reduceIte,reduceCtorEq,Nat.reduceEqDiff];rfl,rfl,_,by rw [show u * 15+(v+1) * 3=u * 15+v * 3+3 from by omega],by omega,by omega⟩
        · have hve:v=5:=by omega
          subst hve
          (repeat' (first
  | (with_reducible first|refine zJz ?_|refine zGw ?_|refine zEw ?_|refine zEx ?_|refine zEv ?_|refine zJy ?_|refine zGv ?_|refine zBw ?_|refine zDx ?_|refine zBv ?_|refine zCx ?_|refine zEz ?_|refine zCw ?_|refine zCz ?_|refine zBz ?_|refine zDv ?_|refine zDy ?_|refine zAx ?_|refine zAv ?_)
  | refine zCv ?_|refine zEy rfl ?_|refine zIw ?_|refine zIv ?_
  | ((first|refine zGx rfl rfl rfl rfl rfl fun K_ hK_=>?_|refine zGy rfl rfl rfl rfl rfl fun K_ hK_=>?_);simp only [zAz,zDz,zFw,↓reduceIte,reduceCtorEq,Nat.reduceEqDiff,Bool.not_true,Bool.not_false];refine hK_ _ ?_;clear hK_ K_)
  | refine zDw (by decide) ?_
  | ((try first|refine zJx rfl rfl rfl ?_|refine zIy rfl rfl ?_|refine zJv rfl rfl rfl ?_|refine zIx rfl rfl ?_);(refine zIz fun Q_ hQ_=>?_;simp (disch:=first|omega|(simp only [List.length_cons,List.length_nil,List.length_append];omega)) only [bb,bp,zKx,↓reduceIte,reduceCtorEq,Nat.reduceEqDiff,Nat.reduceLT,Nat.reduceLeDiff,Nat.reduceAdd,Nat.reduceMul,Nat.reduceSub,Nat.reduceBEq,Int.reduceToNat,cond_true,cond_false,eq_self,beq_self_eq_true,g1,g2,g3,g6,g4,g9,zHz wf,zHx wf,zFz wf,zHy wf,zBx wf,zFy,tEvbT12,zHw,zKy,zAw wf];first|(refine zCy (Q:=Q_) (fun hp_=>?_) (fun hp_=>?_) <;> first|(exfalso;omega)|(refine hQ_ _ _ ?_;clear hQ_ Q_))|(refine zBy (Q:=Q_) (fun hp_=>?_) (fun hp_=>?_) <;> first|(exfalso;omega)|(refine hQ_ _ _ ?_;clear hQ_ Q_))|(refine hQ_ _ _ ?_;clear hQ_ Q_)))
  | (refine zFv fun K_ hK_=>?_;simp (disch:=omega) only [zFx,zAz,zGz,↓reduceIte,reduceCtorEq,Nat.reduceEqDiff,Nat.reduceLT];refine hK_ _ ?_;clear hK_ K_)))
          exact zKw (u+1) (by omega) ⟨hlt,by simp only [zAz,↓reduceIte,reduceCtorEq,Nat.reduceEqDiff];exact g1,by simp only [zAz,↓reduceIte,reduceCtorEq,Nat.reduceEqDiff];exact g2,by simp only [zAz,↓reduceIte,reduceCtorEq,Nat.reduceEqDiff];exact g3,by simp only [zAz,↓reduceIte,reduceCtorEq,Nat.reduceEqDiff];rfl,rfl,_,by rw [show (u+1) * 15=u * 15+5 * 3 from by omega],hw1,hw2⟩
      · exact ⟨Nat.zero_le _,by simp only [zAz,↓reduceIte,reduceCtorEq,Nat.reduceEqDiff];exact g1,by simp only [zAz,↓reduceIte,reduceCtorEq,Nat.reduceEqDiff];exact g2,by simp only [zAz,↓reduceIte,reduceCtorEq,Nat.reduceEqDiff];exact g3,by simp only [zAz,↓reduceIte,reduceCtorEq,Nat.reduceEqDiff];exact g6,by simp only [zAz,↓reduceIte,reduceCtorEq,Nat.reduceEqDiff],by simp only [zAz,↓reduceIte,reduceCtorEq,Nat.reduceEqDiff];rfl,rfl,_,rfl,hw1,hw2⟩
    · have hue:u=5:=by omega
      subst hue
      have hgz:gz (5 * 15)=List.replicate 75 FF:=by unfold gz;simp
      rw [hgz]
      have hld : ∀ (o1 o2:AO) (l:List AO) w,loadAgg (nx h 2) 0 (some 75) (X h (o1 :: o2 :: .cells (zAy (List.replicate 75 FF)) 98 :: l) w)=some (.agg (List.replicate 75 FF)):=fun o1 o2 l w=>by
        rw [zFz wf]
        show aggAt (some (.cells (zAy (List.replicate 75 FF)) 98)) 0 75=_
        rw [zOx (by decide)];rfl
      have hla : ∀ l w,w≤h.clock+l.length→(om Tryd.prog KK).call (.fn 26 [.agg [a,ii turn]]) (X h l w) = .ok (ii ((sp.length - 1:Nat):Int)) (X h l w):=fun l w hw=>last a turn sp (by omega) _ (wf.X hw) (hs.up wf _ _)
      have hrep : ∀ (o1 o2 o3:AO) w,w≤h.clock+4→(om Tryd.prog KK).call (.fn 59 [.sl (nx h 3) 0 1 (some 1) 75,ii ((sp.length - 1:Nat):Int)]) (X h [o1,o2,o3,.cells (zAy (List.replicate 75 FF)) 98] w) = .ok (.sl (nx h 4) 0 (sp.length - 1) (some (sp.length - 1)) 75) (X h [o1,o2,o3,.cells (zAy (List.replicate 75 FF)) 98,.cells (zAy (List.replicate ((sp.length - 1) * 75) FF)) 98] w):=fun o1 o2 o3 w hw=>repeat_ (by omega) h wf [o1,o2,o3,.cells (zAy (List.replicate 75 FF)) 98] 3 w rfl hw
      have hbs:=fun l w=>bs_54 wf l w
      have hl64 : ∀ (l:List AO) w,loadAgg (nx h 0) 0 (some 2) (X h (.cells (zAy [a,ii turn]) 53 :: l) w)=some (.agg [a,ii turn]):=fun l w=>by
        rw [zFz wf]
        show aggAt (some (.cells (zAy [a,ii turn]) 53)) 0 2=_
        rw [zOx (by decide)];rfl
      (repeat' (first
  | (with_reducible first|refine zJz ?_|refine zGw ?_|refine zEw ?_|refine zEx ?_|refine zEv ?_|refine zJy ?_|refine zGv ?_|refine zBw ?_|refine zDx ?_|refine zBv ?_|refine zCx ?_|refine zEz ?_|refine zCw ?_|refine zCz ?_|refine zBz ?_|refine zDv ?_|refine zDy ?_|refine zAx ?_|refine zAv ?_)
  | refine zCv ?_|refine zEy rfl ?_|refine zIw ?_|refine zIv ?_
  | ((first|refine zGx rfl rfl rfl rfl rfl fun K_ hK_=>?_|refine zGy rfl rfl rfl rfl rfl fun K_ hK_=>?_);simp only [zAz,zDz,zFw,↓reduceIte,reduceCtorEq,Nat.reduceEqDiff,Bool.not_true,Bool.not_false];refine hK_ _ ?_;clear hK_ K_)
  | refine zDw (by decide) ?_
  | ((try first|refine zJx rfl rfl rfl ?_|refine zIy rfl rfl ?_|refine zJv rfl rfl rfl ?_|refine zIx rfl rfl ?_);(refine zIz fun Q_ hQ_=>?_;simp (disch:=first|omega|(simp only [List.length_cons,List.length_nil,List.length_append];omega)) only [bb,bp,zKx,↓reduceIte,reduceCtorEq,Nat.reduceEqDiff,Nat.reduceLT,Nat.reduceLeDiff,Nat.reduceAdd,Nat.reduceMul,Nat.reduceSub,Nat.reduceBEq,Int.reduceToNat,cond_true,cond_false,eq_self,beq_self_eq_true,g1,g2,g3,g6,zHz wf,zHx wf,zFz wf,zHy wf,zBx wf,zFy,tEvbT12,zHw,zKy,zAw wf];first|(refine zCy (Q:=Q_) (fun hp_=>?_) (fun hp_=>?_) <;> first|(exfalso;omega)|(refine hQ_ _ _ ?_;clear hQ_ Q_))|(refine zBy (Q:=Q_) (fun hp_=>?_) (fun hp_=>?_) <;> first|(exfalso;omega)|(refine hQ_ _ _ ?_;clear hQ_ Q_))|(refine hQ_ _ _ ?_;clear hQ_ Q_)))
  | (refine zFv fun K_ hK_=>?_;simp (disch:=omega) only [zFx,zAz,zGz,↓reduceIte,reduceCtorEq,Nat.reduceEqDiff,Nat.reduceLT];refine hK_ _ ?_;clear hK_ K_)))
      refine zMw [.no,.no,.no,.no,.no,.no,.full,.full] (by kernel_rfl) ?_
      (repeat' (first
  | (with_reducible first|refine zJz ?_|refine zGw ?_|refine zEw ?_|refine zEx ?_|refine zEv ?_|refine zJy ?_|refine zGv ?_|refine zBw ?_|refine zDx ?_|refine zBv ?_|refine zCx ?_|refine zEz ?_|refine zCw ?_|refine zCz ?_|refine zBz ?_|refine zDv ?_|refine zDy ?_|refine zAx ?_|refine zAv ?_)
  | refine zCv ?_|refine zEy rfl ?_|refine zIw ?_|refine zIv ?_
  | ((first|refine zGx rfl rfl rfl rfl rfl fun K_ hK_=>?_|refine zGy rfl rfl rfl rfl rfl fun K_ hK_=>?_);simp only [zAz,zDz,zFw,↓reduceIte,reduceCtorEq,Nat.reduceEqDiff,Bool.not_true,Bool.not_false];refine hK_ _ ?_;clear hK_ K_)
  | refine zDw (by decide) ?_
  | ((try first|refine zJx rfl rfl rfl ?_|refine zIy rfl rfl ?_|refine zJv rfl rfl rfl ?_|refine zIx rfl rfl ?_);(refine zIz fun Q_ hQ_=>?_;simp (disch:=first|omega|(simp only [List.length_cons,List.length_nil,List.length_append];omega)) only [bb,bp,zKx,↓reduceIte,reduceCtorEq,Nat.reduceEqDiff,Nat.reduceLT,Nat.reduceLeDiff,Nat.reduceAdd,Nat.reduceMul,Nat.reduceSub,Nat.reduceBEq,Int.reduceToNat,cond_true,cond_false,eq_self,beq_self_eq_true,g1,g2,g3,g6,hld,hl64,hla,hrep,hbs,ha1.1,ha1.2,zHz wf,zHx wf,zHy wf,zBx wf,tEvbT12,zHw,zKy,zAw wf];first|(refine zCy (Q:=Q_) (fun hp_=>?_) (fun hp_=>?_) <;> first|(exfalso;omega)|(refine hQ_ _ _ ?_;clear hQ_ Q_))|(refine zBy (Q:=Q_) (fun hp_=>?_) (fun hp_=>?_) <;> first|(exfalso;omega)|(refine hQ_ _ _ ?_;clear hQ_ Q_))|(refine hQ_ _ _ ?_;clear hQ_ Q_)))
  | (refine zFv fun K_ hK_=>?_;simp (disch:=omega) only [zFx,zAz,zGz,↓reduceIte,reduceCtorEq,Nat.reduceEqDiff,Nat.reduceLT];refine hK_ _ ?_;clear hK_ K_)))
      refine zJw _ _ rfl (retc0 (by decide) (by simp (disch:=first|omega|(simp only [List.length_cons,List.length_nil,List.length_append];omega)) only [bb,bp,zKx,↓reduceIte,reduceCtorEq,Nat.reduceEqDiff,Nat.reduceLT,Nat.reduceLeDiff,Nat.reduceAdd,Nat.reduceMul,Nat.reduceSub,Nat.reduceBEq,Int.reduceToNat,cond_true,cond_false,eq_self,beq_self_eq_true,g2,zFz wf,tEvbT12,zHw,zKy,zAw wf];rfl)) ?_
      refine yCy (by
        show (_ && flat (prv a turn _ _))=false
        rw [flat_prv hs];exact Bool.and_false _) ?_
      have hmin : ∀ w',h.clock≤w'→min h.w w'=h.w:=fun w' h'=>by have:=wf.wle;omega
      rw [hmin _ (by omega)]
      exact ⟨_,rfl,rfl,rfl⟩
  · exact ⟨Nat.zero_le _,by simp only [zAz,↓reduceIte,reduceCtorEq,Nat.reduceEqDiff],by simp only [zAz,↓reduceIte,reduceCtorEq,Nat.reduceEqDiff],by simp only [zAz,↓reduceIte,reduceCtorEq,Nat.reduceEqDiff],by simp only [zAz,↓reduceIte,reduceCtorEq,Nat.reduceEqDiff];rfl,rfl,_,by rw [hg0];rfl,Nat.le_refl _ ,by omega⟩
end Go.Proofs.YtkmdidplmfdikabDoor
end

section
namespace Go.Proofs.YtkmdidplmfdikabDoor
open Go.Ev
set_option maxRecDepth 100000
set_option linter.unusedSimpArgs false
set_option linter.unusedVariables false
set_option maxHeartbeats 2000000

theorem tEvbT13 :type_of% (And.intro (And.intro (And.intro (And.intro (And.intro (@zSz) (@bs_53)) (And.intro (@bs_56) (And.intro (@ia_2) (@sz_2)))) (And.intro (And.intro (@ze_2) (@ia_3)) (And.intro (@sz_3) (And.intro (@zTz) (@zUw))))) (And.intro (And.intro (And.intro (@zRw) (@zPw)) (And.intro (@zVx) (And.intro (@zUy) (@zVy)))) (And.intro (And.intro (@zXv) (And.intro (@zXw) (@zTy))) (And.intro (@zSv) (And.intro (@zRv) (@zXz)))))) (And.intro (And.intro (And.intro (And.intro (@zTw) (@yJw)) (And.intro (@sz_54) (And.intro (@yJx) (@yJz)))) (And.intro (And.intro (@yVw) (@yFy)) (And.intro (@yEx) (And.intro (@xMv) (@zVv))))) (And.intro (And.intro (And.intro (@zVw) (@zPv)) (And.intro (@zMy) (And.intro (@zMz) (@pb_43)))) (And.intro (And.intro (@pb_39) (And.intro (@pb_38) (@pb_44))) (And.intro (@pb_27) (And.intro (@xAv) (@ni_54))))))):=And.intro (And.intro (And.intro (And.intro (And.intro (@zSz) (@bs_53)) (And.intro (@bs_56) (And.intro (@ia_2) (@sz_2)))) (And.intro (And.intro (@ze_2) (@ia_3)) (And.intro (@sz_3) (And.intro (@zTz) (@zUw))))) (And.intro (And.intro (And.intro (@zRw) (@zPw)) (And.intro (@zVx) (And.intro (@zUy) (@zVy)))) (And.intro (And.intro (@zXv) (And.intro (@zXw) (@zTy))) (And.intro (@zSv) (And.intro (@zRv) (@zXz)))))) (And.intro (And.intro (And.intro (And.intro (@zTw) (@yJw)) (And.intro (@sz_54) (And.intro (@yJx) (@yJz)))) (And.intro (And.intro (@yVw) (@yFy)) (And.intro (@yEx) (And.intro (@xMv) (@zVv))))) (And.intro (And.intro (And.intro (@zVw) (@zPv)) (And.intro (@zMy) (And.intro (@zMz) (@pb_43)))) (And.intro (And.intro (@pb_39) (And.intro (@pb_38) (@pb_44))) (And.intro (@pb_27) (And.intro (@xAv) (@ni_54))))))
theorem due_in {pf:Int→Int→Int→Int→Int} (hpf : ∀ (a b s c:Int),Off a→Off b→Off c→0≤pf a b s c∧pf a b s c≤5000000) : ∀ (R:List (Int × Int)) (a b s:Int),(∀ r ∈ R,SpotOK r)→Off a→Off b→0≤dueI pf R a b s∧dueI pf R a b s≤5000000 * (R.length:Int)
  | [],a,b,s,_,_,_=>by rw [dueI_nil];simp
  | r :: R,a,b,s,hR,ha,hb=>by
    obtain ⟨r1,r2,r3,r4⟩:=hR r (by simp)
    obtain ⟨c,e,hf⟩:=xNx (turn:=pf) (R:=R) r3 a b s
    have hc:=zXy.1 hf.mem
    have h1:=hpf a b s c ha hb (by omega)
    have h2:=due_in hpf R b c (nsg s (a - 2 * b+c)) (fun r hr=>hR r (by simp [hr])) hb (by omega)
    have e2:dueI pf (r :: R) a b s=pf a b s c+dueI pf R b c (nsg s (a - 2 * b+c)):=by show (onw pf (r :: R) a b s).2=_;rw [e]
    rw [e2,List.length_cons]
    push_cast
    omega
theorem dueS_in {byv:AV} {pf:Int→Int→Int→Int→Int} (S:StepOK byv pf) {sp:List (Int × Int)} (hsp:SpotsOK sp) {x:Stt} (hx:x.Ok sp):0≤dueS pf sp x∧dueS pf sp x≤1000000000:=by
  obtain ⟨⟨h1,h2⟩,h3,h4,h5⟩:=hx
  obtain ⟨a1,a2,a3,a4⟩:=hsp.at (i:=x.i - 1) (by omega)
  obtain ⟨b1,b2,b3,b4⟩:=hsp.at h2
  have:=due_in S.le (sp.drop (x.i+1)) x.a x.b x.s (fun r hr=>hsp.ok r (List.mem_of_mem_drop hr)) (by omega) (by omega)
  have n24:=hsp.n24
  rw [List.length_drop] at this
  have e:dueS pf sp x=dueI pf (sp.drop (x.i+1)) x.a x.b x.s:=rfl
  rw [e]
  omega
def GoodT (pf:Int→Int→Int→Int→Int) (sp:List (Int × Int)) (Tb:List Int) (j:Nat):Prop:=∀ (i:Nat) (x:Stt),i<j→(sts sp).reverse[i]? = some x→Tb.getD (x.ix sp) 0=dueS pf sp x
theorem rs_ok {sp:List (Int × Int)} {j:Nat} {x:Stt} (hx:(sts sp).reverse[j]? = some x):x.Ok sp:=mem_sts.1 (List.mem_reverse.1 (List.mem_of_getElem? hx))
theorem rs_lt {sp:List (Int × Int)} (hn:Narrow sp) {i j:Nat} {x y:Stt} (hij:i<j) (hx:(sts sp).reverse[i]? = some x) (hy:(sts sp).reverse[j]? = some y):y.ix sp<x.ix sp:=by
  have hp:(sts sp).reverse.Pairwise fun x y=>y.ix sp<x.ix sp:=List.pairwise_reverse.2 (sts_sorted hn)
  obtain ⟨hi,rfl⟩:=List.getElem?_eq_some_iff.1 hx
  obtain ⟨hj,rfl⟩:=List.getElem?_eq_some_iff.1 hy
  exact List.pairwise_iff_getElem.1 hp i j hi hj hij
theorem good_next {pf:Int→Int→Int→Int→Int} {sp:List (Int × Int)} (hsp:SpotsOK sp) {Tb:List Int} {j:Nat} (hg:GoodT pf sp Tb j) {x:Stt} (hx:(sts sp).reverse[j]? = some x) (c:Int) (hi:x.i+1<sp.length) (h1:(spot sp (x.i+1)).1≤c) (h2:c≤(spot sp (x.i+1)).2) :
    Tb.getD ((nxt x c).ix sp) 0=dueS pf sp (nxt x c):=by
  have hok:=rs_ok hx
  have hy:=yWx hok hi ⟨h1,h2⟩
  have lx:=hok.lt hsp.narrow
  have ly:=hy.lt hsp.narrow
  have hyi:(nxt x c).i=x.i+1:=rfl
  rw [hyi] at ly
  obtain ⟨i,hi2⟩:=List.getElem?_of_mem (List.mem_reverse.2 (mem_sts.2 hy))
  refine hg i _ ?_ hi2
  rcases Nat.lt_trichotomy i j with h|h|h
  · exact h
  · subst h;rw [hx] at hi2;have e:=Option.some.inj hi2;rw [← e] at ly;omega
  · have:=rs_lt hsp.narrow h hx hi2;omega
theorem good_set {pf:Int→Int→Int→Int→Int} {sp:List (Int × Int)} (hsp:SpotsOK sp) {Tb:List Int} (hTl:Tb.length=(sp.length - 1) * 75) {j:Nat} (hg:GoodT pf sp Tb j) {x:Stt} (hx:(sts sp).reverse[j]? = some x):GoodT pf sp (Tb.set (x.ix sp) (dueS pf sp x)) (j+1):=by
  have lx:=(rs_ok hx).lt hsp.narrow
  intro i y hi hy
  by_cases e:i=j
  · subst e
    rw [hx] at hy;cases hy
    simp [List.getD,List.getElem?_set,hTl,lx.1]
  · have h1:=rs_lt hsp.narrow (show i<j by omega) hy hx
    have h2:=hg i y (by omega) hy
    simp only [List.getD] at h2 ⊢
    rw [List.getElem?_set_ne (by omega)]
    exact h2
theorem bound_set {Tb:List Int} {n:Nat} {v:Int} (hb : ∀ m,-1000000000000000≤Tb.getD m 0∧Tb.getD m 0≤1000000000000000) (hv : -1000000000000000≤v∧v≤1000000000000000) : ∀ m,-1000000000000000≤(Tb.set n v).getD m 0∧(Tb.set n v).getD m 0≤1000000000000000:=fun m=>by
  by_cases e:n=m
  · subst e
    by_cases hl:n<Tb.length
    · simp only [List.getD,List.getElem?_set,if_pos hl,↓reduceIte,Option.getD_some];exact hv
    · simp only [List.getD,List.getElem?_set,if_neg hl,↓reduceIte,Option.getD_none];omega
  · simp only [List.getD]
    rw [List.getElem?_set_ne e]
    exact hb m

theorem stsTo_le {sp:List (Int × Int)} (hsp:SpotsOK sp) : ∀ k,k<sp.length→(stsTo sp k).length≤75 * k
  | 0,_=>by rw [show stsTo sp 0=[] from rfl];simp
  | k+1,hk=>by
    have ih:=stsTo_le hsp k (by omega)
    obtain ⟨_,_,_,h0⟩:=hsp.at (i:=k) (by omega)
    obtain ⟨_,_,_,h1⟩:=hsp.at hk
    have m1:=Nat.mul_le_mul (show (offs (spot sp k)).length≤5 by rw [zOy];omega) (show (offs (spot sp (k+1))).length * 3≤15 by rw [zOy];omega)
    rw [yCx,List.length_append,yZv,Nat.add_sub_cancel]
    omega
theorem xDv {sp:List (Int × Int)} (hsp:SpotsOK sp):(sts sp).length≤1725:=by
  have n2:=hsp.n2
  have n24:=hsp.n24
  have:=stsTo_le hsp (sp.length - 1) (by omega)
  unfold sts
  omega
theorem sts_two {sp:List (Int × Int)} (hsp:SpotsOK sp):3≤(sts sp).length:=by
  have n2:=hsp.n2
  obtain ⟨post,e⟩:=yQz sp (k:=1) (m:=sp.length - 1) (by omega)
  obtain ⟨_,_,h0,_⟩:=hsp.at (i:=0) (by omega)
  obtain ⟨_,_,h1,_⟩:=hsp.at (i:=1) (by omega)
  have m1:=Nat.mul_le_mul (show 1≤(offs (spot sp 0)).length by rw [zOy];omega) (show 1 * 3≤(offs (spot sp 1)).length * 3 by rw [zOy];omega)
  have e2:(stsTo sp 1).length=(offs (spot sp 0)).length * ((offs (spot sp 1)).length * 3):=by rw [yCx,List.length_append,yZv];rw [show stsTo sp 0=[] from rfl];simp
  unfold sts
  rw [e,List.length_append]
  omega
theorem sts_pos {sp:List (Int × Int)} (hsp:SpotsOK sp):0<(sts sp).length:=by have:=sts_two hsp;omega

theorem due {byv:AV} {pf:Int→Int→Int→Int→Int} (S:StepOK byv pf) (sp:List (Int × Int)) (hsp:SpotsOK sp) (a:AV) (turn:Int) (h:H) (wf:Wf h) (ht:TabF h) (hs:Sl h a 2 sp.length (zKv sp)) :
    WV ((om Tryd.prog KK).call (.fn 21 [.agg [a,ii turn],byv]) h) fun v h'=>∃ (L:List AO) (k:Nat) (Tb:List Int),v=prv a turn (nx h k) (sp.length - 1)∧h'=X h L h.w∧L[k]? = some (.cells (zAy (Tb.map ii)) 98)∧Tb.length=(sp.length - 1) * 75 ∧
      (∀ m,-1000000000000000≤Tb.getD m 0∧Tb.getD m 0≤1000000000000000) ∧ ∀ x:Stt,x.Ok sp→Tb.getD (x.ix sp) 0=dueS pf sp x:=by
  have n2:=hsp.n2
  have n24:=hsp.n24
  have hby:=S.flat
  have ha1:oneB a=true∧AV.cells a=[a]:=by obtain ⟨_,⟨rfl,_⟩|⟨_,_,_,_,_,_,rfl,_⟩⟩:=hs <;> exact ⟨rfl,rfl⟩
  refine zLv (fn:=Tryd.f21) Tryd.func21 rfl rfl rfl rfl rfl ?_
  simp only [zKx]
  generalize ho0:(AO.cells (zAy [a,ii turn]) 53)=o0
  generalize ho1:(AO.cells (zAy [.nils,.int .i64 0,.nils]) 56)=o1
  obtain ⟨v,h',e1,M,rfl,rfl,hM⟩:=unpriced sp hsp a turn (X h [o0,o1] h.clock) (wf.X (by omega)) (ht.up wf _ _) (hs.up wf _ _)
  have hML:=zHv hM
  rw [X_X,nx_X,X_w] at e1
  simp only [List.length_cons,List.length_nil,Nat.reduceAdd,List.cons_append,List.nil_append] at e1
  subst ho0
  subst ho1
  unfold prv at e1
  have e2:=states a turn h wf (.cells (zAy [a,ii turn]) 53 :: .cells (zAy [.nils,.int .i64 0,.nils]) 56 :: (M++[.cells (zAy [a,ii turn,.sl (nx h 6) 0 (sp.length - 1) (some (sp.length - 1)) 75]) 56])) h.clock (by omega)
  simp only [List.length_cons,List.length_append,List.length_nil,List.cons_append,List.append_assoc,List.nil_append,Nat.zero_add] at e2
  have hwl:h.clock≤h.clock+(.cells (zAy [a,ii turn]) 53 :: .cells (zAy [.nils,.int .i64 0,.nils]) 56 :: (M++[.cells (zAy [a,ii turn,.sl (nx h 6) 0 (sp.length - 1) (some (sp.length - 1)) 75]) 56,.cells (zAy [a,ii turn]) 53]):List AO).length:=by omega
  obtain ⟨M2,k2,e3,hk2⟩:=collect (ys:=sts sp) (states1 (t:=60) (by decide) (nx h (M.length+1+1+1)) a turn sp (by omega) hsp.ok) (by
      have hle:=xDv hsp;omega) (sts_pos hsp) (X h (.cells (zAy [a,ii turn]) 53 :: .cells (zAy [.nils,.int .i64 0,.nils]) 56 :: (M++[.cells (zAy [a,ii turn,.sl (nx h 6) 0 (sp.length - 1) (some (sp.length - 1)) 75]) 56,.cells (zAy [a,ii turn]) 53])) h.clock) (wf.X hwl) (fun L w hw=>by
    rw [X_X]
    refine DrIn.of wf (k:=M.length+1+1+1) ?_ ?_ hs
    · simp only [zQx,List.length_cons,List.length_append,List.length_nil] at hw ⊢;omega
    · simp only [List.cons_append,List.append_assoc,List.nil_append,List.getElem?_cons_succ,zLw,List.getElem?_cons_zero])
  rw [X_X,nx_X,X_w] at e3
  simp only [List.length_cons,List.length_append,List.length_nil,List.cons_append,List.append_assoc,List.nil_append,Nat.zero_add] at e3
  have hk2l:=zHv hk2
  have e4:=turned (sts sp) ⟨by have:=sts_two hsp;omega,by have:=xDv hsp;omega⟩ h wf (.cells (zAy [a,ii turn]) 53 :: .cells (zAy [.nils,.int .i64 0,.nils]) 56 :: (M ++ .cells (zAy [a,ii turn,.sl (nx h 6) 0 (sp.length - 1) (some (sp.length - 1)) 75]) 56 :: .cells (zAy [a,ii turn]) 53 :: M2)) (M.length+2+1+1+k2) h.clock (by
    rw [show M.length+2+1+1+k2=M.length+(k2+1+1)+1+1 from by omega]
    simp only [List.getElem?_cons_succ,zLw,hk2]) (by omega)
  simp only [List.length_cons,List.length_append,List.length_nil,List.cons_append,List.append_assoc,List.nil_append,Nat.zero_add] at e4
  (repeat' (first
  | (with_reducible first|refine zJz ?_|refine zGw ?_|refine zEw ?_|refine zEx ?_|refine zEv ?_|refine zJy ?_|refine zGv ?_|refine zBw ?_|refine zDx ?_|refine zBv ?_|refine zCx ?_|refine zEz ?_|refine zCw ?_|refine zCz ?_|refine zBz ?_|refine zDv ?_|refine zDy ?_|refine zAx ?_|refine zAv ?_)
  | refine zCv ?_|refine zEy rfl ?_|refine zIw ?_|refine zIv ?_
  | ((first|refine zGx rfl rfl rfl rfl rfl fun K_ hK_=>?_|refine zGy rfl rfl rfl rfl rfl fun K_ hK_=>?_);simp only [zAz,zDz,zFw,↓reduceIte,reduceCtorEq,Nat.reduceEqDiff,Bool.not_true,Bool.not_false];refine hK_ _ ?_;clear hK_ K_)
  | refine zDw (by decide) ?_
  | ((try first|refine zJx rfl rfl rfl ?_|refine zIy rfl rfl ?_|refine zJv rfl rfl rfl ?_|refine zIx rfl rfl ?_);(refine zIz fun Q_ hQ_=>?_;simp (disch:=first|omega|(simp only [List.length_cons,List.length_nil,List.length_append];omega)) only [bb,bp,zKx,↓reduceIte,reduceCtorEq,Nat.reduceEqDiff,Nat.reduceLT,Nat.reduceLeDiff,Nat.reduceAdd,Nat.reduceMul,Nat.reduceSub,Nat.reduceBEq,Int.reduceToNat,cond_true,cond_false,eq_self,beq_self_eq_true,e1,e2,e3,e4,len_81,ha1.1,ha1.2,zHz wf,zHx wf,zFz wf,zHy wf,zBx wf,zFy,tEvbT13,zHw,zKy,zAw wf];first|(refine zCy (Q:=Q_) (fun hp_=>?_) (fun hp_=>?_) <;> first|(exfalso;omega)|(refine hQ_ _ _ ?_;clear hQ_ Q_))|(refine zBy (Q:=Q_) (fun hp_=>?_) (fun hp_=>?_) <;> first|(exfalso;omega)|(refine hQ_ _ _ ?_;clear hQ_ Q_))|(refine hQ_ _ _ ?_;clear hQ_ Q_)))
  | (refine zFv fun K_ hK_=>?_;simp (disch:=omega) only [zFx,zAz,zGz,↓reduceIte,reduceCtorEq,Nat.reduceEqDiff,Nat.reduceLT];refine hK_ _ ?_;clear hK_ K_)))
  have hNb:=xDv hsp
  generalize hN:(sts sp).length=N at *
  have hNr:(sts sp).reverse.length=N:=by rw [List.length_reverse,hN]
  refine zVz (fun (j:Nat) f d h'=>j≤N∧f 1=byv∧f 4 = .ptr (nx h 1) 0∧f 5 = .ptr (nx h (M.length+1+1)) 0∧f 15 = .sl (nx h (M.length+(M2.length+1+1)+1+1)) 0 N none 4∧f 16=ii (N:Int)∧f 17=ii (j:Int)∧d=[] ∧
    ∃ (L:List AO) (Tb:List Int) (w:Nat),h'=X h L w∧L[1]? = some (.cells (zAy [.nils,.int .i64 0,.nils]) 56)∧L[6]? = some (.cells (zAy (Tb.map ii)) 98)∧L[M.length+1+1]? = some (.cells (zAy [a,ii turn,.sl (nx h 6) 0 (sp.length - 1) (some (sp.length - 1)) 75]) 56)∧L[M.length+(M2.length+1+1)+1+1]? = some (.cells (zAy (cellsL (sts sp).reverse)) 60)∧Tb.length=(sp.length - 1) * 75 ∧
      (∀ m,-1000000000000000≤Tb.getD m 0∧Tb.getD m 0≤1000000000000000)∧GoodT pf sp Tb j∧h.clock≤w∧w≤h.clock+L.length) (fun j=>N - j) ?_ (N+1) 0 (by omega) ?_
  · clear e1 e2 e3 e4 hM hwl hk2
    rintro j f d h' ⟨hj,g1,g4,g5,g15,g16,g17,rfl,L,Tb,w,rfl,hL1,hL6,hL5,hLt,hTl,hTb,hgd,hw1,hw2⟩
    by_cases hlt:j<N
    · obtain ⟨x,hx⟩ : ∃ x,(sts sp).reverse[j]? = some x:=⟨_,List.getElem?_eq_getElem (by omega)⟩
      have hok:=rs_ok hx
      have hix:=ix_81 (h:=h) (k:=M.length+(M2.length+1+1)+1+1) (c:=none) hlt
      have hldx : ∀ (G:List AO) w,loadAgg (nx h (M.length+(M2.length+1+1)+1+1)) (j * 4) (some 4) (X h (L++G) w)=some (.agg (cellsS x)):=fun G w=>by
        rw [zFz wf,List.getElem?_append_left (zHv hLt),hLt,zOx (by decide),if_pos (by rw [yMw,hNr];omega)]
        unfold cellsL
        rw [yRv (m:=4) _ (fun _ _=>rfl) j x hx]
      have hldx0:=fun w=>hldx [] w
      simp only [List.append_nil] at hldx0
      have hld5 : ∀ (G:List AO) w,loadAgg (nx h (M.length+1+1)) 0 (some 3) (X h (L++G) w)=some (.agg [a,ii turn,.sl (nx h 6) 0 (sp.length - 1) (some (sp.length - 1)) 75]):=fun G w=>by
        rw [zFz wf,List.getElem?_append_left (zHv hL5),hL5]
        rw [zOx (by decide)];rfl
      have hon : ∀ (o:AO) w,w≤h.clock+(L.length+1)→(om Tryd.prog KK).call (.fn 27 [prv a turn (nx h 6) (sp.length - 1),stv x,byv]) (X h (L++[o]) w) = .ok (.tup [ii (onwS pf sp x).1,ii (onwS pf sp x).2]) (X h (L++[o]) w):=fun o w hw=>
        onward S sp hsp a turn (nx h 6) Tb hTl hTb x hok (fun c hi h1 h2=>good_next hsp hgd hx c hi h1 h2) _ (wf.X (by simp only [List.length_append,List.length_cons,List.length_nil];omega)) (hs.up wf _ _) (TabIn.of wf (by rw [List.getElem?_append_left (zHv hL6)];exact hL6))
      have hdx:=dueS_in S hsp hok
      have hput : ∀ (o:AO) w,w≤h.clock+(L.length+1) → ∃ b1 b2,(om Tryd.prog KK).call (.fn 45 [prv a turn (nx h 6) (sp.length - 1),stv x,ii (onwS pf sp x).2]) (X h (L++[o]) w) = .ok (.tup []) (X h (L.set 6 (.cells (zAy ((Tb.set (x.ix sp) (dueS pf sp x)).map ii)) 98)++[o,b1,b2]) (min w (h.clock+6))):=fun o w hw=>by
        obtain ⟨b1,b2,e⟩:=put_ sp hsp a turn Tb hTl x hok (onwS pf sp x).2 h wf hs (L++[o]) 6 w (by rw [List.getElem?_append_left (zHv hL6)];exact hL6) (by simp only [List.length_append,List.length_cons,List.length_nil];omega)
        refine ⟨b1,b2,?_⟩
        rw [e,List.set_append_left _ _ (zHv hL6),List.append_assoc];rfl
      obtain ⟨b1,b2,hpt⟩:=hput (.cells (zAy (cellsS x)) 60) w (by omega)
      unfold prv stv at hon hpt
      unfold cellsS at hldx hldx0 hpt
      have hmw:min (h.clock+L.length) w=w:=by omega
      (repeat' (first
  | (with_reducible first|refine zJz ?_|refine zGw ?_|refine zEw ?_|refine zEx ?_|refine zEv ?_|refine zJy ?_|refine zGv ?_|refine zBw ?_|refine zDx ?_|refine zBv ?_|refine zCx ?_|refine zEz ?_|refine zCw ?_|refine zCz ?_|refine zBz ?_|refine zDv ?_|refine zDy ?_|refine zAx ?_|refine zAv ?_)
  | refine zCv ?_|refine zEy rfl ?_|refine zIw ?_|refine zIv ?_
  | ((first|refine zGx rfl rfl rfl rfl rfl fun K_ hK_=>?_|refine zGy rfl rfl rfl rfl rfl fun K_ hK_=>?_);simp only [zAz,zDz,zFw,↓reduceIte,reduceCtorEq,Nat.reduceEqDiff,Bool.not_true,Bool.not_false];refine hK_ _ ?_;clear hK_ K_)
  | refine zDw (by decide) ?_
  | ((try first|refine zJx rfl rfl rfl ?_|refine zIy rfl rfl ?_|refine zJv rfl rfl rfl ?_|refine zIx rfl rfl ?_);(refine zIz fun Q_ hQ_=>?_;simp (disch:=first|omega|(simp only [List.length_cons,List.length_nil,List.length_append];omega)) only [bb,bp,zKx,↓reduceIte,reduceCtorEq,Nat.reduceEqDiff,Nat.reduceLT,Nat.reduceLeDiff,Nat.reduceAdd,Nat.reduceMul,Nat.reduceSub,Nat.reduceBEq,Int.reduceToNat,cond_true,cond_false,eq_self,beq_self_eq_true,g1,g4,g5,g15,g16,g17,hix,hldx,hldx0,hld5,hon,hmw,hpt,zHz wf,zHx wf,zFz wf,zHy wf,zBx wf,zFy,tEvbT13,zHw,zKy,zAw wf];first|(refine zCy (Q:=Q_) (fun hp_=>?_) (fun hp_=>?_) <;> first|(exfalso;omega)|(refine hQ_ _ _ ?_;clear hQ_ Q_))|(refine zBy (Q:=Q_) (fun hp_=>?_) (fun hp_=>?_) <;> first|(exfalso;omega)|(refine hQ_ _ _ ?_;clear hQ_ Q_))|(refine hQ_ _ _ ?_;clear hQ_ Q_)))
  | (refine zFv fun K_ hK_=>?_;simp (disch:=omega) only [zFx,zAz,zGz,↓reduceIte,reduceCtorEq,Nat.reduceEqDiff,Nat.reduceLT];refine hK_ _ ?_;clear hK_ K_)))
      refine zKw (j+1) (by omega) ⟨hlt,by simp only [zAz,↓reduceIte,reduceCtorEq,Nat.reduceEqDiff];exact g1,by simp only [zAz,↓reduceIte,reduceCtorEq,Nat.reduceEqDiff];exact g4,by simp only [zAz,↓reduceIte,reduceCtorEq,Nat.reduceEqDiff];exact g5,by simp only [zAz,↓reduceIte,reduceCtorEq,Nat.reduceEqDiff];exact g15,by simp only [zAz,↓reduceIte,reduceCtorEq,Nat.reduceEqDiff];exact g16,by simp only [zAz,↓reduceIte,reduceCtorEq,Nat.reduceEqDiff];rfl,rfl,_,Tb.set (x.ix sp) (dueS pf sp x),_,rfl,?_,?_,?_,?_,?_,?_,good_set hsp hTl hgd hx,by omega,by simp only [List.length_append,List.length_set,List.length_cons,List.length_nil];omega⟩
      · rw [List.getElem?_append_left (by rw [List.length_set];exact zHv hL1),List.getElem?_set_ne (by decide),hL1]
      · rw [List.getElem?_append_left (by rw [List.length_set];exact zHv hL6),List.getElem?_set_self (zHv hL6)]
      · rw [List.getElem?_append_left (by rw [List.length_set];exact zHv hL5),List.getElem?_set_ne (by omega),hL5]
      · rw [List.getElem?_append_left (by rw [List.length_set];exact zHv hLt),List.getElem?_set_ne (by omega),hLt]
      · rw [List.length_set,hTl]
      · exact bound_set hTb ⟨by omega,by omega⟩
    · have hje:j=N:=by omega
      subst hje
      have hld5 : ∀ w,loadAgg (nx h (M.length+1+1)) 0 (some 3) (X h L w)=some (.agg [a,ii turn,.sl (nx h 6) 0 (sp.length - 1) (some (sp.length - 1)) 75]):=fun w=>by
        rw [zFz wf,hL5]
        rw [zOx (by decide)];rfl
      have hst : ∀ w,writeCells (nx h 1) 0 [a,ii turn,.sl (nx h 6) 0 (sp.length - 1) (some (sp.length - 1)) 75] (X h L w)=some (X h (L.set 1 (.cells (zAy [a,ii turn,.sl (nx h 6) 0 (sp.length - 1) (some (sp.length - 1)) 75]) 56)) (min (h.clock+1) w)):=fun w=>by
        rw [zBx wf,hL1,zUz]
        simp only [zYv,yVz,ha1.1,xNw,oneB_sl]
        rfl
      (repeat' (first
  | (with_reducible first|refine zJz ?_|refine zGw ?_|refine zEw ?_|refine zEx ?_|refine zEv ?_|refine zJy ?_|refine zGv ?_|refine zBw ?_|refine zDx ?_|refine zBv ?_|refine zCx ?_|refine zEz ?_|refine zCw ?_|refine zCz ?_|refine zBz ?_|refine zDv ?_|refine zDy ?_|refine zAx ?_|refine zAv ?_)
  | refine zCv ?_|refine zEy rfl ?_|refine zIw ?_|refine zIv ?_
  | ((first|refine zGx rfl rfl rfl rfl rfl fun K_ hK_=>?_|refine zGy rfl rfl rfl rfl rfl fun K_ hK_=>?_);simp only [zAz,zDz,zFw,↓reduceIte,reduceCtorEq,Nat.reduceEqDiff,Bool.not_true,Bool.not_false];refine hK_ _ ?_;clear hK_ K_)
  | refine zDw (by decide) ?_
  | ((try first|refine zJx rfl rfl rfl ?_|refine zIy rfl rfl ?_|refine zJv rfl rfl rfl ?_|refine zIx rfl rfl ?_);(refine zIz fun Q_ hQ_=>?_;simp (disch:=first|omega|(simp only [List.length_cons,List.length_nil,List.length_append];omega)) only [bb,bp,zKx,↓reduceIte,reduceCtorEq,Nat.reduceEqDiff,Nat.reduceLT,Nat.reduceLeDiff,Nat.reduceAdd,Nat.reduceMul,Nat.reduceSub,Nat.reduceBEq,Int.reduceToNat,cond_true,cond_false,eq_self,beq_self_eq_true,g1,g4,g5,g15,g16,g17,hld5,hst,ha1.1,ha1.2,zHz wf,tEvbT13,zHw,zKy,zAw wf];first|(refine zCy (Q:=Q_) (fun hp_=>?_) (fun hp_=>?_) <;> first|(exfalso;omega)|(refine hQ_ _ _ ?_;clear hQ_ Q_))|(refine zBy (Q:=Q_) (fun hp_=>?_) (fun hp_=>?_) <;> first|(exfalso;omega)|(refine hQ_ _ _ ?_;clear hQ_ Q_))|(refine hQ_ _ _ ?_;clear hQ_ Q_)))
  | (refine zFv fun K_ hK_=>?_;simp (disch:=omega) only [zFx,zAz,zGz,↓reduceIte,reduceCtorEq,Nat.reduceEqDiff,Nat.reduceLT];refine hK_ _ ?_;clear hK_ K_)))
      have hld1 : ∀ w,loadAgg (nx h 1) 0 (some 3) (X h (L.set 1 (.cells (zAy [a,ii turn,.sl (nx h 6) 0 (sp.length - 1) (some (sp.length - 1)) 75]) 56)) w)=some (.agg [a,ii turn,.sl (nx h 6) 0 (sp.length - 1) (some (sp.length - 1)) 75]):=fun w=>by
        rw [zFz wf,List.getElem?_set_self (zHv hL1)]
        rw [zOx (by decide)];rfl
      refine zJw _ _ rfl (retc0 (by decide) (by simp (disch:=first|omega|(simp only [List.length_cons,List.length_nil,List.length_append];omega)) only [bb,bp,zKx,↓reduceIte,reduceCtorEq,Nat.reduceEqDiff,Nat.reduceLT,Nat.reduceLeDiff,Nat.reduceAdd,Nat.reduceMul,Nat.reduceSub,Nat.reduceBEq,Int.reduceToNat,cond_true,cond_false,eq_self,beq_self_eq_true,g4,hld1,tEvbT13,zHw,zKy,zAw wf];rfl)) ?_
      refine yCy (by
        show (_ && flat (prv a turn _ _))=false
        rw [flat_prv hs];exact Bool.and_false _) ?_
      have hmin : ∀ w',h.clock≤w'→min h.w w'=h.w:=fun w' h'=>by have:=wf.wle;omega
      rw [hmin _ (by omega)]
      refine ⟨_,6,Tb,rfl,rfl,?_,hTl,hTb,fun x hx=>?_⟩
      · rw [List.getElem?_set_ne (by decide),hL6]
      · obtain ⟨i,hi⟩:=List.getElem?_of_mem (List.mem_reverse.2 (mem_sts.2 hx))
        exact hgd i x (by have:=zHv hi;omega) hi
  · have hFF : ∀ m,-1000000000000000≤(List.replicate ((sp.length - 1) * 75) (1099511627776:Int)).getD m 0∧(List.replicate ((sp.length - 1) * 75) (1099511627776:Int)).getD m 0≤1000000000000000:=fun m=>by
      simp only [List.getD,List.getElem?_replicate]
      split <;> simp
    refine ⟨Nat.zero_le _,by simp only [zAz,↓reduceIte,reduceCtorEq,Nat.reduceEqDiff],by simp only [zAz,↓reduceIte,reduceCtorEq,Nat.reduceEqDiff],by simp only [zAz,↓reduceIte,reduceCtorEq,Nat.reduceEqDiff],by simp only [zAz,↓reduceIte,reduceCtorEq,Nat.reduceEqDiff],by simp only [zAz,↓reduceIte,reduceCtorEq,Nat.reduceEqDiff],by simp only [zAz,↓reduceIte,reduceCtorEq,Nat.reduceEqDiff];rfl,rfl,_,List.replicate ((sp.length - 1) * 75) 1099511627776,_,rfl,rfl,?_,?_,?_,by rw [List.length_replicate],hFF,fun i x hi=>absurd hi (Nat.not_lt_zero _),Nat.le_refl _,by omega⟩
    · rw [List.map_replicate]
      simp only [List.getElem?_cons_succ]
      rw [List.getElem?_append_left hML,hM]
      rfl
    · simp only [List.getElem?_cons_succ,zNx,List.getElem?_cons_zero]
    · simp only [List.getElem?_cons_succ,zLw,zNx,List.getElem?_cons_zero]
end Go.Proofs.YtkmdidplmfdikabDoor
end

section
namespace Go.Proofs.YtkmdidplmfdikabDoor
open Go.Ev
set_option maxRecDepth 100000
set_option linter.unusedSimpArgs false
set_option linter.unusedVariables false
set_option maxHeartbeats 2000000

theorem tEvbT14 :type_of% (And.intro (And.intro (And.intro (And.intro (And.intro (@zSz) (And.intro (@ia_2) (@sz_2))) (And.intro (And.intro (@ze_2) (@ia_3)) (And.intro (@sz_3) (@zTz)))) (And.intro (And.intro (@zUw) (And.intro (@zRw) (@zPw))) (And.intro (And.intro (@zVx) (@zUy)) (And.intro (@zVy) (@zXv))))) (And.intro (And.intro (And.intro (@zXw) (And.intro (@zTy) (@zSv))) (And.intro (And.intro (@zRv) (@zXz)) (And.intro (@zTw) (@yJw)))) (And.intro (And.intro (@yJx) (And.intro (@yJz) (@yFy))) (And.intro (And.intro (@yEx) (@yVw)) (And.intro (@xZv) (@ia_92)))))) (And.intro (And.intro (And.intro (And.intro (@sz_92) (And.intro (@ia_4) (@sz_4))) (And.intro (And.intro (@ze_4) (@zVv)) (And.intro (@zVw) (@zOz)))) (And.intro (And.intro (@zNv) (And.intro (@zNw) (@zOw))) (And.intro (And.intro (@zMv) (@zNz)) (And.intro (@zPv) (@zMy))))) (And.intro (And.intro (And.intro (@zMz) (And.intro (@zPw) (@yJy))) (And.intro (And.intro (@yIv) (@yFz)) (And.intro (@yMz) (@xFv)))) (And.intro (And.intro (@yCz) (And.intro (@yRy) (@xAv))) (And.intro (And.intro (@pb_52) (@ia_66)) (And.intro (@sz_66) (@yPx))))))):=And.intro (And.intro (And.intro (And.intro (And.intro (@zSz) (And.intro (@ia_2) (@sz_2))) (And.intro (And.intro (@ze_2) (@ia_3)) (And.intro (@sz_3) (@zTz)))) (And.intro (And.intro (@zUw) (And.intro (@zRw) (@zPw))) (And.intro (And.intro (@zVx) (@zUy)) (And.intro (@zVy) (@zXv))))) (And.intro (And.intro (And.intro (@zXw) (And.intro (@zTy) (@zSv))) (And.intro (And.intro (@zRv) (@zXz)) (And.intro (@zTw) (@yJw)))) (And.intro (And.intro (@yJx) (And.intro (@yJz) (@yFy))) (And.intro (And.intro (@yEx) (@yVw)) (And.intro (@xZv) (@ia_92)))))) (And.intro (And.intro (And.intro (And.intro (@sz_92) (And.intro (@ia_4) (@sz_4))) (And.intro (And.intro (@ze_4) (@zVv)) (And.intro (@zVw) (@zOz)))) (And.intro (And.intro (@zNv) (And.intro (@zNw) (@zOw))) (And.intro (And.intro (@zMv) (@zNz)) (And.intro (@zPv) (@zMy))))) (And.intro (And.intro (And.intro (@zMz) (And.intro (@zPw) (@yJy))) (And.intro (And.intro (@yIv) (@yFz)) (And.intro (@yMz) (@xFv)))) (And.intro (And.intro (@yCz) (And.intro (@yRy) (@xAv))) (And.intro (And.intro (@pb_52) (@ia_66)) (And.intro (@sz_66) (@yPx))))))
def bestC (o:Option (Stt × Int)):List AV:=match o with|none=>[.int .i64 0,.int .i64 0,.int .i64 0,.int .i64 0]|some p=>cellsS p.1
def lowC (o:Option (Stt × Int)):Int:=match o with|none=>0|some p=>p.2
theorem leastSt {B:H→Prop} {fv cv:AV} {ys:List Stt} {f:Stt→Int} (hd:HandsC Tryd.prog KK B fv (ys.map fun y=>[stv y])) (hcv:AV.cells cv=[cv]∧oneB cv=true) (hN0:0<ys.length) (h:H) (wf:Wf h) (hB : ∀ L w,w≤h.clock+L.length→B (X h L w))
    (hcost : ∀ y ∈ ys,∀ L w,w≤h.clock+L.length→callV Tryd.prog (om Tryd.prog KK) cv [stv y] (X h L w) = .ok (ii (f y)) (X h L w)) (p:Stt × Int) (hp:bst f ys=some p) :
    (om Tryd.prog KK).call (.fn 23 [fv,cv]) h = .ok (.tup [stv p.1,ii p.2]) h:=by
  refine zWv (zLv (fn:=Tryd.f23) Tryd.func23 rfl rfl rfl rfl rfl ?_)
  simp only [zKx]
  (repeat' (first
  | (with_reducible first|refine zJz ?_|refine zGw ?_|refine zEw ?_|refine zEx ?_|refine zEv ?_|refine zJy ?_|refine zGv ?_|refine zBw ?_|refine zDx ?_|refine zBv ?_|refine zCx ?_|refine zEz ?_|refine zCw ?_|refine zCz ?_|refine zBz ?_|refine zDv ?_|refine zDy ?_|refine zAx ?_|refine zAv ?_)
  | refine zCv ?_|refine zEy rfl ?_|refine zIw ?_|refine zIv ?_
  | ((first|refine zGx rfl rfl rfl rfl rfl fun K_ hK_=>?_|refine zGy rfl rfl rfl rfl rfl fun K_ hK_=>?_);simp only [zAz,zDz,zFw,↓reduceIte,reduceCtorEq,Nat.reduceEqDiff,Bool.not_true,Bool.not_false];refine hK_ _ ?_;clear hK_ K_)
  | refine zDw (by decide) ?_
  | ((try first|refine zJx rfl rfl rfl ?_|refine zIy rfl rfl ?_|refine zJv rfl rfl rfl ?_|refine zIx rfl rfl ?_);(refine zIz fun Q_ hQ_=>?_;simp (disch:=first|omega|(simp only [List.length_cons,List.length_nil,List.length_append];omega)) only [bb,bp,zKx,↓reduceIte,reduceCtorEq,Nat.reduceEqDiff,Nat.reduceLT,Nat.reduceLeDiff,Nat.reduceAdd,Nat.reduceMul,Nat.reduceSub,Nat.reduceBEq,Int.reduceToNat,cond_true,cond_false,eq_self,beq_self_eq_true,hcv.1,hcv.2,zHz wf,zHx wf,zFz wf,zHy wf,zBx wf,zFy,tEvbT14,zHw,zKy,zAw wf];first|(refine zCy (Q:=Q_) (fun hp_=>?_) (fun hp_=>?_) <;> first|(exfalso;omega)|(refine hQ_ _ _ ?_;clear hQ_ Q_))|(refine zBy (Q:=Q_) (fun hp_=>?_) (fun hp_=>?_) <;> first|(exfalso;omega)|(refine hQ_ _ _ ?_;clear hQ_ Q_))|(refine hQ_ _ _ ?_;clear hQ_ Q_)))
  | (refine zFv fun K_ hK_=>?_;simp (disch:=omega) only [zFx,zAz,zGz,↓reduceIte,reduceCtorEq,Nat.reduceEqDiff,Nat.reduceLT];refine hK_ _ ?_;clear hK_ K_)))
  refine yBv wf rfl (zFx (by decide)) fun o ho=>?_
  simp only [zAz,↓reduceIte,reduceCtorEq,Nat.reduceEqDiff,List.length_cons,List.length_nil,List.append_assoc,List.cons_append,List.nil_append,Nat.reduceAdd,List.length_append] at ho ⊢
  refine WV.mono (hd (nx h 6) _ (fun k hx=>∃ w0 st,bst f (ys.take k)=st∧hx=X h [.cells (zAy [cv]) 66,.cells (zAy [.int .i64 0,.int .i64 0,.int .i64 0,.int .i64 0]) 60,.cells (zAy (bestC st)) 60,.cells (zAy [ii (lowC st)]) 2,.cells (zAy [.bool (st).isSome]) 4,.dfr,o] w0∧w0≤h.clock+7) (fun _=>False) h.clock (fun _=>h.clock+7) (h.clock+7) (Nat.le_refl _) (Nat.le_add_right _ _) (fun _=>Nat.le_refl _) (Nat.le_refl _) ?_ (fun _ h=>h.elim) ?_ ⟨h.clock,none,rfl,rfl,by omega⟩) ?_
  · rintro k hx ⟨w0,st,hst,rfl,hw0⟩
    exact ⟨hB _ _ hw0,Same.X rfl⟩
  · rintro k x hx hbx J w ⟨w0,st,hst,rfl,hw0⟩ hlo hw
    rw [List.getElem?_map] at hx
    obtain ⟨y,hy1,rfl⟩:=Option.map_eq_some_iff.1 hx
    have hk:=zHv hy1
    have hyk:ys[k]=y:=by rw [List.getElem?_eq_getElem hk] at hy1;exact Option.some.inj hy1
    have hc:=hcost y (by rw [← hyk];exact List.getElem_mem hk)
    have hnew:=bst_take f ys k hk
    rw [hst,hyk] at hnew
    have hw':w≤h.clock+7+J.length:=hw
    rw [X_X]
    simp only [List.cons_append,List.nil_append]
    refine yIy wf (k:=6) rfl ho (setParams1 rfl) ?_
    unfold stv at hc ⊢
    (repeat' (first
  | (with_reducible first|refine zJz ?_|refine zGw ?_|refine zEw ?_|refine zEx ?_|refine zEv ?_|refine zJy ?_|refine zGv ?_|refine zBw ?_|refine zDx ?_|refine zBv ?_|refine zCx ?_|refine zEz ?_|refine zCw ?_|refine zCz ?_|refine zBz ?_|refine zDv ?_|refine zDy ?_|refine zAx ?_|refine zAv ?_)
  | refine zCv ?_|refine zEy rfl ?_|refine zIw ?_|refine zIv ?_
  | ((first|refine zGx rfl rfl rfl rfl rfl fun K_ hK_=>?_|refine zGy rfl rfl rfl rfl rfl fun K_ hK_=>?_);simp only [zAz,zDz,zFw,↓reduceIte,reduceCtorEq,Nat.reduceEqDiff,Bool.not_true,Bool.not_false];refine hK_ _ ?_;clear hK_ K_)
  | refine zDw (by decide) ?_
  | ((try first|refine zJx rfl rfl rfl ?_|refine zIy rfl rfl ?_|refine zJv rfl rfl rfl ?_|refine zIx rfl rfl ?_);(refine zIz fun Q_ hQ_=>?_;simp (disch:=first|omega|(simp only [List.length_cons,List.length_nil,List.length_append];omega)) only [bb,bp,zKx,↓reduceIte,reduceCtorEq,Nat.reduceEqDiff,Nat.reduceLT,Nat.reduceLeDiff,Nat.reduceAdd,Nat.reduceMul,Nat.reduceSub,Nat.reduceBEq,Int.reduceToNat,cond_true,cond_false,eq_self,beq_self_eq_true,zHz wf,zHx wf,zFz wf,zHy wf,zBx wf,zFy,tEvbT14,zHw,zKy,zAw wf];first|(refine zCy (Q:=Q_) (fun hp_=>?_) (fun hp_=>?_) <;> first|(exfalso;omega)|(refine hQ_ _ _ ?_;clear hQ_ Q_))|(refine zBy (Q:=Q_) (fun hp_=>?_) (fun hp_=>?_) <;> first|(exfalso;omega)|(refine hQ_ _ _ ?_;clear hQ_ Q_))|(refine hQ_ _ _ ?_;clear hQ_ Q_)))
  | (refine zFv fun K_ hK_=>?_;simp (disch:=omega) only [zFx,zAz,zGz,↓reduceIte,reduceCtorEq,Nat.reduceEqDiff,Nat.reduceLT];refine hK_ _ ?_;clear hK_ K_)))
    refine yPv wf (k:=6) rfl ho fun o' ho'=>?_
    simp only [List.set_cons_succ,List.set_cons_zero]
    match st,hst,hnew with
    | none,hst,hnew=>
      have hnew:bst f (ys.take (k+1))=some (y,f y):=hnew
      simp only [bestC,lowC,Option.isSome]
      (repeat' (first
  | (with_reducible first|refine zJz ?_|refine zGw ?_|refine zEw ?_|refine zEx ?_|refine zEv ?_|refine zJy ?_|refine zGv ?_|refine zBw ?_|refine zDx ?_|refine zBv ?_|refine zCx ?_|refine zEz ?_|refine zCw ?_|refine zCz ?_|refine zBz ?_|refine zDv ?_|refine zDy ?_|refine zAx ?_|refine zAv ?_)
  | refine zCv ?_|refine zEy rfl ?_|refine zIw ?_|refine zIv ?_
  | ((first|refine zGx rfl rfl rfl rfl rfl fun K_ hK_=>?_|refine zGy rfl rfl rfl rfl rfl fun K_ hK_=>?_);simp only [zAz,zDz,zFw,↓reduceIte,reduceCtorEq,Nat.reduceEqDiff,Bool.not_true,Bool.not_false];refine hK_ _ ?_;clear hK_ K_)
  | refine zDw (by decide) ?_
  | ((try first|refine zJx rfl rfl rfl ?_|refine zIy rfl rfl ?_|refine zJv rfl rfl rfl ?_|refine zIx rfl rfl ?_);(refine zIz fun Q_ hQ_=>?_;simp (disch:=first|omega|(simp only [List.length_cons,List.length_nil,List.length_append];omega)) only [bb,bp,zKx,↓reduceIte,reduceCtorEq,Nat.reduceEqDiff,Nat.reduceLT,Nat.reduceLeDiff,Nat.reduceAdd,Nat.reduceMul,Nat.reduceSub,Nat.reduceBEq,Int.reduceToNat,cond_true,cond_false,eq_self,beq_self_eq_true,hc,zHz wf,zHx wf,zFz wf,zHy wf,zBx wf,zFy,tEvbT14,zHw,zKy,zAw wf];first|(refine zCy (Q:=Q_) (fun hp_=>?_) (fun hp_=>?_) <;> first|(exfalso;omega)|(refine hQ_ _ _ ?_;clear hQ_ Q_))|(refine zBy (Q:=Q_) (fun hp_=>?_) (fun hp_=>?_) <;> first|(exfalso;omega)|(refine hQ_ _ _ ?_;clear hQ_ Q_))|(refine hQ_ _ _ ?_;clear hQ_ Q_)))
  | (refine zFv fun K_ hK_=>?_;simp (disch:=omega) only [zFx,zAz,zGz,↓reduceIte,reduceCtorEq,Nat.reduceEqDiff,Nat.reduceLT];refine hK_ _ ?_;clear hK_ K_)))
      refine yEz wf (k:=6) rfl ho' ?_
      simp only [List.set_cons_succ,List.set_cons_zero]
      rw [← ho]
      exact ⟨X h [.cells (zAy [cv]) 66,.cells (zAy [.int .i64 0,.int .i64 0,.int .i64 0,.int .i64 0]) 60,.cells (zAy (bestC (some (y,f y)))) 60,.cells (zAy [ii (lowC (some (y,f y)))]) 2,.cells (zAy [.bool ((some (y,f y))).isSome]) 4,.dfr,o] h.clock,[.cells (zAy [ii (y.i:Int),ii y.a,ii y.b,ii (y.s:Int)]) 60],_,by rw [X_X];rfl,Same.X rfl,by omega,by omega,.inl ⟨rfl,by omega,h.clock,(some (y,f y)),hnew,rfl,by omega⟩⟩
    | some (b,m),hst,hnew=>
      have hnew:bst f (ys.take (k+1))=(if f y<m then some (y,f y) else some (b,m)):=hnew
      simp only [bestC,lowC,Option.isSome,cellsS]
      (repeat' (first
  | (with_reducible first|refine zJz ?_|refine zGw ?_|refine zEw ?_|refine zEx ?_|refine zEv ?_|refine zJy ?_|refine zGv ?_|refine zBw ?_|refine zDx ?_|refine zBv ?_|refine zCx ?_|refine zEz ?_|refine zCw ?_|refine zCz ?_|refine zBz ?_|refine zDv ?_|refine zDy ?_|refine zAx ?_|refine zAv ?_)
  | refine zCv ?_|refine zEy rfl ?_|refine zIw ?_|refine zIv ?_
  | ((first|refine zGx rfl rfl rfl rfl rfl fun K_ hK_=>?_|refine zGy rfl rfl rfl rfl rfl fun K_ hK_=>?_);simp only [zAz,zDz,zFw,↓reduceIte,reduceCtorEq,Nat.reduceEqDiff,Bool.not_true,Bool.not_false];refine hK_ _ ?_;clear hK_ K_)
  | refine zDw (by decide) ?_
  | ((try first|refine zJx rfl rfl rfl ?_|refine zIy rfl rfl ?_|refine zJv rfl rfl rfl ?_|refine zIx rfl rfl ?_);(refine zIz fun Q_ hQ_=>?_;simp (disch:=first|omega|(simp only [List.length_cons,List.length_nil,List.length_append];omega)) only [bb,bp,zKx,↓reduceIte,reduceCtorEq,Nat.reduceEqDiff,Nat.reduceLT,Nat.reduceLeDiff,Nat.reduceAdd,Nat.reduceMul,Nat.reduceSub,Nat.reduceBEq,Int.reduceToNat,cond_true,cond_false,eq_self,beq_self_eq_true,hc,zHz wf,zHx wf,zFz wf,zHy wf,zBx wf,zFy,tEvbT14,zHw,zKy,zAw wf];first|(refine zCy (Q:=Q_) (fun hp_=>?_) (fun hp_=>?_) <;> first|(exfalso;omega)|(refine hQ_ _ _ ?_;clear hQ_ Q_))|(refine zBy (Q:=Q_) (fun hp_=>?_) (fun hp_=>?_) <;> first|(exfalso;omega)|(refine hQ_ _ _ ?_;clear hQ_ Q_))|(refine hQ_ _ _ ?_;clear hQ_ Q_)))
  | (refine zFv fun K_ hK_=>?_;simp (disch:=omega) only [zFx,zAz,zGz,↓reduceIte,reduceCtorEq,Nat.reduceEqDiff,Nat.reduceLT];refine hK_ _ ?_;clear hK_ K_)))
      · have hlt:f y<m:=by omega
        rw [if_pos hlt] at hnew
        refine yEz wf (k:=6) rfl ho' ?_
        simp only [List.set_cons_succ,List.set_cons_zero]
        rw [← ho]
        exact ⟨X h [.cells (zAy [cv]) 66,.cells (zAy [.int .i64 0,.int .i64 0,.int .i64 0,.int .i64 0]) 60,.cells (zAy (bestC (some (y,f y)))) 60,.cells (zAy [ii (lowC (some (y,f y)))]) 2,.cells (zAy [.bool ((some (y,f y))).isSome]) 4,.dfr,o] h.clock,[.cells (zAy [ii (y.i:Int),ii y.a,ii y.b,ii (y.s:Int)]) 60],_,by rw [X_X];rfl,Same.X rfl,by omega,by omega,.inl ⟨rfl,by omega,h.clock,(some (y,f y)),hnew,rfl,by omega⟩⟩
      · have hlt : ¬ f y<m:=by omega
        rw [if_neg hlt] at hnew
        refine yEz wf (k:=6) rfl ho' ?_
        simp only [List.set_cons_succ,List.set_cons_zero]
        rw [← ho]
        exact ⟨X h [.cells (zAy [cv]) 66,.cells (zAy [.int .i64 0,.int .i64 0,.int .i64 0,.int .i64 0]) 60,.cells (zAy (bestC (some (b,m)))) 60,.cells (zAy [ii (lowC (some (b,m)))]) 2,.cells (zAy [.bool ((some (b,m))).isSome]) 4,.dfr,o] h.clock,[.cells (zAy [ii (y.i:Int),ii y.a,ii y.b,ii (y.s:Int)]) 60],_,by rw [X_X];rfl,Same.X rfl,by omega,by omega,.inl ⟨rfl,by omega,h.clock,(some (b,m)),hnew,rfl,by omega⟩⟩
  · rintro v h' ⟨hz,J3,w3,rfl,hsz,hlo3,hw3,⟨⟨w2,st,hst,rfl,hw2⟩,hc3⟩|⟨hF,_⟩⟩
    · rw [List.length_map,List.take_length,hp] at hst
      subst hst
      have hw3':w3≤h.clock+7:=by simp only [X_w] at hw3;omega
      rw [X_X]
      simp only [List.cons_append,List.nil_append]
      refine zXx wf (k:=6) rfl ho (by decide) fun o6 ho6=>?_
      simp only [List.set_cons_succ,List.set_cons_zero,bestC,lowC,Option.isSome,cellsS]
      (repeat' (first
  | (with_reducible first|refine zJz ?_|refine zGw ?_|refine zEw ?_|refine zEx ?_|refine zEv ?_|refine zJy ?_|refine zGv ?_|refine zBw ?_|refine zDx ?_|refine zBv ?_|refine zCx ?_|refine zEz ?_|refine zCw ?_|refine zCz ?_|refine zBz ?_|refine zDv ?_|refine zDy ?_|refine zAx ?_|refine zAv ?_)
  | refine zCv ?_|refine zEy rfl ?_|refine zIw ?_|refine zIv ?_
  | ((first|refine zGx rfl rfl rfl rfl rfl fun K_ hK_=>?_|refine zGy rfl rfl rfl rfl rfl fun K_ hK_=>?_);simp only [zAz,zDz,zFw,↓reduceIte,reduceCtorEq,Nat.reduceEqDiff,Bool.not_true,Bool.not_false];refine hK_ _ ?_;clear hK_ K_)
  | refine zDw (by decide) ?_
  | ((try first|refine zJx rfl rfl rfl ?_|refine zIy rfl rfl ?_|refine zJv rfl rfl rfl ?_|refine zIx rfl rfl ?_);(refine zIz fun Q_ hQ_=>?_;simp (disch:=first|omega|(simp only [List.length_cons,List.length_nil,List.length_append];omega)) only [bb,bp,zKx,↓reduceIte,reduceCtorEq,Nat.reduceEqDiff,Nat.reduceLT,Nat.reduceLeDiff,Nat.reduceAdd,Nat.reduceMul,Nat.reduceSub,Nat.reduceBEq,Int.reduceToNat,cond_true,cond_false,eq_self,beq_self_eq_true,zHz wf,zHx wf,zFz wf,zHy wf,zBx wf,zFy,tEvbT14,zHw,zKy,zAw wf];first|(refine zCy (Q:=Q_) (fun hp_=>?_) (fun hp_=>?_) <;> first|(exfalso;omega)|(refine hQ_ _ _ ?_;clear hQ_ Q_))|(refine zBy (Q:=Q_) (fun hp_=>?_) (fun hp_=>?_) <;> first|(exfalso;omega)|(refine hQ_ _ _ ?_;clear hQ_ Q_))|(refine hQ_ _ _ ?_;clear hQ_ Q_)))
  | (refine zFv fun K_ hK_=>?_;simp (disch:=omega) only [zFx,zAz,zGz,↓reduceIte,reduceCtorEq,Nat.reduceEqDiff,Nat.reduceLT];refine hK_ _ ?_;clear hK_ K_)))
      refine zMw [.no,.no,.soft [7],.full] (by kernel_rfl) ?_
      (repeat' (first
  | (with_reducible first|refine zJz ?_|refine zGw ?_|refine zEw ?_|refine zEx ?_|refine zEv ?_|refine zJy ?_|refine zGv ?_|refine zBw ?_|refine zDx ?_|refine zBv ?_|refine zCx ?_|refine zEz ?_|refine zCw ?_|refine zCz ?_|refine zBz ?_|refine zDv ?_|refine zDy ?_|refine zAx ?_|refine zAv ?_)
  | refine zCv ?_|refine zEy rfl ?_|refine zIw ?_|refine zIv ?_
  | ((first|refine zGx rfl rfl rfl rfl rfl fun K_ hK_=>?_|refine zGy rfl rfl rfl rfl rfl fun K_ hK_=>?_);simp only [zAz,zDz,zFw,↓reduceIte,reduceCtorEq,Nat.reduceEqDiff,Bool.not_true,Bool.not_false];refine hK_ _ ?_;clear hK_ K_)
  | refine zDw (by decide) ?_
  | ((try first|refine zJx rfl rfl rfl ?_|refine zIy rfl rfl ?_|refine zJv rfl rfl rfl ?_|refine zIx rfl rfl ?_);(refine zIz fun Q_ hQ_=>?_;simp (disch:=first|omega|(simp only [List.length_cons,List.length_nil,List.length_append];omega)) only [bb,bp,zKx,↓reduceIte,reduceCtorEq,Nat.reduceEqDiff,Nat.reduceLT,Nat.reduceLeDiff,Nat.reduceAdd,Nat.reduceMul,Nat.reduceSub,Nat.reduceBEq,Int.reduceToNat,cond_true,cond_false,eq_self,beq_self_eq_true,zHz wf,zHx wf,zFz wf,zHy wf,zBx wf,zFy,tEvbT14,zHw,zKy,zAw wf];first|(refine zCy (Q:=Q_) (fun hp_=>?_) (fun hp_=>?_) <;> first|(exfalso;omega)|(refine hQ_ _ _ ?_;clear hQ_ Q_))|(refine zBy (Q:=Q_) (fun hp_=>?_) (fun hp_=>?_) <;> first|(exfalso;omega)|(refine hQ_ _ _ ?_;clear hQ_ Q_))|(refine hQ_ _ _ ?_;clear hQ_ Q_)))
  | (refine zFv fun K_ hK_=>?_;simp (disch:=omega) only [zFx,zAz,zGz,↓reduceIte,reduceCtorEq,Nat.reduceEqDiff,Nat.reduceLT];refine hK_ _ ?_;clear hK_ K_)))
      refine zIx rfl rfl (WV_soft (v:=.tup []) (by
        rw [x_store,zFx (by decide),on1_ok,zFx (by decide),on1_ok]
        simp only [zAz,↓reduceIte,reduceCtorEq,Nat.reduceEqDiff]
        rw [marked_X,xHv (old:=[.int .i64 0,.int .i64 0,.int .i64 0,.int .i64 0]) (ee:=60) wf zUy (by decide) rfl rfl rfl rfl]
        rfl) (barOk_store1 (by simp only [zAz,↓reduceIte,reduceCtorEq,Nat.reduceEqDiff];rfl) (by simp only [zAz,↓reduceIte,reduceCtorEq,Nat.reduceEqDiff];rfl) (nx_ne (by decide)) (by decide) (by decide)) ?_)
      (repeat' (first
  | (with_reducible first|refine zJz ?_|refine zGw ?_|refine zEw ?_|refine zEx ?_|refine zEv ?_|refine zJy ?_|refine zGv ?_|refine zBw ?_|refine zDx ?_|refine zBv ?_|refine zCx ?_|refine zEz ?_|refine zCw ?_|refine zCz ?_|refine zBz ?_|refine zDv ?_|refine zDy ?_|refine zAx ?_|refine zAv ?_)
  | refine zCv ?_|refine zEy rfl ?_|refine zIw ?_|refine zIv ?_
  | ((first|refine zGx rfl rfl rfl rfl rfl fun K_ hK_=>?_|refine zGy rfl rfl rfl rfl rfl fun K_ hK_=>?_);simp only [zAz,zDz,zFw,↓reduceIte,reduceCtorEq,Nat.reduceEqDiff,Bool.not_true,Bool.not_false];refine hK_ _ ?_;clear hK_ K_)
  | refine zDw (by decide) ?_
  | ((try first|refine zJx rfl rfl rfl ?_|refine zIy rfl rfl ?_|refine zJv rfl rfl rfl ?_|refine zIx rfl rfl ?_);(refine zIz fun Q_ hQ_=>?_;simp (disch:=first|omega|(simp only [List.length_cons,List.length_nil,List.length_append];omega)) only [bb,bp,zKx,↓reduceIte,reduceCtorEq,Nat.reduceEqDiff,Nat.reduceLT,Nat.reduceLeDiff,Nat.reduceAdd,Nat.reduceMul,Nat.reduceSub,Nat.reduceBEq,Int.reduceToNat,cond_true,cond_false,eq_self,beq_self_eq_true,zHz wf,zHx wf,zFz wf,zHy wf,zBx wf,zFy,tEvbT14,zHw,zKy,zAw wf];first|(refine zCy (Q:=Q_) (fun hp_=>?_) (fun hp_=>?_) <;> first|(exfalso;omega)|(refine hQ_ _ _ ?_;clear hQ_ Q_))|(refine zBy (Q:=Q_) (fun hp_=>?_) (fun hp_=>?_) <;> first|(exfalso;omega)|(refine hQ_ _ _ ?_;clear hQ_ Q_))|(refine hQ_ _ _ ?_;clear hQ_ Q_)))
  | (refine zFv fun K_ hK_=>?_;simp (disch:=omega) only [zFx,zAz,zGz,↓reduceIte,reduceCtorEq,Nat.reduceEqDiff,Nat.reduceLT];refine hK_ _ ?_;clear hK_ K_)))
      refine zJw _ _ (yGv wf (k:=5) rfl) (retc1 (by decide) (by decide) (by simp (disch:=first|omega|(simp only [List.length_cons,List.length_nil,List.length_append];omega)) only [bb,bp,zKx,↓reduceIte,reduceCtorEq,Nat.reduceEqDiff,Nat.reduceLT,Nat.reduceLeDiff,Nat.reduceAdd,Nat.reduceMul,Nat.reduceSub,Nat.reduceBEq,Int.reduceToNat,cond_true,cond_false,eq_self,beq_self_eq_true,zFz wf,tEvbT14,zHw,zKy,zAw wf];rfl)) ?_
      simp only [zAz,↓reduceIte,reduceCtorEq,Nat.reduceEqDiff]
      refine zLx rfl (by omega) ?_
      exact ⟨rfl,rfl⟩
    · exact hF.elim
end Go.Proofs.YtkmdidplmfdikabDoor
end

section
namespace Go.Ev
section
variable {P:Program}
theorem append_full {h0:H} (wf:Wf h0) {t e size bytes k len:Nat} {z x:AV} (hu:P.underlying t=some (.slice e)) (hz:sizeE P e=some size) (E:El P e size bytes z) {n:Nat} {new old:List AV} {l:List AO} {w e':Nat} (hn:len+n≤10000000) (hn0:n≠0) (hb:bytes≤100000)
    (hk:l[k]? = some (.cells (zAy old) e')) (ho:old.length=len * size) (hs:srcCells (X h0 l w) size x=some (n,new)) (hc:new.length=n * size):appendE P t (.sl (nx h0 k) 0 len (some len) size) x (X h0 l w) = .ok (.sl (nx h0 l.length) 0 (len+n) none size) (X h0 (l++[.cells (zAy (old++new)) e]) w):=by
  unfold appendE
  rw [hu];dsimp only;rw [hz];dsimp only;rw [hs];dsimp only
  rw [show Nat.beq n 0=false from by cases hb:Nat.beq n 0 with|false=>rfl|true=>exact absurd (Nat.eq_of_beq_eq_true hb) hn0]
  show appendSome P e size n new (.sl (nx h0 k) 0 len (some len) size) (X h0 l w)=_
  unfold appendSome
  dsimp only
  rw [show Nat.beq size size=true from Nat.beq_refl size]
  dsimp only [cond]
  rw [show Nat.ble (Nat.add len n) len=false from by
    cases hb:Nat.ble (Nat.add len n) len with
    | false=>rfl
    | true=>exact absurd (Nat.le_of_ble_eq_true hb) (by show ¬ len+n≤len;omega)]
  dsimp only [cond]
  rw [show readCells (X h0 l w) (nx h0 k) 0 (len * size)=some old from by
    unfold readCells
    rw [zQv wf,hk]
    show readM _ (len * size) 0=some old
    rw [yCv _ _ _ (by omega),List.drop_zero,List.take_of_length_le (by omega)]]
  dsimp only
  rw [zLy,show Nat.add len n=len+n from rfl]
  exact growE_X wf E hn hb (by rw [List.length_append,ho,hc,Nat.add_mul])
def LineV (h:H) (L:List AO) (e:TypeId) (lv:AV) (cs:List AV):Prop:=∃ idx c,lv = .sl (nx h idx) 0 cs.length c 1∧L[idx]? = some (.cells (zAy cs) e)∧(c=none∨c=some cs.length)
theorem LineV.flat {h:H} {L:List AO} {e:TypeId} {lv:AV} {cs:List AV} (x:LineV h L e lv cs):AV.cells lv=[lv]∧oneB lv=true:=by obtain ⟨_,_,rfl,_⟩:=x;exact ⟨rfl,rfl⟩
theorem LineV.resz {h:H} {L:List AO} {e:TypeId} {lv:AV} {cs:List AV} (x:LineV h L e lv cs) {t:TypeId} (hu:P.underlying t=some (.slice e)) (hz:sizeE P e=some 1):reszT P t lv=lv:=by
  obtain ⟨_,c,rfl,_,hc⟩:=x
  cases c with
  | none=>exact yCw
  | some c=>exact yAx hu hz
theorem LineV.sl {h:H} (wf:Wf h) {L:List AO} {e:TypeId} {lv:AV} {cs:List AV} (x:LineV h L e lv cs) (w:Nat):Sl (X h L w) lv 1 cs.length cs:=by
  obtain ⟨idx,c,rfl,hk,hc⟩:=x
  exact Sl.new wf (by rw [Nat.mul_one]) hk
theorem LineV.app {h:H} (wf:Wf h) {L:List AO} {e bytes:Nat} {z lv v:AV} {cs:List AV} (x:LineV h L e lv cs) {t:TypeId} (hu:P.underlying t=some (.slice e)) (hz:sizeE P e=some 1) (E:El P e 1 bytes z) (hn:cs.length≤1000000) (hb:bytes≤100000) (hv:oneB v=true) (c:Nat) (w:Nat) (hw:h.clock≤w) :
    ∃ lv' L' o w',Chg e L L'∧LineV h (L'++[.cells (zAy [v]) e,o]) e lv' (cs++[v])∧h.clock≤w'∧w'≤w∧appendE P t lv (.sl (nx h L.length) 0 1 (some c) 1) (X h (L++[.cells (zAy [v]) e]) w) = .ok lv' (X h (L'++[.cells (zAy [v]) e,o]) w'):=by
  obtain ⟨idx,c0,rfl,hk,hc⟩:=x
  have hkl:=zHv hk
  have hk':(L++[.cells (zAy [v]) e])[idx]? = some (.cells (zAy cs) e):=by rw [List.getElem?_append_left hkl];exact hk
  have hs:srcCells (X h (L++[.cells (zAy [v]) e]) w) 1 (.sl (nx h L.length) 0 1 (some c) 1)=some (1,[v]):=xEy (e:=e) wf (by rw [zNx];rfl) rfl
  have hlen:(L++[AO.cells (zAy [v]) e]).length=L.length+1:=by rw [List.length_append];rfl
  rcases hc with rfl|rfl
  · refine ⟨_,L.set idx .dead,.cells (zAy (cs++[v])) e,min (h.clock+idx) w,⟨by simp,fun k o hk2 hno=>?_⟩,⟨L.length+1,none,rfl,?_,.inl rfl⟩,?_,?_,?_⟩
    rotate_right 1
    · rw [yOv wf hu hz E (by omega) (by decide) hb hk' (by rw [Nat.mul_one]) hs rfl (by rw [zYv,hv];rfl),hlen,List.set_append_left _ _ hkl,List.append_assoc,List.length_append]
      rfl
    · have hne:idx≠k:=fun e1=>by
        subst e1
        rw [hk] at hk2
        cases hk2
        exact hno _ rfl
      rw [List.getElem?_set_ne hne];exact hk2
    · rw [List.getElem?_append_right (by simp),List.length_set,Nat.add_sub_cancel_left];rfl
    · omega
    · omega
  · refine ⟨_,L,.cells (zAy (cs++[v])) e,w,Chg.rfl' _,⟨L.length+1,none,rfl,?_,.inl rfl⟩,?_,?_,?_⟩
    rotate_right 1
    · rw [append_full wf hu hz E (by omega) (by decide) hb hk' (by rw [Nat.mul_one]) hs rfl,hlen,List.append_assoc,List.length_append]
      rfl
    · rw [List.getElem?_append_right (by omega),Nat.add_sub_cancel_left];rfl
    · exact hw
    · exact Nat.le_refl _
end
end Go.Ev
namespace Go.Ev
theorem LineV.keep {h:H} {L L':List AO} {e:TypeId} {lv:AV} {cs:List AV} (x:LineV h L e lv cs) (k:Keep e L L'):LineV h L' e lv cs:=by
  obtain ⟨idx,c,rfl,hk,hc⟩:=x
  exact ⟨idx,c,rfl,k _ _ hk,hc⟩
end Go.Ev
namespace Go.Ev
theorem LineV.chg {h:H} {L L':List AO} {e t:TypeId} {lv:AV} {cs:List AV} (x:LineV h L e lv cs) (k:Chg t L L') (hne:e≠t):LineV h L' e lv cs:=by
  obtain ⟨idx,c,rfl,hk,hc⟩:=x
  exact ⟨idx,c,rfl,k.2 _ _ hk (zQz hne),hc⟩
theorem LineV.down {h:H} {G M:List AO} {w:Nat} {e:TypeId} {lv:AV} {cs:List AV} (x:LineV (X h G w) M e lv cs):LineV h (G++M) e lv cs:=by
  obtain ⟨idx,c,rfl,hk,hc⟩:=x
  exact ⟨G.length+idx,c,by rw [nx_X],by rw [List.getElem?_append_right (by omega),Nat.add_sub_cancel_left];exact hk,hc⟩
def LV (h:H) (G:List AO) (vs:List AV) (ls:List (List Int)):Prop:=vs.length=ls.length ∧ ∀ (i:Nat) (u:AV) (l:List Int),vs[i]? = some u→ls[i]? = some l→LineV h G 2 u (l.map fun n=>.int .i64 n)
theorem LV.nil (h:H) (G:List AO):LV h G [] []:=⟨rfl,fun i u l h1 _=>by simp at h1⟩
theorem LV.append {h:H} {G:List AO} {vs us:List AV} {ls ms:List (List Int)} (x:LV h G vs ls) (y:LV h G us ms):LV h G (vs++us) (ls++ms):=by
  refine ⟨by rw [List.length_append,List.length_append,x.1,y.1],fun i u l h1 h2=>?_⟩
  rcases Nat.lt_or_ge i vs.length with hi|hi
  · rw [List.getElem?_append_left hi] at h1
    rw [List.getElem?_append_left (by rw [← x.1];exact hi)] at h2
    exact x.2 i u l h1 h2
  · rw [List.getElem?_append_right hi] at h1
    rw [List.getElem?_append_right (by rw [← x.1];exact hi),← x.1] at h2
    exact y.2 _ u l h1 h2
theorem LV.all {h:H} {G:List AO} {vs:List AV} {ls:List (List Int)} (x:LV h G vs ls):allOne vs=true:=by
  have key : ∀ vs:List AV,(∀ u ∈ vs,oneB u=true)→allOne vs=true:=by
    intro vs
    induction vs with
    | nil=>intro _;rfl
    | cons u vs ih=>intro hu;rw [zYv,hu u (by simp),ih fun w hw=>hu w (by simp [hw])];rfl
  refine key vs fun u hu=>?_
  obtain ⟨i,hi⟩:=List.getElem?_of_mem hu
  have hl:=zHv hi
  exact (x.2 i u _ hi (List.getElem?_eq_getElem (by rw [← x.1];exact hl))).flat.2
theorem LV.mono {h:H} {G G':List AO} {vs:List AV} {ls:List (List Int)} (x:LV h G vs ls) (k : ∀ u cs,LineV h G 2 u cs→LineV h G' 2 u cs):LV h G' vs ls:=⟨x.1,fun i u l h1 h2=>k _ _ (x.2 i u l h1 h2)⟩
theorem LineV.more {h:H} {L:List AO} {e:TypeId} {lv:AV} {cs:List AV} (x:LineV h L e lv cs) (M:List AO):LineV h (L++M) e lv cs:=x.keep (Keep.more _ _)
end Go.Ev
namespace Go.Ev
end Go.Ev
end

section
namespace Go.Proofs.YtkmdidplmfdikabDoor
open Go.Ev
set_option maxRecDepth 100000
set_option linter.unusedSimpArgs false
set_option linter.unusedVariables false
set_option maxHeartbeats 2000000

theorem tEvbT15 :type_of% (And.intro (And.intro (And.intro (And.intro (And.intro (@zSz) (And.intro (@bs_53) (@bs_56))) (And.intro (@ia_2) (And.intro (@sz_2) (@ze_2)))) (And.intro (And.intro (@ia_3) (And.intro (@sz_3) (@zTz))) (And.intro (@zUw) (And.intro (@zRw) (@zPw))))) (And.intro (And.intro (And.intro (@zVx) (And.intro (@zUy) (@zVy))) (And.intro (@zXv) (And.intro (@zXw) (@ze_53)))) (And.intro (And.intro (@zTy) (And.intro (@zSv) (@zRv))) (And.intro (@zXz) (And.intro (@zTw) (@yJw)))))) (And.intro (And.intro (And.intro (And.intro (@sz_54) (And.intro (@yJx) (@yJz))) (And.intro (@yVw) (And.intro (@yFy) (@yEx)))) (And.intro (And.intro (@xMv) (And.intro (@zVv) (@zVw))) (And.intro (@zPv) (And.intro (@zMy) (@zMz))))) (And.intro (And.intro (And.intro (@zMv) (And.intro (@zOz) (@zNv))) (And.intro (@zNw) (And.intro (@yPy) (@pb_21)))) (And.intro (And.intro (@xFv) (And.intro (@pb_23) (@pb_24))) (And.intro (And.intro (@yRy) (@xBz)) (And.intro (@pb_27) (@wBy))))))):=And.intro (And.intro (And.intro (And.intro (And.intro (@zSz) (And.intro (@bs_53) (@bs_56))) (And.intro (@ia_2) (And.intro (@sz_2) (@ze_2)))) (And.intro (And.intro (@ia_3) (And.intro (@sz_3) (@zTz))) (And.intro (@zUw) (And.intro (@zRw) (@zPw))))) (And.intro (And.intro (And.intro (@zVx) (And.intro (@zUy) (@zVy))) (And.intro (@zXv) (And.intro (@zXw) (@ze_53)))) (And.intro (And.intro (@zTy) (And.intro (@zSv) (@zRv))) (And.intro (@zXz) (And.intro (@zTw) (@yJw)))))) (And.intro (And.intro (And.intro (And.intro (@sz_54) (And.intro (@yJx) (@yJz))) (And.intro (@yVw) (And.intro (@yFy) (@yEx)))) (And.intro (And.intro (@xMv) (And.intro (@zVv) (@zVw))) (And.intro (@zPv) (And.intro (@zMy) (@zMz))))) (And.intro (And.intro (And.intro (@zMv) (And.intro (@zOz) (@zNv))) (And.intro (@zNw) (And.intro (@yPy) (@pb_21)))) (And.intro (And.intro (@xFv) (And.intro (@pb_23) (@pb_24))) (And.intro (And.intro (@yRy) (@xBz)) (And.intro (@pb_27) (@wBy))))))
theorem bst_map {α β : Type} (g : α → β) (f : β → Int) (xs:List α):bst f (xs.map g)=(bst (fun x=>f (g x)) xs).map fun p=>(g p.1,p.2):=by
  have key : ∀ (xs:List α) (o:Option (α × Int)),(xs.map g).foldl (bstep f) (o.map fun p=>(g p.1,p.2))=(xs.foldl (bstep fun x=>f (g x)) o).map fun p=>(g p.1,p.2):=by
    intro xs
    induction xs with
    | nil=>intro o;rfl
    | cons x xs ih=>
      intro o
      rw [List.map_cons,List.foldl_cons,List.foldl_cons,← ih]
      congr 1
      cases o with
      | none=>rfl
      | some p=>
        show (if f (g x)<p.2 then some (g x,f (g x)) else some (g p.1,p.2))=Option.map _ (if f (g x)<p.2 then some (x,f (g x)) else some (p.1,p.2))
        split <;> rfl
  exact key xs none
theorem payStep (A:AV) (turn:Int) (ht:0≤turn∧turn≤1000000):StepOK (.fn 22 [.agg [A,ii turn]] []) (payI turn) where
  flat:=⟨rfl,rfl⟩
  run:=fun x c hi ha hb hc h wf=>by
    rw [yFx,xFv]
    exact pay turn ht A x c hi ha hb hc h wf
  le:=fun a b s c ha hb hc=>pay_in ht ha hb hc
theorem yQw {sp:List (Int × Int)} (hsp:SpotsOK sp) {y:Stt} (hy:y ∈ startsL sp):y.Ok sp:=by
  have n2:=hsp.n2
  unfold startsL at hy
  obtain ⟨p,hp,rfl⟩:=List.mem_map.1 hy
  obtain ⟨h1,h2⟩:=xGx.1 hp
  exact ⟨⟨Nat.le_refl _,by show 1<sp.length;omega⟩,h1,h2,by show 0<3;decide⟩
theorem first_state {pf:Int→Int→Int→Int→Int} {sp:List (Int × Int)} (hsp:SpotsOK sp) : ∃ p:Int × Int,bst (dueS pf sp) (startsL sp)=some (⟨1,p.1,p.2,0⟩,(fairL pf sp).2)∧(⟨1,p.1,p.2,0⟩:Stt) ∈ startsL sp∧(fairL pf sp).1=p.1 :: p.2 :: greedy pf (sp.drop 2) p.1 p.2 0:=by
  have n2:=hsp.n2
  obtain ⟨_,_,h0,_⟩:=hsp.at (i:=0) (by omega)
  obtain ⟨_,_,h1,_⟩:=hsp.at (i:=1) (by omega)
  have e:sp=spot sp 0 :: spot sp 1 :: sp.drop 2:=by
    have e1:=xCx (sp:=sp) (i:=0) (by omega)
    have e2:=xCx (sp:=sp) (i:=1) (by omega)
    rw [List.drop_zero,e2] at e1
    exact e1
  obtain ⟨p,hb,hf⟩:=begins_spec (turn:=pf) (R:=sp.drop 2) h0 h1
  have hbst:bst (fun p:Int × Int=>dueI pf (sp.drop 2) p.1 p.2 0) (pairs2 (spot sp 0) (spot sp 1))=some (p,dueI pf (sp.drop 2) p.1 p.2 0):=by
    obtain ⟨q,e2,hq⟩:=xDy (fun p:Int × Int=>dueI pf (sp.drop 2) p.1 p.2 0) (pairs2 (spot sp 0) (spot sp 1)) (fun e3=>by have:=hf.mem;rw [e3] at this;cases this)
    have e4:begins pf (spot sp 0) (spot sp 1) (sp.drop 2)=(q,dueI pf (sp.drop 2) q.1 q.2 0):=by unfold begins;rw [e2];rfl
    rw [hb] at e4
    cases e4
    exact e2
  have hfl:fairL pf sp=(p.1 :: p.2 :: greedy pf (sp.drop 2) p.1 p.2 0,dueI pf (sp.drop 2) p.1 p.2 0):=by
    conv=>lhs;rw [e]
    show ((begins pf (spot sp 0) (spot sp 1) (sp.drop 2)).1.1 :: (begins pf (spot sp 0) (spot sp 1) (sp.drop 2)).1.2 :: greedy pf (sp.drop 2) (begins pf (spot sp 0) (spot sp 1) (sp.drop 2)).1.1 (begins pf (spot sp 0) (spot sp 1) (sp.drop 2)).1.2 0,(begins pf (spot sp 0) (spot sp 1) (sp.drop 2)).2)=_
    rw [hb]
  refine ⟨p,?_,List.mem_map.2 ⟨p,hf.mem,rfl⟩,by rw [hfl]⟩
  unfold startsL
  rw [bst_map,hfl]
  show Option.map _ (bst (fun p:Int × Int=>dueI pf (sp.drop 2) p.1 p.2 0) (pairs2 (spot sp 0) (spot sp 1)))=_
  rw [hbst];rfl

theorem onwS_mem {pf:Int→Int→Int→Int→Int} {sp:List (Int × Int)} {x:Stt} (hi:x.i+1<sp.length) (hr:(spot sp (x.i+1)).1≤(spot sp (x.i+1)).2):(spot sp (x.i+1)).1≤(onwS pf sp x).1∧(onwS pf sp x).1≤(spot sp (x.i+1)).2:=by
  have e:=onwS_step (pf:=pf) hi hr
  obtain ⟨b,e2,hf⟩:=xDy (fun c=>pf x.a x.b x.s c+dueS pf sp (nxt x c)) (offs (spot sp (x.i+1))) (offs_ne hr)
  rw [e2] at e
  have e3:onwS pf sp x=(b,pf x.a x.b x.s b+dueS pf sp (nxt x b)):=(Option.some.inj e).symm
  rw [e3]
  exact zXy.1 hf.mem
theorem greedy_step {pf:Int→Int→Int→Int→Int} {sp:List (Int × Int)} {x:Stt} (hi:x.i+1<sp.length):greedy pf (sp.drop (x.i+1)) x.a x.b x.s=(onwS pf sp x).1 :: greedy pf (sp.drop ((nxt x (onwS pf sp x).1).i+1)) (nxt x (onwS pf sp x).1).a (nxt x (onwS pf sp x).1).b (nxt x (onwS pf sp x).1).s:=by
  rw [nxt_s]
  show _=_ :: greedy pf (sp.drop (x.i+1+1)) x.b (onwS pf sp x).1 _
  unfold onwS
  rw [xCx hi]
  rfl
theorem greedy_end {pf:Int→Int→Int→Int→Int} {sp:List (Int × Int)} {x:Stt} (hi:x.i+1=sp.length):greedy pf (sp.drop (x.i+1)) x.a x.b x.s=[]:=by
  rw [hi,List.drop_length];rfl

theorem fairest (sp:List (Int × Int)) (hsp:SpotsOK sp) (a:AV) (turn:Int) (hturn:0≤turn∧turn≤1000000) (h:H) (wf:Wf h) (ht:TabF h) (hs:Sl h a 2 sp.length (zKv sp)) :
    WV ((om Tryd.prog KK).call (.fn 9 [.agg [a,ii turn]]) h) fun v h'=>∃ (L:List AO) (lv:AV),v = .tup [lv,ii (fairL (payI turn) sp).2,ii 0]∧h'=X h L h.w∧LineV h L 2 lv ((fairL (payI turn) sp).1.map ii):=by
  have n2:=hsp.n2
  have n24:=hsp.n24
  have S:=payStep a turn hturn
  have hR0:spotsR sp turn=0:=by
    unfold spotsR;rw [if_neg (by omega),if_pos ⟨hsp.ok,hturn⟩]
  have hlen : ∀ h',lenE Tryd.prog 22 a h'=some (ii (sp.length:Int)):=fun h'=>hs.len yIw
  have ha1:oneB a=true∧AV.cells a=[a]:=by obtain ⟨_,⟨rfl,_⟩|⟨_,_,_,_,_,_,rfl,_⟩⟩:=hs <;> exact ⟨rfl,rfl⟩
  have hCS : ∀ l w,w≤h.clock+l.length→(om Tryd.prog KK).call (.fn 20 [.agg [a,ii turn]]) (X h l w) = .ok (ii 0) (X h l w):=fun l w hw=>by
    have:=CheckSpots sp turn a (by omega) _ (wf.X hw) (hs.up wf _ _)
    rw [hR0] at this;exact this
  refine zLv (fn:=Tryd.f9) Tryd.func9 rfl rfl rfl rfl rfl ?_
  simp only [zKx]
  obtain ⟨v,h',e1,L,k,Tb,rfl,rfl,hk,hTl,hTb,hgood⟩:=due S sp hsp a turn (X h [.cells (zAy [a,ii turn]) 24,.cells (zAy [a,ii turn]) 53] h.clock) (wf.X (by omega)) (ht.up wf _ _) (hs.up wf _ _)
  have hkl:=zHv hk
  rw [X_X,nx_X,X_w] at e1
  simp only [List.length_cons,List.length_nil,Nat.reduceAdd,List.cons_append,List.nil_append] at e1
  unfold prv at e1
  (repeat' (first
  | (with_reducible first|refine zJz ?_|refine zGw ?_|refine zEw ?_|refine zEx ?_|refine zEv ?_|refine zJy ?_|refine zGv ?_|refine zBw ?_|refine zDx ?_|refine zBv ?_|refine zCx ?_|refine zEz ?_|refine zCw ?_|refine zCz ?_|refine zBz ?_|refine zDv ?_|refine zDy ?_|refine zAx ?_|refine zAv ?_)
  | refine zCv ?_|refine zEy rfl ?_|refine zIw ?_|refine zIv ?_
  | ((first|refine zGx rfl rfl rfl rfl rfl fun K_ hK_=>?_|refine zGy rfl rfl rfl rfl rfl fun K_ hK_=>?_);simp only [zAz,zDz,zFw,↓reduceIte,reduceCtorEq,Nat.reduceEqDiff,Bool.not_true,Bool.not_false];refine hK_ _ ?_;clear hK_ K_)
  | refine zDw (by decide) ?_
  | ((try first|refine zJx rfl rfl rfl ?_|refine zIy rfl rfl ?_|refine zJv rfl rfl rfl ?_|refine zIx rfl rfl ?_);(refine zIz fun Q_ hQ_=>?_;simp (disch:=first|omega|(simp only [List.length_cons,List.length_nil,List.length_append];omega)) only [bb,bp,zKx,↓reduceIte,reduceCtorEq,Nat.reduceEqDiff,Nat.reduceLT,Nat.reduceLeDiff,Nat.reduceAdd,Nat.reduceMul,Nat.reduceSub,Nat.reduceBEq,Int.reduceToNat,cond_true,cond_false,eq_self,beq_self_eq_true,hlen,hCS,e1,ha1.1,ha1.2,zHz wf,zHx wf,zFz wf,zHy wf,zBx wf,zFy,tEvbT15,zHw,zKy,zAw wf];first|(refine zCy (Q:=Q_) (fun hp_=>?_) (fun hp_=>?_) <;> first|(exfalso;omega)|(refine hQ_ _ _ ?_;clear hQ_ Q_))|(refine zBy (Q:=Q_) (fun hp_=>?_) (fun hp_=>?_) <;> first|(exfalso;omega)|(refine hQ_ _ _ ?_;clear hQ_ Q_))|(refine hQ_ _ _ ?_;clear hQ_ Q_)))
  | (refine zFv fun K_ hK_=>?_;simp (disch:=omega) only [zFx,zAz,zGz,↓reduceIte,reduceCtorEq,Nat.reduceEqDiff,Nat.reduceLT];refine hK_ _ ?_;clear hK_ K_)))
  obtain ⟨p,hbst,hmem,hline⟩:=first_state (pf:=payI turn) hsp
  have est : ∀ w,w≤h.clock+(L.length+3)→(om Tryd.prog KK).call (.fn 24 [.agg [a,ii turn]]) (X h (.cells (zAy [a,ii turn]) 24 :: .cells (zAy [a,ii turn]) 53 :: (L++[.cells (zAy [a,ii turn,.sl (nx h (2+k)) 0 (sp.length - 1) (some (sp.length - 1)) 75]) 56])) w) = .ok (.fn 48 [] [.ptr (nx h (L.length+1+1+1)) 0]) (X h (.cells (zAy [a,ii turn]) 24 :: .cells (zAy [a,ii turn]) 53 :: (L++[.cells (zAy [a,ii turn,.sl (nx h (2+k)) 0 (sp.length - 1) (some (sp.length - 1)) 75]) 56,.cells (zAy [a,ii turn]) 53])) w):=fun w hw=>by
    have:=starts a turn h wf (.cells (zAy [a,ii turn]) 24 :: .cells (zAy [a,ii turn]) 53 :: (L++[.cells (zAy [a,ii turn,.sl (nx h (2+k)) 0 (sp.length - 1) (some (sp.length - 1)) 75]) 56])) w (by simp only [List.length_append,List.length_cons,List.length_nil];omega)
    simpa only [List.length_cons,List.length_append,List.length_nil,List.cons_append,List.append_assoc,List.nil_append,Nat.zero_add] using this
  have hle : ∀ w,w≤h.clock+(L.length+4)→(om Tryd.prog KK).call (.fn 23 [.fn 48 [] [.ptr (nx h (L.length+1+1+1)) 0],.fn 25 [.agg [a,ii turn,.sl (nx h (2+k)) 0 (sp.length - 1) (some (sp.length - 1)) 75]] []]) (X h (.cells (zAy [a,ii turn]) 24 :: .cells (zAy [a,ii turn]) 53 :: (L++[.cells (zAy [a,ii turn,.sl (nx h (2+k)) 0 (sp.length - 1) (some (sp.length - 1)) 75]) 56,.cells (zAy [a,ii turn]) 53])) w) = .ok (.tup [stv ⟨1,p.1,p.2,0⟩,ii (fairL (payI turn) sp).2]) (X h (.cells (zAy [a,ii turn]) 24 :: .cells (zAy [a,ii turn]) 53 :: (L++[.cells (zAy [a,ii turn,.sl (nx h (2+k)) 0 (sp.length - 1) (some (sp.length - 1)) 75]) 56,.cells (zAy [a,ii turn]) 53])) w):=fun w hw=>by
    have hww:w≤h.clock+(.cells (zAy [a,ii turn]) 24 :: .cells (zAy [a,ii turn]) 53 :: (L++[.cells (zAy [a,ii turn,.sl (nx h (2+k)) 0 (sp.length - 1) (some (sp.length - 1)) 75]) 56,.cells (zAy [a,ii turn]) 53]):List AO).length:=by simp only [List.length_append,List.length_cons,List.length_nil];omega
    refine leastSt (f:=dueS (payI turn) sp) (ys:=startsL sp) (starts1 (nx h (L.length+1+1+1)) a turn sp ⟨n2,by omega⟩ hsp.ok) ⟨rfl,rfl⟩ (List.length_pos_of_mem hmem) _ (wf.X hww) (fun L2 w2 hw2=>?_) (fun y hy L2 w2 hw2=>?_) _ hbst
    · rw [X_X]
      simp only [zQx,List.length_append,List.length_cons,List.length_nil] at hw2
      refine DrIn.of wf (k:=L.length+1+1+1) (by simp only [List.length_append,List.length_cons,List.length_nil];omega) ?_ hs
      simp only [List.cons_append,List.append_assoc,List.nil_append,List.getElem?_cons_succ,zLw,List.getElem?_cons_zero]
    · simp only [zQx,List.length_append,List.length_cons,List.length_nil] at hw2
      have hyk:=yQw hsp hy
      rw [yFx,yRy]
      show (om Tryd.prog KK).call (.fn 25 [prv a turn (nx h (2+k)) (sp.length - 1),stv y]) _=_
      rw [← hgood y hyk,X_X]
      refine at_ sp hsp a turn _ Tb hTl y hyk _ (wf.X (by simp only [List.length_append,List.length_cons,List.length_nil];omega)) (hs.up wf _ _) (TabIn.of wf ?_)
      rw [show 2+k=k+1+1 from by omega]
      simp only [List.cons_append,List.append_assoc,List.nil_append,List.getElem?_cons_succ]
      rw [List.getElem?_append_left hkl,hk]
  refine zMw [.no,.no,.no,.no,.no,.no,.no,.no,.no,.full,.full] (by kernel_rfl) ?_
  unfold stv at hle
  (repeat' (first
  | (with_reducible first|refine zJz ?_|refine zGw ?_|refine zEw ?_|refine zEx ?_|refine zEv ?_|refine zJy ?_|refine zGv ?_|refine zBw ?_|refine zDx ?_|refine zBv ?_|refine zCx ?_|refine zEz ?_|refine zCw ?_|refine zCz ?_|refine zBz ?_|refine zDv ?_|refine zDy ?_|refine zAx ?_|refine zAv ?_)
  | refine zCv ?_|refine zEy rfl ?_|refine zIw ?_|refine zIv ?_
  | ((first|refine zGx rfl rfl rfl rfl rfl fun K_ hK_=>?_|refine zGy rfl rfl rfl rfl rfl fun K_ hK_=>?_);simp only [zAz,zDz,zFw,↓reduceIte,reduceCtorEq,Nat.reduceEqDiff,Bool.not_true,Bool.not_false];refine hK_ _ ?_;clear hK_ K_)
  | refine zDw (by decide) ?_
  | ((try first|refine zJx rfl rfl rfl ?_|refine zIy rfl rfl ?_|refine zJv rfl rfl rfl ?_|refine zIx rfl rfl ?_);(refine zIz fun Q_ hQ_=>?_;simp (disch:=first|omega|(simp only [List.length_cons,List.length_nil,List.length_append];omega)) only [bb,bp,zKx,↓reduceIte,reduceCtorEq,Nat.reduceEqDiff,Nat.reduceLT,Nat.reduceLeDiff,Nat.reduceAdd,Nat.reduceMul,Nat.reduceSub,Nat.reduceBEq,Int.reduceToNat,cond_true,cond_false,eq_self,beq_self_eq_true,est,hle,zHz wf,zHx wf,zFz wf,zHy wf,zBx wf,zFy,tEvbT15,zHw,zKy,zAw wf];first|(refine zCy (Q:=Q_) (fun hp_=>?_) (fun hp_=>?_) <;> first|(exfalso;omega)|(refine hQ_ _ _ ?_;clear hQ_ Q_))|(refine zBy (Q:=Q_) (fun hp_=>?_) (fun hp_=>?_) <;> first|(exfalso;omega)|(refine hQ_ _ _ ?_;clear hQ_ Q_))|(refine hQ_ _ _ ?_;clear hQ_ Q_)))
  | (refine zFv fun K_ hK_=>?_;simp (disch:=omega) only [zFx,zAz,zGz,↓reduceIte,reduceCtorEq,Nat.reduceEqDiff,Nat.reduceLT];refine hK_ _ ?_;clear hK_ K_)))
  clear e1 est hle hCS
  have hla : ∀ l w,w≤h.clock+l.length→(om Tryd.prog KK).call (.fn 26 [.agg [a,ii turn]]) (X h l w) = .ok (ii ((sp.length - 1:Nat):Int)) (X h l w):=fun l w hw=>last a turn sp (by omega) _ (wf.X hw) (hs.up wf _ _)
  generalize hcost:(fairL (payI turn) sp).2=cost at *
  generalize hln:(fairL (payI turn) sp).1=line at *
  refine zVz (fun (m:Nat) f d h'=>m<sp.length∧f 6 = .ptr (nx h 1) 0∧f 7 = .ptr (nx h (L.length+1+1)) 0∧f 8 = .ptr (nx h (L.length+2+1+1)) 0∧f 9=ii cost∧d=[] ∧
    ∃ (G:List AO) (x:Stt) (xs:List Int) (lv:AV) (w:Nat),h'=X h G w∧x.i=m∧x.Ok sp∧f 10=lv∧LineV h G 2 lv (xs.map ii)∧xs.length=x.i+1∧xs++greedy (payI turn) (sp.drop (x.i+1)) x.a x.b x.s=line ∧
      G[1]? = some (.cells (zAy [a,ii turn]) 53)∧G[2+k]? = some (.cells (zAy (Tb.map ii)) 98)∧G[L.length+1+1]? = some (.cells (zAy [a,ii turn,.sl (nx h (2+k)) 0 (sp.length - 1) (some (sp.length - 1)) 75]) 56)∧G[L.length+2+1+1]? = some (.cells (zAy (cellsS x)) 60)∧h.clock≤w∧w≤h.clock+G.length) (fun m=>sp.length - m) ?_ (sp.length+1) 1 (by omega) ?_
  · rintro m f d h' ⟨hm,g6,g7,g8,g9,rfl,G,x,xs,lv,w,rfl,rfl,hok,g10,hlv,hxl,hgr,hG1,hGk,hG7,hG8,hw1,hw2⟩
    have hld1 : ∀ w,loadAgg (nx h 1) 0 (some 2) (X h G w)=some (.agg [a,ii turn]):=fun w=>by
      rw [zFz wf,hG1]
      rw [zOx (by decide)];rfl
    have hl8 : ∀ w,load1 (nx h (L.length+2+1+1)) 0 (X h G w)=some (ii (x.i:Int)):=fun w=>by
      rw [zHx wf,hG8];rfl
    by_cases hlt:x.i+1<sp.length
    · have hld7 : ∀ w,loadAgg (nx h (L.length+1+1)) 0 (some 3) (X h G w)=some (.agg [a,ii turn,.sl (nx h (2+k)) 0 (sp.length - 1) (some (sp.length - 1)) 75]):=fun w=>by
        rw [zFz wf,hG7]
        rw [zOx (by decide)];rfl
      have hld8 : ∀ w,loadAgg (nx h (L.length+2+1+1)) 0 (some 4) (X h G w)=some (.agg (cellsS x)):=fun w=>by
        rw [zFz wf,hG8]
        rw [zOx (by decide)];rfl
      obtain ⟨_,_,hr3,_⟩:=hsp.at hlt
      have hcm:=onwS_mem (pf:=payI turn) hlt hr3
      have hon : ∀ w,w≤h.clock+G.length→(om Tryd.prog KK).call (.fn 27 [.agg [a,ii turn,.sl (nx h (2+k)) 0 (sp.length - 1) (some (sp.length - 1)) 75],.agg (cellsS x),.fn 22 [.agg [a,ii turn]] []]) (X h G w) = .ok (.tup [ii (onwS (payI turn) sp x).1,ii (onwS (payI turn) sp x).2]) (X h G w):=fun w hw=>
        onward S sp hsp a turn (nx h (2+k)) Tb hTl hTb x hok (fun c hi h1 h2=>hgood _ (yWx hok hi ⟨h1,h2⟩)) _ (wf.X hw) (hs.up wf _ _) (TabIn.of wf hGk)
      have hgs:=greedy_step (pf:=payI turn) hlt
      have hnok:=yWx hok hlt hcm
      generalize hcc:onwS (payI turn) sp x=cc at *
      obtain ⟨⟨k1,k2⟩,k3,k4,k5⟩:=hok
      obtain ⟨a1,a2,a3,a4⟩:=hsp.at (i:=x.i - 1) (by omega)
      obtain ⟨b1,b2,b3,b4⟩:=hsp.at k2
      obtain ⟨c1,c2,c3,c4⟩:=hsp.at hlt
      have hpay : ∀ w,w≤h.clock+G.length→(om Tryd.prog KK).call (.fn 22 [.agg [a,ii turn],.agg (cellsS x),ii cc.1]) (X h G w) = .ok (.tup [.agg (cellsS (nxt x cc.1)),ii (payI turn x.a x.b x.s cc.1)]) (X h G w):=fun w hw=>pay turn hturn a x cc.1 (by omega) (by omega) (by omega) (by omega) _ (wf.X hw)
      have hst8 : ∀ w,writeCells (nx h (L.length+2+1+1)) 0 (cellsS (nxt x cc.1)) (X h G w)=some (X h (G.set (L.length+2+1+1) (.cells (zAy (cellsS (nxt x cc.1))) 60)) (min (h.clock+(L.length+2+1+1)) w)):=fun w=>by
        rw [zBx wf,hG8]
        unfold cellsS
        rw [zUz]
        rfl
      have hlv2:=hlv.keep (Keep.set (o':=.cells (zAy (cellsS (nxt x cc.1))) 60) hG8 (zQz (by decide)))
      obtain ⟨lv',L',o',w',hch,hlv',hw1',hw2',happ⟩:=hlv2.app (P:=Tryd.prog) wf Tryd.underlying30 sz_2 el_2 (by rw [List.length_map];omega) (by decide) (v:=ii cc.1) rfl 1 (min (h.clock+(L.length+2+1+1)) w) (by omega)
      have hrz:=hlv.resz (P:=Tryd.prog) Tryd.underlying30 sz_2
      have hfl:=hlv.flat
      have rs25 : ∀ (id:Pos) (off len c esz:Nat),reszT Tryd.prog 30 (.sl id off len (some c) esz) = .sl id off len (some c) 1:=fun id off len c esz=>yAx Tryd.underlying30 sz_2
      rw [List.length_set] at happ
      unfold cellsS at hon hpay hst8 hld8
      generalize hG':G.set (L.length+2+1+1) (.cells (zAy (cellsS (nxt x cc.1))) 60)=G' at *
      have hlG':G'.length=G.length:=by rw [← hG',List.length_set]
      have e28 : ∀ w,X h (G.set (L.length+2+1+1) (.cells (zAy [ii ((nxt x cc.1).i:Int),ii (nxt x cc.1).a,ii (nxt x cc.1).b,ii ((nxt x cc.1).s:Int)]) 60)) w=X h G' w:=fun w=>by rw [← hG'];rfl
      rw [← hlG'] at happ
      (repeat' (first
  | (with_reducible first|refine zJz ?_|refine zGw ?_|refine zEw ?_|refine zEx ?_|refine zEv ?_|refine zJy ?_|refine zGv ?_|refine zBw ?_|refine zDx ?_|refine zBv ?_|refine zCx ?_|refine zEz ?_|refine zCw ?_|refine zCz ?_|refine zBz ?_|refine zDv ?_|refine zDy ?_|refine zAx ?_|refine zAv ?_)
  | refine zCv ?_|refine zEy rfl ?_|refine zIw ?_|refine zIv ?_
  | ((first|refine zGx rfl rfl rfl rfl rfl fun K_ hK_=>?_|refine zGy rfl rfl rfl rfl rfl fun K_ hK_=>?_);simp only [zAz,zDz,zFw,↓reduceIte,reduceCtorEq,Nat.reduceEqDiff,Bool.not_true,Bool.not_false];refine hK_ _ ?_;clear hK_ K_)
  | refine zDw (by decide) ?_
  | ((try first|refine zJx rfl rfl rfl ?_|refine zIy rfl rfl ?_|refine zJv rfl rfl rfl ?_|refine zIx rfl rfl ?_);(refine zIz fun Q_ hQ_=>?_;simp (disch:=first|omega|(simp only [List.length_cons,List.length_nil,List.length_append];omega)) only [bb,bp,zKx,↓reduceIte,reduceCtorEq,Nat.reduceEqDiff,Nat.reduceLT,Nat.reduceLeDiff,Nat.reduceAdd,Nat.reduceMul,Nat.reduceSub,Nat.reduceBEq,Int.reduceToNat,cond_true,cond_false,eq_self,beq_self_eq_true,g6,g7,g8,g9,g10,tEvbT15,zHw,zKy,zAw wf];first|(refine zCy (Q:=Q_) (fun hp_=>?_) (fun hp_=>?_) <;> first|(exfalso;omega)|(refine hQ_ _ _ ?_;clear hQ_ Q_))|(refine zBy (Q:=Q_) (fun hp_=>?_) (fun hp_=>?_) <;> first|(exfalso;omega)|(refine hQ_ _ _ ?_;clear hQ_ Q_))|(refine hQ_ _ _ ?_;clear hQ_ Q_)))
  | (refine zFv fun K_ hK_=>?_;simp (disch:=omega) only [zFx,zAz,zGz,↓reduceIte,reduceCtorEq,Nat.reduceEqDiff,Nat.reduceLT];refine hK_ _ ?_;clear hK_ K_)))
      refine zMw [.no,.no,.no,.no,.full] (by kernel_rfl) ?_
      (repeat' (first
  | (with_reducible first|refine zJz ?_|refine zGw ?_|refine zEw ?_|refine zEx ?_|refine zEv ?_|refine zJy ?_|refine zGv ?_|refine zBw ?_|refine zDx ?_|refine zBv ?_|refine zCx ?_|refine zEz ?_|refine zCw ?_|refine zCz ?_|refine zBz ?_|refine zDv ?_|refine zDy ?_|refine zAx ?_|refine zAv ?_)
  | refine zCv ?_|refine zEy rfl ?_|refine zIw ?_|refine zIv ?_
  | ((first|refine zGx rfl rfl rfl rfl rfl fun K_ hK_=>?_|refine zGy rfl rfl rfl rfl rfl fun K_ hK_=>?_);simp only [zAz,zDz,zFw,↓reduceIte,reduceCtorEq,Nat.reduceEqDiff,Bool.not_true,Bool.not_false];refine hK_ _ ?_;clear hK_ K_)
  | refine zDw (by decide) ?_
  | ((try first|refine zJx rfl rfl rfl ?_|refine zIy rfl rfl ?_|refine zJv rfl rfl rfl ?_|refine zIx rfl rfl ?_);(refine zIz fun Q_ hQ_=>?_;simp (disch:=first|omega|(simp only [List.length_cons,List.length_nil,List.length_append];omega)) only [bb,bp,zKx,↓reduceIte,reduceCtorEq,Nat.reduceEqDiff,Nat.reduceLT,Nat.reduceLeDiff,Nat.reduceAdd,Nat.reduceMul,Nat.reduceSub,Nat.reduceBEq,Int.reduceToNat,cond_true,cond_false,eq_self,beq_self_eq_true,g6,g7,g8,g9,g10,hl8,hld1,hla,tEvbT15,zHw,zKy,zAw wf];first|(refine zCy (Q:=Q_) (fun hp_=>?_) (fun hp_=>?_) <;> first|(exfalso;omega)|(refine hQ_ _ _ ?_;clear hQ_ Q_))|(refine zBy (Q:=Q_) (fun hp_=>?_) (fun hp_=>?_) <;> first|(exfalso;omega)|(refine hQ_ _ _ ?_;clear hQ_ Q_))|(refine hQ_ _ _ ?_;clear hQ_ Q_)))
  | (refine zFv fun K_ hK_=>?_;simp (disch:=omega) only [zFx,zAz,zGz,↓reduceIte,reduceCtorEq,Nat.reduceEqDiff,Nat.reduceLT];refine hK_ _ ?_;clear hK_ K_)))
      (repeat' (first
  | (with_reducible first|refine zJz ?_|refine zGw ?_|refine zEw ?_|refine zEx ?_|refine zEv ?_|refine zJy ?_|refine zGv ?_|refine zBw ?_|refine zDx ?_|refine zBv ?_|refine zCx ?_|refine zEz ?_|refine zCw ?_|refine zCz ?_|refine zBz ?_|refine zDv ?_|refine zDy ?_|refine zAx ?_|refine zAv ?_)
  | refine zCv ?_|refine zEy rfl ?_|refine zIw ?_|refine zIv ?_
  | ((first|refine zGx rfl rfl rfl rfl rfl fun K_ hK_=>?_|refine zGy rfl rfl rfl rfl rfl fun K_ hK_=>?_);simp only [zAz,zDz,zFw,↓reduceIte,reduceCtorEq,Nat.reduceEqDiff,Bool.not_true,Bool.not_false];refine hK_ _ ?_;clear hK_ K_)
  | refine zDw (by decide) ?_
  | ((try first|refine zJx rfl rfl rfl ?_|refine zIy rfl rfl ?_|refine zJv rfl rfl rfl ?_|refine zIx rfl rfl ?_);(refine zIz fun Q_ hQ_=>?_;simp (disch:=first|omega|(simp only [List.length_cons,List.length_nil,List.length_append];omega)) only [bb,bp,zKx,↓reduceIte,reduceCtorEq,Nat.reduceEqDiff,Nat.reduceLT,Nat.reduceLeDiff,Nat.reduceAdd,Nat.reduceMul,Nat.reduceSub,Nat.reduceBEq,Int.reduceToNat,cond_true,cond_false,eq_self,beq_self_eq_true,g6,g7,g8,g9,g10,hl8,hld1,hld7,hld8,hon,hpay,hst8,e28,hrz,rs25,happ,zFy,zAw wf,tEvbT15,zHw,zKy,zAw wf];first|(refine zCy (Q:=Q_) (fun hp_=>?_) (fun hp_=>?_) <;> first|(exfalso;omega)|(refine hQ_ _ _ ?_;clear hQ_ Q_))|(refine zBy (Q:=Q_) (fun hp_=>?_) (fun hp_=>?_) <;> first|(exfalso;omega)|(refine hQ_ _ _ ?_;clear hQ_ Q_))|(refine hQ_ _ _ ?_;clear hQ_ Q_)))
  | (refine zFv fun K_ hK_=>?_;simp (disch:=omega) only [zFx,zAz,zGz,↓reduceIte,reduceCtorEq,Nat.reduceEqDiff,Nat.reduceLT];refine hK_ _ ?_;clear hK_ K_)))
      have hget : ∀ (q:Nat) (o:AO),q≠L.length+2+1+1→G[q]? = some o→NotT 2 o→(L'++[AO.cells (zAy [ii cc.1]) 2,o'])[q]? = some o:=fun q o hq hg hn=>by
        have h1:G'[q]? = some o:=by rw [← hG',List.getElem?_set_ne (Ne.symm hq)];exact hg
        have h2:=hch.2 q o h1 hn
        rw [List.getElem?_append_left (zHv h2)];exact h2
      have hLl:=hch.1
      refine zKw (x.i+1) (by omega) ⟨hlt,by simp only [zAz,↓reduceIte,reduceCtorEq,Nat.reduceEqDiff];exact g6,by simp only [zAz,↓reduceIte,reduceCtorEq,Nat.reduceEqDiff];exact g7,by simp only [zAz,↓reduceIte,reduceCtorEq,Nat.reduceEqDiff];exact g8,by simp only [zAz,↓reduceIte,reduceCtorEq,Nat.reduceEqDiff];exact g9,rfl,_,nxt x cc.1,xs++[cc.1],lv',w',rfl,rfl,hnok,by simp only [zAz,↓reduceIte,reduceCtorEq,Nat.reduceEqDiff],?_,?_,?_,hget _ _ (by omega) hG1 (zQz (by decide)),hget _ _ (by omega) hGk (zQz (by decide)),hget _ _ (by omega) hG7 (zQz (by decide)),?_,hw1',?_⟩
      · rw [List.map_append];exact hlv'
      · rw [List.length_append,hxl];rfl
      · rw [List.append_assoc]
        show xs++(cc.1 :: greedy _ _ _ _ _)=line
        rw [← hgs,hgr]
      · have h1:G'[L.length+2+1+1]? = some (.cells (zAy (cellsS (nxt x cc.1))) 60):=by rw [← hG',List.getElem?_set_self (zHv hG8)]
        have h2:=hch.2 _ _ h1 (zQz (by decide))
        rw [List.getElem?_append_left (zHv h2)];exact h2
      · simp only [List.length_append,List.length_cons,List.length_nil];omega
    · obtain ⟨⟨k1,k2⟩,k3,k4,k5⟩:=hok
      have hie:x.i+1=sp.length:=by omega
      rw [greedy_end hie,List.append_nil] at hgr
      subst hgr
      (repeat' (first
  | (with_reducible first|refine zJz ?_|refine zGw ?_|refine zEw ?_|refine zEx ?_|refine zEv ?_|refine zJy ?_|refine zGv ?_|refine zBw ?_|refine zDx ?_|refine zBv ?_|refine zCx ?_|refine zEz ?_|refine zCw ?_|refine zCz ?_|refine zBz ?_|refine zDv ?_|refine zDy ?_|refine zAx ?_|refine zAv ?_)
  | refine zCv ?_|refine zEy rfl ?_|refine zIw ?_|refine zIv ?_
  | ((first|refine zGx rfl rfl rfl rfl rfl fun K_ hK_=>?_|refine zGy rfl rfl rfl rfl rfl fun K_ hK_=>?_);simp only [zAz,zDz,zFw,↓reduceIte,reduceCtorEq,Nat.reduceEqDiff,Bool.not_true,Bool.not_false];refine hK_ _ ?_;clear hK_ K_)
  | refine zDw (by decide) ?_
  | ((try first|refine zJx rfl rfl rfl ?_|refine zIy rfl rfl ?_|refine zJv rfl rfl rfl ?_|refine zIx rfl rfl ?_);(refine zIz fun Q_ hQ_=>?_;simp (disch:=first|omega|(simp only [List.length_cons,List.length_nil,List.length_append];omega)) only [bb,bp,zKx,↓reduceIte,reduceCtorEq,Nat.reduceEqDiff,Nat.reduceLT,Nat.reduceLeDiff,Nat.reduceAdd,Nat.reduceMul,Nat.reduceSub,Nat.reduceBEq,Int.reduceToNat,cond_true,cond_false,eq_self,beq_self_eq_true,g6,g7,g8,g9,g10,tEvbT15,zHw,zKy,zAw wf];first|(refine zCy (Q:=Q_) (fun hp_=>?_) (fun hp_=>?_) <;> first|(exfalso;omega)|(refine hQ_ _ _ ?_;clear hQ_ Q_))|(refine zBy (Q:=Q_) (fun hp_=>?_) (fun hp_=>?_) <;> first|(exfalso;omega)|(refine hQ_ _ _ ?_;clear hQ_ Q_))|(refine hQ_ _ _ ?_;clear hQ_ Q_)))
  | (refine zFv fun K_ hK_=>?_;simp (disch:=omega) only [zFx,zAz,zGz,↓reduceIte,reduceCtorEq,Nat.reduceEqDiff,Nat.reduceLT];refine hK_ _ ?_;clear hK_ K_)))
      refine zMw [.no,.no,.no,.no,.full] (by kernel_rfl) ?_
      (repeat' (first
  | (with_reducible first|refine zJz ?_|refine zGw ?_|refine zEw ?_|refine zEx ?_|refine zEv ?_|refine zJy ?_|refine zGv ?_|refine zBw ?_|refine zDx ?_|refine zBv ?_|refine zCx ?_|refine zEz ?_|refine zCw ?_|refine zCz ?_|refine zBz ?_|refine zDv ?_|refine zDy ?_|refine zAx ?_|refine zAv ?_)
  | refine zCv ?_|refine zEy rfl ?_|refine zIw ?_|refine zIv ?_
  | ((first|refine zGx rfl rfl rfl rfl rfl fun K_ hK_=>?_|refine zGy rfl rfl rfl rfl rfl fun K_ hK_=>?_);simp only [zAz,zDz,zFw,↓reduceIte,reduceCtorEq,Nat.reduceEqDiff,Bool.not_true,Bool.not_false];refine hK_ _ ?_;clear hK_ K_)
  | refine zDw (by decide) ?_
  | ((try first|refine zJx rfl rfl rfl ?_|refine zIy rfl rfl ?_|refine zJv rfl rfl rfl ?_|refine zIx rfl rfl ?_);(refine zIz fun Q_ hQ_=>?_;simp (disch:=first|omega|(simp only [List.length_cons,List.length_nil,List.length_append];omega)) only [bb,bp,zKx,↓reduceIte,reduceCtorEq,Nat.reduceEqDiff,Nat.reduceLT,Nat.reduceLeDiff,Nat.reduceAdd,Nat.reduceMul,Nat.reduceSub,Nat.reduceBEq,Int.reduceToNat,cond_true,cond_false,eq_self,beq_self_eq_true,g6,g7,g8,g9,g10,hl8,hld1,hla,tEvbT15,zHw,zKy,zAw wf];first|(refine zCy (Q:=Q_) (fun hp_=>?_) (fun hp_=>?_) <;> first|(exfalso;omega)|(refine hQ_ _ _ ?_;clear hQ_ Q_))|(refine zBy (Q:=Q_) (fun hp_=>?_) (fun hp_=>?_) <;> first|(exfalso;omega)|(refine hQ_ _ _ ?_;clear hQ_ Q_))|(refine hQ_ _ _ ?_;clear hQ_ Q_)))
  | (refine zFv fun K_ hK_=>?_;simp (disch:=omega) only [zFx,zAz,zGz,↓reduceIte,reduceCtorEq,Nat.reduceEqDiff,Nat.reduceLT];refine hK_ _ ?_;clear hK_ K_)))
      (repeat' (first
  | (with_reducible first|refine zJz ?_|refine zGw ?_|refine zEw ?_|refine zEx ?_|refine zEv ?_|refine zJy ?_|refine zGv ?_|refine zBw ?_|refine zDx ?_|refine zBv ?_|refine zCx ?_|refine zEz ?_|refine zCw ?_|refine zCz ?_|refine zBz ?_|refine zDv ?_|refine zDy ?_|refine zAx ?_|refine zAv ?_)
  | refine zCv ?_|refine zEy rfl ?_|refine zIw ?_|refine zIv ?_
  | ((first|refine zGx rfl rfl rfl rfl rfl fun K_ hK_=>?_|refine zGy rfl rfl rfl rfl rfl fun K_ hK_=>?_);simp only [zAz,zDz,zFw,↓reduceIte,reduceCtorEq,Nat.reduceEqDiff,Bool.not_true,Bool.not_false];refine hK_ _ ?_;clear hK_ K_)
  | refine zDw (by decide) ?_
  | ((try first|refine zJx rfl rfl rfl ?_|refine zIy rfl rfl ?_|refine zJv rfl rfl rfl ?_|refine zIx rfl rfl ?_);(refine zIz fun Q_ hQ_=>?_;simp (disch:=first|omega|(simp only [List.length_cons,List.length_nil,List.length_append];omega)) only [bb,bp,zKx,↓reduceIte,reduceCtorEq,Nat.reduceEqDiff,Nat.reduceLT,Nat.reduceLeDiff,Nat.reduceAdd,Nat.reduceMul,Nat.reduceSub,Nat.reduceBEq,Int.reduceToNat,cond_true,cond_false,eq_self,beq_self_eq_true,g6,g7,g8,g9,g10,tEvbT15,zHw,zKy,zAw wf];first|(refine zCy (Q:=Q_) (fun hp_=>?_) (fun hp_=>?_) <;> first|(exfalso;omega)|(refine hQ_ _ _ ?_;clear hQ_ Q_))|(refine zBy (Q:=Q_) (fun hp_=>?_) (fun hp_=>?_) <;> first|(exfalso;omega)|(refine hQ_ _ _ ?_;clear hQ_ Q_))|(refine hQ_ _ _ ?_;clear hQ_ Q_)))
  | (refine zFv fun K_ hK_=>?_;simp (disch:=omega) only [zFx,zAz,zGz,↓reduceIte,reduceCtorEq,Nat.reduceEqDiff,Nat.reduceLT];refine hK_ _ ?_;clear hK_ K_)))
      refine zJw _ _ rfl (ret3 (by decide) (by decide) (by decide)) ?_
      simp only [zAz,↓reduceIte,reduceCtorEq,Nat.reduceEqDiff]
      have hmin : ∀ w',h.clock≤w'→min h.w w'=h.w:=fun w' h'=>by have:=wf.wle;omega
      refine yCy (by
        obtain ⟨_,_,rfl,_⟩:=hlv
        exact Bool.and_false _) ?_
      rw [hmin _ hw1]
      exact ⟨G,lv,rfl,rfl,hlv⟩
  · refine ⟨by omega,by simp only [zAz,↓reduceIte,reduceCtorEq,Nat.reduceEqDiff],by simp only [zAz,↓reduceIte,reduceCtorEq,Nat.reduceEqDiff],by simp only [zAz,↓reduceIte,reduceCtorEq,Nat.reduceEqDiff],by simp only [zAz,↓reduceIte,reduceCtorEq,Nat.reduceEqDiff],rfl,_,⟨1,p.1,p.2,0⟩,[p.1,p.2],_,_,rfl,rfl,yQw hsp hmem,rfl,⟨L.length+3+1+1,some 2,by simp only [zAz,↓reduceIte,reduceCtorEq,Nat.reduceEqDiff];rfl,?_,.inr rfl⟩,rfl,?_,rfl,?_,?_,?_,Nat.le_refl _,by omega⟩
    · simp only [List.getElem?_cons_succ,zLw,List.getElem?_cons_zero]
      rfl
    · rw [hline];rfl
    · rw [show 2+k=k+1+1 from by omega]
      simp only [List.getElem?_cons_succ]
      rw [List.getElem?_append_left hkl,hk]
    · simp only [List.getElem?_cons_succ,zNx,List.getElem?_cons_zero]
    · simp only [List.getElem?_cons_succ,zLw,List.getElem?_cons_zero]
      rfl
end Go.Proofs.YtkmdidplmfdikabDoor
end

section
namespace Go.Ev
def tc (Tb:List Int) (i a b s:Nat):Int:=Tb.getD ((i - 1) * 75+(a * 15+b * 3+s)) 0
def stt (sp:List (Int × Int)) (i a b s:Nat):Stt:=⟨i,(spot sp (i - 1)).1+(a:Int),(spot sp i).1+(b:Int),s⟩
def farI :Int:=1099511627776
def NoneT (Tb:List Int) (i a b:Nat):Prop:=tc Tb i a b 0=farI∧tc Tb i a b 1=farI∧tc Tb i a b 2=farI
instance (Tb:List Int) (i a b:Nat):Decidable (NoneT Tb i a b):=by unfold NoneT;infer_instance
def sgF (sp:List (Int × Int)) (i:Nat) (Tb:List Int) (a b:Nat):Nat→List (Stt × Int)
  | 0=>[]
  | m+1=>(if tc Tb i a b (2 - m)<farI then [(stt sp i a b (2 - m),tc Tb i a b (2 - m))] else [])++sgF sp i Tb a b m
def boF (sp:List (Int × Int)) (i:Nat) (Tb:List Int) (a:Nat):Nat→List (Stt × Int)
  | 0=>[]
  | m+1=>if NoneT Tb i a (4 - m) then [] else sgF sp i Tb a (4 - m) 3++boF sp i Tb a m
def aoF (sp:List (Int × Int)) (i:Nat) (Tb:List Int):Nat→List (Stt × Int)
  | 0=>[]
  | m+1=>boF sp i Tb (4 - m) 5++aoF sp i Tb m
def reachL (sp:List (Int × Int)) (i:Nat) (Tb:List Int):List (Stt × Int):=aoF sp i Tb 5
def rowT (Tb:List Int) (i:Nat):List Int:=(Tb.drop ((i - 1) * 75)).take 75
theorem rowT_get {Tb:List Int} {i k:Nat} (hl:(i - 1) * 75+75≤Tb.length) (hk:k<75):(rowT Tb i)[k]? = some (Tb.getD ((i - 1) * 75+k) 0):=by
  unfold rowT
  rw [List.getElem?_take,if_pos hk,List.getElem?_drop]
  simp [List.getD,show (i - 1) * 75+k<Tb.length from by omega]
end Go.Ev
namespace Go.Ev
theorem aoF_step {sp:List (Int × Int)} {i:Nat} {Tb:List Int} {u:Nat} (h:u<5):aoF sp i Tb (5 - u)=boF sp i Tb u 5++aoF sp i Tb (4 - u):=by
  obtain ⟨m,hm,hu⟩ : ∃ m,5 - u=m+1∧4 - m=u:=⟨4 - u,by omega,by omega⟩
  rw [hm,show 4 - u=m from by omega]
  show boF sp i Tb (4 - m) 5++_=_
  rw [hu]
theorem boF_none {sp:List (Int × Int)} {i:Nat} {Tb:List Int} {u v:Nat} (h:v<5) (hn:NoneT Tb i u v):boF sp i Tb u (5 - v)=[]:=by
  obtain ⟨m,hm,hu⟩ : ∃ m,5 - v=m+1∧4 - m=v:=⟨4 - v,by omega,by omega⟩
  rw [hm]
  show (if NoneT Tb i u (4 - m) then _ else _)=_
  rw [hu,if_pos hn]
theorem boF_step {sp:List (Int × Int)} {i:Nat} {Tb:List Int} {u v:Nat} (h:v<5) (hn : ¬ NoneT Tb i u v):boF sp i Tb u (5 - v)=sgF sp i Tb u v 3++boF sp i Tb u (4 - v):=by
  obtain ⟨m,hm,hu⟩ : ∃ m,5 - v=m+1∧4 - m=v:=⟨4 - v,by omega,by omega⟩
  rw [hm,show 4 - v=m from by omega]
  show (if NoneT Tb i u (4 - m) then _ else _)=_
  rw [hu,if_neg hn]
theorem sgF_far {sp:List (Int × Int)} {i:Nat} {Tb:List Int} {u v s:Nat} (h:s<3) (hn : ¬ tc Tb i u v s<farI):sgF sp i Tb u v (3 - s)=sgF sp i Tb u v (2 - s):=by
  obtain ⟨m,hm,hu⟩ : ∃ m,3 - s=m+1∧2 - m=s:=⟨2 - s,by omega,by omega⟩
  rw [hm,show 2 - s=m from by omega]
  show (if _<farI then _ else _)++_=_
  rw [hu,if_neg hn];rfl
theorem sgF_step {sp:List (Int × Int)} {i:Nat} {Tb:List Int} {u v s:Nat} (h:s<3) (hn:tc Tb i u v s<farI):sgF sp i Tb u v (3 - s)=(stt sp i u v s,tc Tb i u v s) :: sgF sp i Tb u v (2 - s):=by
  obtain ⟨m,hm,hu⟩ : ∃ m,3 - s=m+1∧2 - m=s:=⟨2 - s,by omega,by omega⟩
  rw [hm,show 2 - s=m from by omega]
  show (if _<farI then _ else _)++_=_
  rw [hu,if_pos hn];rfl
end Go.Ev
end

section
namespace Go.Ev
def linesR :List (Int × Int)→List Int→List (List Int)
  | [],bs=>[bs]
  | r :: R,bs=>(offs r).flatMap fun y=>linesR R (bs++[y])
def manyL :List (Int × Int)→Nat
  | []=>1
  | r :: R=>(offs r).length * manyL R
end Go.Ev
end

section
namespace Go.Ev
theorem chgI_01 (s d:Int):0≤chgI s d∧chgI s d≤1:=by unfold chgI;split <;> omega
def Within :List (Int × Int)→List (Int × Int)→Prop
  | [],[]=>True
  | r :: R,s :: S=>(s.1≤r.1∧r.2≤s.2)∧Within R S
  | _,_=>False
theorem InR.wider : ∀ {R S:List (Int × Int)} {l:List Int},Within R S→InR R l→InR S l
  | [],[],_,_,h=>h
  | r :: R,s :: S,_,⟨h1,h2⟩,⟨c,cs,e,c1,c2,h⟩=>⟨c,cs,e,by omega,by omega,InR.wider h2 h⟩
  | [],_ :: _,_,h,_=>h.elim
  | _ :: _,[],_,h,_=>h.elim
theorem Within.refl : ∀ R:List (Int × Int),Within R R
  | []=>trivial
  | r :: R=>⟨⟨Int.le_refl _,Int.le_refl _⟩,Within.refl R⟩
theorem Within.set : ∀ (R:List (Int × Int)) (k:Nat) (s:Int × Int),(∀ r,R[k]? = some r→s.1≤r.1∧r.2≤s.2)→Within R (R.set k s)
  | [],_,_,_=>trivial
  | r :: R,0,s,h=>⟨h r rfl,Within.refl R⟩
  | r :: R,k+1,s,h=>⟨⟨Int.le_refl _,Int.le_refl _⟩,Within.set R k s (fun q hq=>h q (by simpa using hq))⟩
theorem InR.cut : ∀ {R S:List (Int × Int)} {l:List Int},InR (R++S) l → ∃ p q,l=p++q∧InR R p∧InR S q
  | [],S,l,h=>⟨[],l,rfl,rfl,h⟩
  | r :: R,S,_,⟨c,cs,rfl,h1,h2,h⟩=>by
    obtain ⟨p,q,e,hp,hq⟩:=InR.cut (R:=R) h
    exact ⟨c :: p,q,by rw [e];rfl,⟨c,p,rfl,h1,h2,hp⟩,hq⟩
end Go.Ev
end

section
namespace Go.Ev
section
variable {P:Program}
theorem wAy {t e:TypeId} {k:IntKind} {d:Nat} {a b c a' b' c':Int} (hu:P.underlying t=some (.array 3 e)) (he:P.underlying e=some (.int k)) (hz:pureRun P (sizeOf e)=some 1) :
    pureRun P (Op.equalIn (d+2) t (.agg #[.int .i64 a,.int .i64 b,.int .i64 c]) (.agg #[.int .i64 a',.int .i64 b',.int .i64 c']))=some (a == a' && (b == b' && c == c')):=by
  have p0 : ∀ (x y z:Int),pureRun P (part e #[.int .i64 x,.int .i64 y,.int .i64 z] 0)=some (.int .i64 x):=fun x y z=>zYw he rfl
  have p1 : ∀ (x y z:Int),pureRun P (part e #[.int .i64 x,.int .i64 y,.int .i64 z] 1)=some (.int .i64 y):=fun x y z=>zYw he rfl
  have p2 : ∀ (x y z:Int),pureRun P (part e #[.int .i64 x,.int .i64 y,.int .i64 z] 2)=some (.int .i64 z):=fun x y z=>zYw he rfl
  have q : ∀ (x y:Int),pureRun P (Op.equalIn (d+1) e (.int .i64 x) (.int .i64 y))=some (x == y):=fun x y=>yOz he
  rw [Op.equalIn,zMx,zSw hu]
  simp only [Option.bind_some]
  rw [zMx,hz]
  simp only [Option.bind_some]
  simp [Std.Legacy.Range.forIn_eq_forIn_range',List.range',zMx,p0,p1,p2,q,Std.Legacy.Range.size]
  by_cases h1:a=a'
  · have g1:(a == a')=true:=by simpa using h1
    by_cases h2:b=b'
    · have g2:(b == b')=true:=by simpa using h2
      by_cases h3:c=c'
      · have g3:(c == c')=true:=by simpa using h3
        simp [h1,h2,h3,zUv,zMx,p0,p1,p2,q]
      · have g3:(c == c')=false:=by simpa using h3
        simp [h1,h2,h3,g3,zUv,zMx,p0,p1,p2,q]
    · have g2:(b == b')=false:=by simpa using h2
      simp [h1,h2,g2,zUv,zMx,p0,p1,p2,q]
  · have g1:(a == a')=false:=by simpa using h1
    simp [h1,g1,zUv,zMx,p0,p1,p2,q]
theorem b_arr3 {t e:TypeId} {X Y:Operand} {k:IntKind} {a b c a' b' c':Int} (hu:P.underlying t=some (.array 3 e)) (he:P.underlying e=some (.int k)) (hz:pureRun P (sizeOf e)=some 1) (hg:P.eqGuardType P.depth t=false) :
    binE P .eql t X Y (.agg [.int .i64 a,.int .i64 b,.int .i64 c]) (.agg [.int .i64 a',.int .i64 b',.int .i64 c'])=some (.bool (decide (a=a'∧b=b'∧c=c'))):=by
  have es:binSlow P .eql t X Y (.agg [.int .i64 a,.int .i64 b,.int .i64 c]) (.agg [.int .i64 a',.int .i64 b',.int .i64 c'])=pureVal P (do eqGuard .eql t X Y (.agg #[.int .i64 a,.int .i64 b,.int .i64 c]) (.agg #[.int .i64 a',.int .i64 b',.int .i64 c']);binOp .eql t (.agg #[.int .i64 a,.int .i64 b,.int .i64 c]) (.agg #[.int .i64 a',.int .i64 b',.int .i64 c'])):=rfl
  have eb:binE P .eql t X Y (.agg [.int .i64 a,.int .i64 b,.int .i64 c]) (.agg [.int .i64 a',.int .i64 b',.int .i64 c'])=binSlow P .eql t X Y (.agg [.int .i64 a,.int .i64 b,.int .i64 c]) (.agg [.int .i64 a',.int .i64 b',.int .i64 c']):=rfl
  rw [eb,es]
  have e1:pureRun P (eqGuard .eql t X Y (.agg #[.int .i64 a,.int .i64 b,.int .i64 c]) (.agg #[.int .i64 a',.int .i64 b',.int .i64 c']))=some ():=by
    unfold eqGuard
    simp [zMx,yBy,hg,zUv]
  have e2:pureRun P (binOp .eql t (.agg #[.int .i64 a,.int .i64 b,.int .i64 c]) (.agg #[.int .i64 a',.int .i64 b',.int .i64 c']))=some (.bool (decide (a=a'∧b=b'∧c=c'))):=by
    show pureRun P (do pure (Value.bool (← Op.equalIn (9998+2) t _ _)))=_
    rw [zMx,wAy hu he hz]
    have:(a == a' && (b == b' && c == c'))=decide (a=a'∧b=b'∧c=c'):=by
      rw [Bool.eq_iff_iff];simp
    rw [this];rfl
  unfold pureVal
  rw [zMx,e1]
  simp only [Option.bind_some]
  rw [e2]
  rfl
theorem index_agg {t e i n:Nat} {cs:List AV} {v:AV} (hu:P.underlying t=some (.array n e)) (hz:sizeE P e=some 1) (ha:isAggB P e=some false) (hi:i<n) (hv:cs[i]? = some v):indexE P t (.agg cs) (.int .i64 (i:Int))=some v:=by
  unfold indexE
  rw [zTv]
  dsimp only
  rw [hu]
  dsimp only
  rw [hz]
  dsimp only
  rw [Nat.ble_eq_true_of_le (show Nat.succ i≤n from hi)]
  show partE P e cs (i * 1)=_
  unfold partE
  rw [ha,Nat.mul_one]
  exact hv
end
end Go.Ev
end
