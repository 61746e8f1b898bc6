import Derived.Test.YtkmdidplmfdikaaDoorM4
set_option linter.all false
section
namespace Go.Proofs.YtkmdidplmfdikaaDoor
open Go.Ev
set_option maxRecDepth 100000
set_option linter.unusedSimpArgs false
set_option linter.unusedVariables false
set_option maxHeartbeats 2000000

theorem tEvT2 :type_of% (And.intro (And.intro (And.intro (And.intro (And.intro (@zSv) (@ia_2)) (And.intro (@sz_2) (@ze_2))) (And.intro (And.intro (@ia_3) (@sz_3)) (And.intro (@zSy) (And.intro (@zTx) (@zRx))))) (And.intro (And.intro (And.intro (@zOv) (@zVw)) (And.intro (@zUv) (@zVx))) (And.intro (And.intro (@zZv) (@zZw)) (And.intro (@zSx) (And.intro (@zSz) (@zSw)))))) (And.intro (And.intro (And.intro (And.intro (@zXv) (@zUz)) (And.intro (@zOw) (@zOx))) (And.intro (And.intro (@zOy) (@zOz)) (And.intro (@zMy) (And.intro (@zMz) (@zRz))))) (And.intro (And.intro (And.intro (@zLw) (@zLx)) (And.intro (@zOv) (@yBw))) (And.intro (And.intro (@yAv) (@xLw)) (And.intro (@pb_82) (And.intro (@pb_68) (@pb_81))))))):=And.intro (And.intro (And.intro (And.intro (And.intro (@zSv) (@ia_2)) (And.intro (@sz_2) (@ze_2))) (And.intro (And.intro (@ia_3) (@sz_3)) (And.intro (@zSy) (And.intro (@zTx) (@zRx))))) (And.intro (And.intro (And.intro (@zOv) (@zVw)) (And.intro (@zUv) (@zVx))) (And.intro (And.intro (@zZv) (@zZw)) (And.intro (@zSx) (And.intro (@zSz) (@zSw)))))) (And.intro (And.intro (And.intro (And.intro (@zXv) (@zUz)) (And.intro (@zOw) (@zOx))) (And.intro (And.intro (@zOy) (@zOz)) (And.intro (@zMy) (And.intro (@zMz) (@zRz))))) (And.intro (And.intro (And.intro (@zLw) (@zLx)) (And.intro (@zOv) (@yBw))) (And.intro (And.intro (@yAv) (@xLw)) (And.intro (@pb_82) (And.intro (@pb_68) (@pb_81))))))
theorem statesOf (a:AV) (turn i:Int) (h:H) (wf:Wf h) (J:List AO) (w:Nat) (hw:w≤h.clock+J.length) :
    (om Tryd.prog KK).call (.fn 68 [.agg [a,ii turn],ii i]) (X h J w) = .ok (.fn 81 [] [.ptr (nx h J.length) 0,.ptr (nx h (J.length+1)) 0]) (X h (J++[.cells (zAy [a,ii turn]) 64,.cells (zAy [ii i]) 3]) w):=by
  have wf':=wf.X hw
  have key : ∀ hb,Wf hb→(om Tryd.prog KK).call (.fn 68 [.agg [a,ii turn],ii i]) hb = .ok (.fn 81 [] [.ptr (nx hb 0) 0,.ptr (nx hb 1) 0]) (X hb [.cells (zAy [a,ii turn]) 64,.cells (zAy [ii i]) 3] hb.w):=by
    clear wf wf'
    intro hb wf
    refine zWv (zKv (fn:=Tryd.f68) Tryd.func68 rfl rfl rfl rfl rfl ?_)
    simp only [zKx]
    (repeat' (first
  | (with_reducible first|refine zJz ?_|refine zGw ?_|refine zEw ?_|refine zEx ?_|refine zEv ?_|refine zJy ?_|refine zGv ?_|refine zBw ?_|refine zDx ?_|refine zBv ?_|refine zCx ?_|refine zEz ?_|refine zCw ?_|refine zCz ?_|refine zBz ?_|refine zDv ?_|refine zDy ?_|refine zAx ?_|refine zAv ?_)
  | refine zCv ?_|refine zEy rfl ?_|refine zIx ?_|refine zIv ?_
  | ((first|refine zGx rfl rfl rfl rfl rfl fun K_ hK_=>?_|refine zGy rfl rfl rfl rfl rfl fun K_ hK_=>?_);simp only [zAz,zDz,zFw,↓reduceIte,reduceCtorEq,Nat.reduceEqDiff,Bool.not_true,Bool.not_false];refine hK_ _ ?_;clear hK_ K_)
  | refine zDw (by decide) ?_
  | ((try first|refine zJx rfl rfl rfl ?_|refine zIy rfl rfl ?_|refine zJw rfl rfl rfl ?_|refine zIw rfl rfl ?_);(refine zIz fun Q_ hQ_=>?_;simp (disch:=first|omega|(simp only [List.length_cons,List.length_nil,List.length_append];omega)) only [bb,bp,zKx,↓reduceIte,reduceCtorEq,Nat.reduceEqDiff,Nat.reduceLT,Nat.reduceLeDiff,Nat.reduceAdd,Nat.reduceMul,Nat.reduceSub,Nat.reduceBEq,Int.reduceToNat,cond_true,cond_false,eq_self,beq_self_eq_true,zHz wf,zHx wf,zFz wf,zHy wf,zBx wf,zFy,tEvT2,zHw,zAw wf];first|(refine zCy (Q:=Q_) (fun hp_=>?_) (fun hp_=>?_) <;> first|(exfalso;omega)|(refine hQ_ _ _ ?_;clear hQ_ Q_))|(refine zBy (Q:=Q_) (fun hp_=>?_) (fun hp_=>?_) <;> first|(exfalso;omega)|(refine hQ_ _ _ ?_;clear hQ_ Q_))|(refine hQ_ _ _ ?_;clear hQ_ Q_)))
  | (refine zFv fun K_ hK_=>?_;simp (disch:=omega) only [zFx,zAz,zGz,↓reduceIte,reduceCtorEq,Nat.reduceEqDiff,Nat.reduceLT];refine hK_ _ ?_;clear hK_ K_)))
    refine zJv _ _ rfl (ret1 (by decide)) ?_
    simp only [zAz,↓reduceIte,reduceCtorEq,Nat.reduceEqDiff]
    refine yCz (by
      show (_ && flat (.fn 81 [] [.ptr _ 0,.ptr _ 0]))=false
      exact Bool.and_false _) ?_
    refine ⟨rfl,?_⟩
    rw [Nat.min_eq_left wf.wle]
  rw [key _ wf',X_X,nx_X,nx_X,X_w]
  rfl

def stv (x:Stt):AV:=.agg [ii (x.i:Int),ii x.a,ii x.b,ii (x.s:Int)]
structure StIn (hb:H) (p q:Pos) (a:AV) (i:Nat) (sp:List (Int × Int)):Prop where
  wf:Wf hb
  lp : ∀ J w,load1 p 0 (X hb J w)=some a
  lq : ∀ J w,load1 q 0 (X hb J w)=some (ii (i:Int))
  sl:Sl hb a 2 sp.length (zLy sp)
theorem StIn.of {h:H} (wf:Wf h) {L:List AO} {w k m:Nat} {a:AV} {turn:Int} {i:Nat} {sp:List (Int × Int)} (hw:w≤h.clock+L.length) (hk:L[k]? = some (.cells (zAy [a,ii turn]) 64)) (hm:L[m]? = some (.cells (zAy [ii (i:Int)]) 3)) (hs:Sl h a 2 sp.length (zLy sp)):StIn (X h L w) (nx h k) (nx h m) a i sp:=by
  have hk' : ∀ J:List AO,(L++J)[k]? = some (.cells (zAy [a,ii turn]) 64):=fun J=>by rw [List.getElem?_append_left (zHv hk),hk]
  have hm' : ∀ J:List AO,(L++J)[m]? = some (.cells (zAy [ii (i:Int)]) 3):=fun J=>by rw [List.getElem?_append_left (zHv hm),hm]
  exact ⟨wf.X hw,fun J w'=>by rw [X_X,zHx wf,hk'];rfl,fun J w'=>by rw [X_X,zHx wf,hm'];rfl,hs.up wf _ _⟩

theorem yRz (l:Pos):AV.cells (.yld l)=[.yld l]:=rfl
def IsDone (o:AO):Prop:=∃ g n tm ps as' b dd,o=AO.loop .done .ret g n tm ps as' b dd
theorem statesOf1 {t:TypeId} (ht:(107≠t∧51≠t∧2≠t)∧64≠t∧3≠t) (p q:Pos) (a:AV) (i:Nat) (sp:List (Int × Int)) (hi:1≤i∧i<sp.length) (hn:sp.length≤1000000) (hok : ∀ r ∈ sp,SpotOK r) :
    HandsJ Tryd.prog KK t (fun hb=>StIn hb p q a i sp) (.fn 81 [] [.ptr p 0,.ptr q 0]) ((stsOf sp i).map fun x=>[stv x]):=by
  intro l hb0 I D lo c d0 hlo0 hlow hc0 hd0 hI hDw mI mD hy h0
  have hB:=(hI 0 hb0 _ h0).1
  have wf:=hB.wf
  rw [yNw,pb_81]
  show WV ((om Tryd.prog KK).call (.fn 81 [.yld l,.ptr p 0,.ptr q 0]) hb0) _
  refine zKv (fn:=Tryd.f81) Tryd.func81 rfl rfl rfl rfl rfl ?_
  simp only [zKx]
  have hlp:=hB.lp
  have hlq:=hB.lq
  have i1:i - 1<sp.length:=by omega
  have i2:i<sp.length:=hi.2
  obtain ⟨id0,off0,hix0,hld0⟩:=hB.sl.at wf i1 yLz
  obtain ⟨id1,off1,hix1,hld1⟩:=hB.sl.at wf i2 yLz
  have hr0 : ∀ l w,loadAgg id0 off0 (some 2) (X hb0 l w)=some (.agg [ii (spot sp (i - 1)).1,ii (spot sp (i - 1)).2]):=fun l w=>by rw [(hld0 l w).2,zXx i1,zQy i1]
  have e1:((i:Int) - 1)=((i - 1:Nat):Int):=by omega
  (repeat' (first
  | (with_reducible first|refine zJz ?_|refine zGw ?_|refine zEw ?_|refine zEx ?_|refine zEv ?_|refine zJy ?_|refine zGv ?_|refine zBw ?_|refine zDx ?_|refine zBv ?_|refine zCx ?_|refine zEz ?_|refine zCw ?_|refine zCz ?_|refine zBz ?_|refine zDv ?_|refine zDy ?_|refine zAx ?_|refine zAv ?_)
  | refine zCv ?_|refine zEy rfl ?_|refine zIx ?_|refine zIv ?_
  | ((first|refine zGx rfl rfl rfl rfl rfl fun K_ hK_=>?_|refine zGy rfl rfl rfl rfl rfl fun K_ hK_=>?_);simp only [zAz,zDz,zFw,↓reduceIte,reduceCtorEq,Nat.reduceEqDiff,Bool.not_true,Bool.not_false];refine hK_ _ ?_;clear hK_ K_)
  | refine zDw (by decide) ?_
  | ((try first|refine zJx rfl rfl rfl ?_|refine zIy rfl rfl ?_|refine zJw rfl rfl rfl ?_|refine zIw rfl rfl ?_);(refine zIz fun Q_ hQ_=>?_;simp (disch:=first|omega|(simp only [List.length_cons,List.length_nil,List.length_append];omega)) only [bb,bp,zKx,↓reduceIte,reduceCtorEq,Nat.reduceEqDiff,Nat.reduceLT,Nat.reduceLeDiff,Nat.reduceAdd,Nat.reduceMul,Nat.reduceSub,Nat.reduceBEq,Int.reduceToNat,cond_true,cond_false,eq_self,beq_self_eq_true,hlp,hlq,e1,hix0,hr0,yRz,zHz wf,zHx wf,zFz wf,zHy wf,zBx wf,zFy,tEvT2,zHw,zAw wf];first|(refine zCy (Q:=Q_) (fun hp_=>?_) (fun hp_=>?_) <;> first|(exfalso;omega)|(refine hQ_ _ _ ?_;clear hQ_ Q_))|(refine zBy (Q:=Q_) (fun hp_=>?_) (fun hp_=>?_) <;> first|(exfalso;omega)|(refine hQ_ _ _ ?_;clear hQ_ Q_))|(refine hQ_ _ _ ?_;clear hQ_ Q_)|(refine xCz (offsets _ _ hb0 wf _ _ (by simp only [List.length_append,List.length_cons,List.length_nil];omega)) ?_;refine hQ_ _ _ ?_;clear hQ_ Q_)))
  | (refine zFv fun K_ hK_=>?_;simp (disch:=omega) only [zFx,zAz,zGz,↓reduceIte,reduceCtorEq,Nat.reduceEqDiff,Nat.reduceLT];refine hK_ _ ?_;clear hK_ K_)))
  simp only [List.length_cons,List.length_nil,List.cons_append,List.nil_append,yRz]
  refine yDx wf rfl (zFx (by decide)) fun o ho=>?_
  simp only [zAz,↓reduceIte,reduceCtorEq,Nat.reduceEqDiff,List.length_cons,List.length_nil,List.cons_append,List.nil_append,Nat.reduceAdd] at ho ⊢
  have hsp0:=hok _ (List.getElem_mem i1)
  have hsp1:=hok _ (List.getElem_mem i2)
  rw [zQy] at hsp0 hsp1
  have same0:=(hI 0 hb0 _ h0).2
  generalize hna:(offs (spot sp (i - 1))).length=na
  generalize hnb:(offs (spot sp i)).length=nb
  have na0:0<na:=by rw [← hna,zMv];have:=hsp0.2.2;omega
  have nb0:0<nb:=by rw [← hnb,zMv];have:=hsp1.2.2;omega
  refine WV.mono (offsets1 (nx hb0 1) (spot sp (i - 1)) ⟨hsp0.1,hsp0.2.1,hsp0.2.2.1⟩ (nx hb0 3) _ (fun k hx Jy=>∃ hb w0,hx=X hb [.cells (zAy [.yld l]) 107,.cells (zAy [ii (spot sp (i - 1)).1,ii (spot sp (i - 1)).2]) 51,.dfr,o] w0∧I (k * (nb * 3)) hb (.cells (zAy [.yld l]) 107 :: .cells (zAy [ii (spot sp (i - 1)).1,ii (spot sp (i - 1)).2]) 51 :: .dfr :: o :: Jy)∧w0≤hb.clock+4)
    (fun hx Jy=>∃ hb w0 o1,hx=X hb [.cells (zAy [.yld l]) 107,.cells (zAy [ii (spot sp (i - 1)).1,ii (spot sp (i - 1)).2]) 51,.dfr,o1] w0∧D hb (.cells (zAy [.yld l]) 107 :: .cells (zAy [ii (spot sp (i - 1)).1,ii (spot sp (i - 1)).2]) 51 :: .dfr :: o1 :: Jy)∧Same hb0 hb∧w0≤hb.clock+4∧IsDone o1) lo (fun k=>cmin c (k * (nb * 3)) (nb * 3 - 1)) d0 (by show lo≤hb0.clock;omega) (Nat.le_add_right _ _) (fun k=>Nat.le_trans (cmin_le hc0 _ _) (Nat.le_add_right _ _)) (Nat.le_trans hd0 (Nat.le_add_right _ _)) ?_ (fun hz Jy ⟨hb2,w2,o3,e,hd,_,hw,_⟩=>by rw [e];exact (hDw _ _ hd).X (by simp only [List.length_append,List.length_cons,List.length_nil];omega)) (fun i h J J2 ⟨hb2,w2,e,hi,hw⟩ hk=>⟨hb2,w2,e,mI _ _ _ _ hi (Keep.cons' (Keep.cons' (Keep.cons' (Keep.cons' hk)))),hw⟩) (fun h J J2 ⟨hb2,w2,o3,e,hd,h3⟩ hk=>⟨hb2,w2,o3,e,mD _ _ _ hd (Keep.cons' (Keep.cons' (Keep.cons' (Keep.cons' hk)))),h3⟩) ?_ ⟨hb0,hb0.clock,rfl,by rw [Nat.zero_mul];exact mI _ _ _ _ h0 (Keep.nil _),by omega⟩) ?_
  · rintro k hx Jy ⟨hb,w0,rfl,hIk,hw0⟩
    have hs:=(hI _ hb _ hIk).2
    refine ⟨?_,hs.XX rfl⟩
    rw [← hs.nx 1]
    exact RangeIn.of (hI _ hb _ hIk).1.wf (k:=1) hw0 rfl
  · clear hlp hlq hix0 hld0 hix1 hld1 hr0 wf hB
    rintro ka x hx hbx J w ⟨hb,w0,rfl,hIk,hw0⟩ hlo hw
    have hka:ka<na:=by have:=zHv hx;rwa [List.length_map,hna] at this
    have hxe:x=[ii ((spot sp (i - 1)).1+(ka:Int))]:=by
      rw [List.getElem?_map,yEw (by rw [← zMv,hna];exact hka)] at hx
      exact (Option.some.inj hx).symm
    subst hxe
    have hB:=(hI _ hb _ hIk).1
    have hs:=(hI _ hb _ hIk).2
    have wf:=hB.wf
    have hlp:=hB.lp
    have hlq:=hB.lq
    obtain ⟨id1,off1,hix1,hld1⟩:=hB.sl.at wf i2 yLz
    have hr1 : ∀ l w,loadAgg id1 off1 (some 2) (X hb l w)=some (.agg [ii (spot sp i).1,ii (spot sp i).2]):=fun l w=>by rw [(hld1 l w).2,zXx i2,zQy i2]
    rw [X_X,← hs.nx 3]
    simp only [List.cons_append,List.nil_append]
    refine yJx wf (k:=3) rfl ho (setParams1 rfl) ?_
    (repeat' (first
  | (with_reducible first|refine zJz ?_|refine zGw ?_|refine zEw ?_|refine zEx ?_|refine zEv ?_|refine zJy ?_|refine zGv ?_|refine zBw ?_|refine zDx ?_|refine zBv ?_|refine zCx ?_|refine zEz ?_|refine zCw ?_|refine zCz ?_|refine zBz ?_|refine zDv ?_|refine zDy ?_|refine zAx ?_|refine zAv ?_)
  | refine zCv ?_|refine zEy rfl ?_|refine zIx ?_|refine zIv ?_
  | ((first|refine zGx rfl rfl rfl rfl rfl fun K_ hK_=>?_|refine zGy rfl rfl rfl rfl rfl fun K_ hK_=>?_);simp only [zAz,zDz,zFw,↓reduceIte,reduceCtorEq,Nat.reduceEqDiff,Bool.not_true,Bool.not_false];refine hK_ _ ?_;clear hK_ K_)
  | refine zDw (by decide) ?_
  | ((try first|refine zJx rfl rfl rfl ?_|refine zIy rfl rfl ?_|refine zJw rfl rfl rfl ?_|refine zIw rfl rfl ?_);(refine zIz fun Q_ hQ_=>?_;simp (disch:=first|omega|(simp only [List.length_cons,List.length_nil,List.length_append];omega)) only [bb,bp,zKx,↓reduceIte,reduceCtorEq,Nat.reduceEqDiff,Nat.reduceLT,Nat.reduceLeDiff,Nat.reduceAdd,Nat.reduceMul,Nat.reduceSub,Nat.reduceBEq,Int.reduceToNat,cond_true,cond_false,eq_self,beq_self_eq_true,zHz wf,zHx wf,zFz wf,zHy wf,zBx wf,zFy,tEvT2,zHw,zAw wf];first|(refine zCy (Q:=Q_) (fun hp_=>?_) (fun hp_=>?_) <;> first|(exfalso;omega)|(refine hQ_ _ _ ?_;clear hQ_ Q_))|(refine zBy (Q:=Q_) (fun hp_=>?_) (fun hp_=>?_) <;> first|(exfalso;omega)|(refine hQ_ _ _ ?_;clear hQ_ Q_))|(refine hQ_ _ _ ?_;clear hQ_ Q_)))
  | (refine zFv fun K_ hK_=>?_;simp (disch:=omega) only [zFx,zAz,zGz,↓reduceIte,reduceCtorEq,Nat.reduceEqDiff,Nat.reduceLT];refine hK_ _ ?_;clear hK_ K_)))
    refine yVz wf (k:=3) rfl ho fun o' ho'=>?_
    simp only [List.set_cons_succ,List.set_cons_zero]
    (repeat' (first
  | (with_reducible first|refine zJz ?_|refine zGw ?_|refine zEw ?_|refine zEx ?_|refine zEv ?_|refine zJy ?_|refine zGv ?_|refine zBw ?_|refine zDx ?_|refine zBv ?_|refine zCx ?_|refine zEz ?_|refine zCw ?_|refine zCz ?_|refine zBz ?_|refine zDv ?_|refine zDy ?_|refine zAx ?_|refine zAv ?_)
  | refine zCv ?_|refine zEy rfl ?_|refine zIx ?_|refine zIv ?_
  | ((first|refine zGx rfl rfl rfl rfl rfl fun K_ hK_=>?_|refine zGy rfl rfl rfl rfl rfl fun K_ hK_=>?_);simp only [zAz,zDz,zFw,↓reduceIte,reduceCtorEq,Nat.reduceEqDiff,Bool.not_true,Bool.not_false];refine hK_ _ ?_;clear hK_ K_)
  | refine zDw (by decide) ?_
  | ((try first|refine zJx rfl rfl rfl ?_|refine zIy rfl rfl ?_|refine zJw rfl rfl rfl ?_|refine zIw rfl rfl ?_);(refine zIz fun Q_ hQ_=>?_;simp (disch:=first|omega|(simp only [List.length_cons,List.length_nil,List.length_append];omega)) only [bb,bp,zKx,↓reduceIte,reduceCtorEq,Nat.reduceEqDiff,Nat.reduceLT,Nat.reduceLeDiff,Nat.reduceAdd,Nat.reduceMul,Nat.reduceSub,Nat.reduceBEq,Int.reduceToNat,cond_true,cond_false,eq_self,beq_self_eq_true,hlp,hlq,hix1,hr1,zHz wf,zHx wf,zFz wf,zHy wf,zBx wf,zFy,tEvT2,zHw,zAw wf];first|(refine zCy (Q:=Q_) (fun hp_=>?_) (fun hp_=>?_) <;> first|(exfalso;omega)|(refine hQ_ _ _ ?_;clear hQ_ Q_))|(refine zBy (Q:=Q_) (fun hp_=>?_) (fun hp_=>?_) <;> first|(exfalso;omega)|(refine hQ_ _ _ ?_;clear hQ_ Q_))|(refine hQ_ _ _ ?_;clear hQ_ Q_)|(refine xCz (offsets _ _ hb wf _ _ (by simp only [List.length_append,List.length_cons,List.length_nil];omega)) ?_;refine hQ_ _ _ ?_;clear hQ_ Q_)))
  | (refine zFv fun K_ hK_=>?_;simp (disch:=omega) only [zFx,zAz,zGz,↓reduceIte,reduceCtorEq,Nat.reduceEqDiff,Nat.reduceLT];refine hK_ _ ?_;clear hK_ K_)))
    refine wAz wf (k:=3) rfl (zFx (by decide)) rfl ho' fun o2 ho2=>?_
    simp only [zAz,↓reduceIte,reduceCtorEq,Nat.reduceEqDiff,List.length_cons,List.length_nil,List.cons_append,List.nil_append,Nat.reduceAdd,List.length_append,List.append_assoc] at ho2 ⊢
    have sc:=hs.clock
    have hw':w≤hb.clock+4+J.length:=hw
    refine WV.mono (offsets1 (nx hb (J.length+1+1+1+1+1)) (spot sp i) ⟨hsp1.1,hsp1.2.1,hsp1.2.2.1⟩ (nx hb (J.length+2+1+1+1+1)) _ (fun kb hz Jz=>∃ hb2 w2 Jx,hz=X hb2 (.cells (zAy [.yld l]) 107 :: .cells (zAy [ii (spot sp (i - 1)).1,ii (spot sp (i - 1)).2]) 51 :: .dfr :: o' :: (Jx ++ .cells (zAy [ii ((spot sp (i - 1)).1+(ka:Int))]) 2 :: .cells (zAy [ii (spot sp i).1,ii (spot sp i).2]) 51 :: o2 :: [])) w2∧Chg t J Jx∧I (ka * (nb * 3)+kb * 3) hb2 (.cells (zAy [.yld l]) 107 :: .cells (zAy [ii (spot sp (i - 1)).1,ii (spot sp (i - 1)).2]) 51 :: .dfr :: o' :: (Jx ++ .cells (zAy [ii ((spot sp (i - 1)).1+(ka:Int))]) 2 :: .cells (zAy [ii (spot sp i).1,ii (spot sp i).2]) 51 :: o2 :: Jz))∧w2≤hb2.clock+(J.length+7))
      (fun hz Jz=>∃ hb2 w2 o3 Jx,hz=X hb2 (.cells (zAy [.yld l]) 107 :: .cells (zAy [ii (spot sp (i - 1)).1,ii (spot sp (i - 1)).2]) 51 :: .dfr :: o' :: (Jx ++ .cells (zAy [ii ((spot sp (i - 1)).1+(ka:Int))]) 2 :: .cells (zAy [ii (spot sp i).1,ii (spot sp i).2]) 51 :: o3 :: [])) w2∧Chg t J Jx∧D hb2 (.cells (zAy [.yld l]) 107 :: .cells (zAy [ii (spot sp (i - 1)).1,ii (spot sp (i - 1)).2]) 51 :: .dfr :: o' :: (Jx ++ .cells (zAy [ii ((spot sp (i - 1)).1+(ka:Int))]) 2 :: .cells (zAy [ii (spot sp i).1,ii (spot sp i).2]) 51 :: o3 :: Jz))∧Same hb0 hb2∧w2≤hb2.clock+(J.length+7)∧IsDone o3) lo (fun k=>cmin c (ka * (nb * 3)+k * 3) 2) d0 (by simp only [X_w];omega) (by simp only [X_w,zQz,List.length_append,List.length_cons,List.length_nil];omega) (fun k=>by have:=cmin_le hc0 (ka * (nb * 3)+k * 3) 2;simp only [zQz];omega) (by simp only [zQz];omega) ?_ (fun hz Jy ⟨hb2,w2,o3,Jx,e,hcx,hd,_,hw,_⟩=>by rw [e];have:=hcx.1;exact (hDw _ _ hd).X (by simp only [List.length_append,List.length_cons,List.length_nil];omega)) (fun i h J J2 ⟨hb2,w2,Jx,e,hcx,hi,hw⟩ hk=>⟨hb2,w2,Jx,e,hcx,mI _ _ _ _ hi (Keep.cons' (Keep.cons' (Keep.cons' (Keep.cons' (Keep.app rfl (Keep.rfl' _) (Keep.cons' (Keep.cons' (Keep.cons' hk)))))))),hw⟩) (fun h J J2 ⟨hb2,w2,o3,Jx,e,hcx,hd,h3⟩ hk=>⟨hb2,w2,o3,Jx,e,hcx,mD _ _ _ hd (Keep.cons' (Keep.cons' (Keep.cons' (Keep.cons' (Keep.app rfl (Keep.rfl' _) (Keep.cons' (Keep.cons' (Keep.cons' hk)))))))),h3⟩) ?_ ⟨hb,_,J,rfl,Chg.rfl' _,mI _ _ _ _ (by simpa using hIk) (by rw [ho,ho'];exact Keep.cons' (Keep.cons' (Keep.cons' (Keep.cons (Keep.more _ _) zQw)))),by omega⟩) ?_
    · rintro kb hz Jz ⟨hb2,w2,Jx,rfl,hcx,hIk2,hw2⟩
      have hlx:=hcx.1
      have hs2:=(hI _ hb2 _ hIk2).2
      refine ⟨?_,Same.XX ⟨hs2.next.trans hs.next.symm,hs2.clock.trans hs.clock.symm⟩ (by simp only [List.length_append,List.length_cons,hlx])⟩
      rw [hs.nx,← hs2.nx,← hlx]
      exact RangeIn.of (hI _ hb2 _ hIk2).1.wf (k:=Jx.length+1+1+1+1+1) (by simp only [List.length_append,List.length_cons,List.length_nil];omega) (by simp only [List.getElem?_cons_succ,zLv,List.getElem?_cons_zero])
    · clear hlp hlq hix1 hld1 hr1 wf hB
      rintro kb x hx2 hz J2 w2 ⟨hb2,w2',Jx,rfl,hcx,hIk2,hw2'⟩ hlo2 hw2
      have hlx:=hcx.1
      have hkb:kb<nb:=by have:=zHv hx2;rwa [List.length_map,hnb] at this
      have hxe:x=[ii ((spot sp i).1+(kb:Int))]:=by
        rw [List.getElem?_map,yEw (by rw [← zMv,hnb];exact hkb)] at hx2
        exact (Option.some.inj hx2).symm
      subst hxe
      have SB:=(hI _ hb2 _ hIk2).2
      have hB2:=(hI _ hb2 _ hIk2).1
      have hs2:=(hI _ hb2 _ hIk2).2
      have wf:=hB2.wf
      have hlq:=hB2.lq
      rw [X_X,hs.nx,← hs2.nx,← hlx]
      simp only [List.cons_append,List.nil_append,List.append_assoc]
      refine yJx wf (k:=Jx.length+2+1+1+1+1) (o:=o2) (by simp only [List.getElem?_cons_succ,zLv,List.getElem?_cons_zero]) ho2 (setParams1 rfl) ?_
      (repeat' (first
  | (with_reducible first|refine zJz ?_|refine zGw ?_|refine zEw ?_|refine zEx ?_|refine zEv ?_|refine zJy ?_|refine zGv ?_|refine zBw ?_|refine zDx ?_|refine zBv ?_|refine zCx ?_|refine zEz ?_|refine zCw ?_|refine zCz ?_|refine zBz ?_|refine zDv ?_|refine zDy ?_|refine zAx ?_|refine zAv ?_)
  | refine zCv ?_|refine zEy rfl ?_|refine zIx ?_|refine zIv ?_
  | ((first|refine zGx rfl rfl rfl rfl rfl fun K_ hK_=>?_|refine zGy rfl rfl rfl rfl rfl fun K_ hK_=>?_);simp only [zAz,zDz,zFw,↓reduceIte,reduceCtorEq,Nat.reduceEqDiff,Bool.not_true,Bool.not_false];refine hK_ _ ?_;clear hK_ K_)
  | refine zDw (by decide) ?_
  | ((try first|refine zJx rfl rfl rfl ?_|refine zIy rfl rfl ?_|refine zJw rfl rfl rfl ?_|refine zIw rfl rfl ?_);(refine zIz fun Q_ hQ_=>?_;simp (disch:=first|omega|(simp only [List.length_cons,List.length_nil,List.length_append];omega)) only [bb,bp,zKx,↓reduceIte,reduceCtorEq,Nat.reduceEqDiff,Nat.reduceLT,Nat.reduceLeDiff,Nat.reduceAdd,Nat.reduceMul,Nat.reduceSub,Nat.reduceBEq,Int.reduceToNat,cond_true,cond_false,eq_self,beq_self_eq_true,zHz wf,zHx wf,zFz wf,zHy wf,zBx wf,zFy,tEvT2,zHw,zAw wf];first|(refine zCy (Q:=Q_) (fun hp_=>?_) (fun hp_=>?_) <;> first|(exfalso;omega)|(refine hQ_ _ _ ?_;clear hQ_ Q_))|(refine zBy (Q:=Q_) (fun hp_=>?_) (fun hp_=>?_) <;> first|(exfalso;omega)|(refine hQ_ _ _ ?_;clear hQ_ Q_))|(refine hQ_ _ _ ?_;clear hQ_ Q_)))
  | (refine zFv fun K_ hK_=>?_;simp (disch:=omega) only [zFx,zAz,zGz,↓reduceIte,reduceCtorEq,Nat.reduceEqDiff,Nat.reduceLT];refine hK_ _ ?_;clear hK_ K_)))
      refine yVz wf (k:=Jx.length+2+1+1+1+1) (o:=o2) (by simp only [List.getElem?_cons_succ,zLv,List.getElem?_cons_zero]) ho2 fun o4 ho4=>?_
      simp only [List.set_cons_succ,List.set_cons_zero,zNx]
      (repeat' (first
  | (with_reducible first|refine zJz ?_|refine zGw ?_|refine zEw ?_|refine zEx ?_|refine zEv ?_|refine zJy ?_|refine zGv ?_|refine zBw ?_|refine zDx ?_|refine zBv ?_|refine zCx ?_|refine zEz ?_|refine zCw ?_|refine zCz ?_|refine zBz ?_|refine zDv ?_|refine zDy ?_|refine zAx ?_|refine zAv ?_)
  | refine zCv ?_|refine zEy rfl ?_|refine zIx ?_|refine zIv ?_
  | ((first|refine zGx rfl rfl rfl rfl rfl fun K_ hK_=>?_|refine zGy rfl rfl rfl rfl rfl fun K_ hK_=>?_);simp only [zAz,zDz,zFw,↓reduceIte,reduceCtorEq,Nat.reduceEqDiff,Bool.not_true,Bool.not_false];refine hK_ _ ?_;clear hK_ K_)
  | refine zDw (by decide) ?_
  | ((try first|refine zJx rfl rfl rfl ?_|refine zIy rfl rfl ?_|refine zJw rfl rfl rfl ?_|refine zIw rfl rfl ?_);(refine zIz fun Q_ hQ_=>?_;simp (disch:=first|omega|(simp only [List.length_cons,List.length_nil,List.length_append];omega)) only [bb,bp,zKx,↓reduceIte,reduceCtorEq,Nat.reduceEqDiff,Nat.reduceLT,Nat.reduceLeDiff,Nat.reduceAdd,Nat.reduceMul,Nat.reduceSub,Nat.reduceBEq,Int.reduceToNat,cond_true,cond_false,eq_self,beq_self_eq_true,zHz wf,zHx wf,zFz wf,zHy wf,zBx wf,zFy,tEvT2,zHw,zAw wf];first|(refine zCy (Q:=Q_) (fun hp_=>?_) (fun hp_=>?_) <;> first|(exfalso;omega)|(refine hQ_ _ _ ?_;clear hQ_ Q_))|(refine zBy (Q:=Q_) (fun hp_=>?_) (fun hp_=>?_) <;> first|(exfalso;omega)|(refine hQ_ _ _ ?_;clear hQ_ Q_))|(refine hQ_ _ _ ?_;clear hQ_ Q_)))
  | (refine zFv fun K_ hK_=>?_;simp (disch:=omega) only [zFx,zAz,zGz,↓reduceIte,reduceCtorEq,Nat.reduceEqDiff,Nat.reduceLT];refine hK_ _ ?_;clear hK_ K_)))
      have sc2:=hs2.clock
      have hw2b:w2≤hb2.clock+(J.length+7)+J2.length:=by simp only [zQz,List.length_append,List.length_cons,List.length_nil] at hw2;omega
      refine zTv (fun (s:Nat) f d h'=>s≤3∧f 2 = .ptr q 0∧f 3 = .ptr (nx hb0 0) 0∧f 4 = .ptr (nx hb0 (J.length+1+1+1+1)) 0∧f 5=ii ((spot sp i).1+(kb:Int))∧f 24=ii (s:Int)∧d=[] ∧
        ∃ hb3 Jw J2w J3 w3,h'=X hb3 (.cells (zAy [.yld l]) 107 :: .cells (zAy [ii (spot sp (i - 1)).1,ii (spot sp (i - 1)).2]) 51 :: .dfr :: o' :: (Jw ++ .cells (zAy [ii ((spot sp (i - 1)).1+(ka:Int))]) 2 :: .cells (zAy [ii (spot sp i).1,ii (spot sp i).2]) 51 :: o4 :: (J2w++J3))) w3∧Chg t J Jw∧Chg t J2 J2w∧I (ka * (nb * 3)+(kb * 3+s)) hb3 (.cells (zAy [.yld l]) 107 :: .cells (zAy [ii (spot sp (i - 1)).1,ii (spot sp (i - 1)).2]) 51 :: .dfr :: o' :: (Jw ++ .cells (zAy [ii ((spot sp (i - 1)).1+(ka:Int))]) 2 :: .cells (zAy [ii (spot sp i).1,ii (spot sp i).2]) 51 :: o4 :: (J2w++J3)))∧lo≤w3∧w3≤w2∧(∀ j,j<s→w3<c (ka * (nb * 3)+kb * 3+j))) (fun s=>3 - s) ?_ (3+1) 0 (by omega) ?_
      · clear hB2 wf hlq hIk2 hs2 hlo2 hw2'
        rintro s f d h' ⟨hs3,g2,g3,g4,g5,g24,rfl,hb3,Jw,J2w,J3,w3,rfl,hcw,hcw2,hI3,hlo3,hw3,hc3⟩
        have hlw:=hcw.1
        have hlw2:=hcw2.1
        have hB3:=(hI _ hb3 _ hI3).1
        have hs2:=(hI _ hb3 _ hI3).2
        have sc3:=hs2.clock
        have wf:=hB3.wf
        have hlq:=hB3.lq
        rw [← hs2.nx] at g3 g4
        rw [← hlw] at g4
        by_cases hlt:s<3
        · have hidx:((stsOf sp i).map fun x=>[stv x])[ka * (nb * 3)+(kb * 3+s)]? = some [.agg [ii (i:Int),ii ((spot sp (i - 1)).1+(ka:Int)),ii ((spot sp i).1+(kb:Int)),ii (s:Int)]]:=by
            have:=stsOf_get (sp:=sp) (i:=i) (ka:=ka) (kb:=kb) (s:=s) (by omega) (by omega) hlt
            rw [hnb] at this
            rw [List.getElem?_map,this];rfl
          (repeat' (first
  | (with_reducible first|refine zJz ?_|refine zGw ?_|refine zEw ?_|refine zEx ?_|refine zEv ?_|refine zJy ?_|refine zGv ?_|refine zBw ?_|refine zDx ?_|refine zBv ?_|refine zCx ?_|refine zEz ?_|refine zCw ?_|refine zCz ?_|refine zBz ?_|refine zDv ?_|refine zDy ?_|refine zAx ?_|refine zAv ?_)
  | refine zCv ?_|refine zEy rfl ?_|refine zIx ?_|refine zIv ?_
  | ((first|refine zGx rfl rfl rfl rfl rfl fun K_ hK_=>?_|refine zGy rfl rfl rfl rfl rfl fun K_ hK_=>?_);simp only [zAz,zDz,zFw,↓reduceIte,reduceCtorEq,Nat.reduceEqDiff,Bool.not_true,Bool.not_false];refine hK_ _ ?_;clear hK_ K_)
  | refine zDw (by decide) ?_
  | ((try first|refine zJx rfl rfl rfl ?_|refine zIy rfl rfl ?_|refine zJw rfl rfl rfl ?_|refine zIw rfl rfl ?_);(refine zIz fun Q_ hQ_=>?_;simp (disch:=first|omega|(simp only [List.length_cons,List.length_nil,List.length_append];omega)) only [bb,bp,zKx,↓reduceIte,reduceCtorEq,Nat.reduceEqDiff,Nat.reduceLT,Nat.reduceLeDiff,Nat.reduceAdd,Nat.reduceMul,Nat.reduceSub,Nat.reduceBEq,Int.reduceToNat,cond_true,cond_false,eq_self,beq_self_eq_true,g2,g3,g4,g5,g24,hlq,zHz wf,zHx wf,zFz wf,zHy wf,zBx wf,zFy,tEvT2,zHw,zAw wf];first|(refine zCy (Q:=Q_) (fun hp_=>?_) (fun hp_=>?_) <;> first|(exfalso;omega)|(refine hQ_ _ _ ?_;clear hQ_ Q_))|(refine zBy (Q:=Q_) (fun hp_=>?_) (fun hp_=>?_) <;> first|(exfalso;omega)|(refine hQ_ _ _ ?_;clear hQ_ Q_))|(refine hQ_ _ _ ?_;clear hQ_ Q_)))
  | (refine zFv fun K_ hK_=>?_;simp (disch:=omega) only [zFx,zAz,zGz,↓reduceIte,reduceCtorEq,Nat.reduceEqDiff,Nat.reduceLT];refine hK_ _ ?_;clear hK_ K_)))
          refine zJx rfl rfl rfl ?_
          refine zIz fun Q_ hQ_=>?_
          simp (disch:=first|omega|(simp only [List.length_cons,List.length_nil,List.length_append];omega)) only [bb,bp,zKx,↓reduceIte,reduceCtorEq,Nat.reduceEqDiff,Nat.reduceLT,Nat.reduceLeDiff,Nat.reduceAdd,Nat.reduceMul,Nat.reduceSub,Nat.reduceBEq,Int.reduceToNat,cond_true,cond_false,eq_self,beq_self_eq_true,yRx,tEvT2,zHw,zAw wf]
          refine xZv (hy _ _ hidx hb3 _ w3 hI3 hlo3 (by simp only [List.length_append,List.length_cons,List.length_nil];omega)) (fun hb' JZ J' w' s' hch hl' hle'=>⟨fun hw' hI'=>hQ_ _ _ ?_,fun hw' hD'=>hQ_ _ _ ?_⟩)
          · clear hQ_ Q_
            have sc':=s'.clock
            obtain ⟨Z1,rfl,q1⟩:=hch.cons (zUy ht.1.1)
            obtain ⟨Z2,rfl,q2⟩:=q1.cons (zUy ht.1.2.1)
            obtain ⟨Z3,rfl,q3⟩:=q2.cons yIw
            obtain ⟨Z4,rfl,q4⟩:=q3.cons (by rw [ho'];exact zQw)
            obtain ⟨Jv,Z5,rfl,qJ,q5⟩:=q4.app
            obtain ⟨Z6,rfl,q6⟩:=q5.cons (zUy ht.1.2.2)
            obtain ⟨Z7,rfl,q7⟩:=q6.cons (zUy ht.1.2.1)
            obtain ⟨Z8,rfl,q8⟩:=q7.cons (by rw [ho4];exact zQw)
            obtain ⟨J2v,J3v,rfl,qJ2,qJ3⟩:=q8.app
            have hlv:=(hcw.trans qJ).1
            (repeat' (first
  | (with_reducible first|refine zJz ?_|refine zGw ?_|refine zEw ?_|refine zEx ?_|refine zEv ?_|refine zJy ?_|refine zGv ?_|refine zBw ?_|refine zDx ?_|refine zBv ?_|refine zCx ?_|refine zEz ?_|refine zCw ?_|refine zCz ?_|refine zBz ?_|refine zDv ?_|refine zDy ?_|refine zAx ?_|refine zAv ?_)
  | refine zCv ?_|refine zEy rfl ?_|refine zIx ?_|refine zIv ?_
  | ((first|refine zGx rfl rfl rfl rfl rfl fun K_ hK_=>?_|refine zGy rfl rfl rfl rfl rfl fun K_ hK_=>?_);simp only [zAz,zDz,zFw,↓reduceIte,reduceCtorEq,Nat.reduceEqDiff,Bool.not_true,Bool.not_false];refine hK_ _ ?_;clear hK_ K_)
  | refine zDw (by decide) ?_
  | ((try first|refine zJx rfl rfl rfl ?_|refine zIy rfl rfl ?_|refine zJw rfl rfl rfl ?_|refine zIw rfl rfl ?_);(refine zIz fun Q_ hQ_=>?_;simp (disch:=first|omega|(simp only [List.length_cons,List.length_nil,List.length_append];omega)) only [bb,bp,zKx,↓reduceIte,reduceCtorEq,Nat.reduceEqDiff,Nat.reduceLT,Nat.reduceLeDiff,Nat.reduceAdd,Nat.reduceMul,Nat.reduceSub,Nat.reduceBEq,Int.reduceToNat,cond_true,cond_false,eq_self,beq_self_eq_true,g24,tEvT2,zHw,zAw wf];first|(refine zCy (Q:=Q_) (fun hp_=>?_) (fun hp_=>?_) <;> first|(exfalso;omega)|(refine hQ_ _ _ ?_;clear hQ_ Q_))|(refine zBy (Q:=Q_) (fun hp_=>?_) (fun hp_=>?_) <;> first|(exfalso;omega)|(refine hQ_ _ _ ?_;clear hQ_ Q_))|(refine hQ_ _ _ ?_;clear hQ_ Q_)))
  | (refine zFv fun K_ hK_=>?_;simp (disch:=omega) only [zFx,zAz,zGz,↓reduceIte,reduceCtorEq,Nat.reduceEqDiff,Nat.reduceLT];refine hK_ _ ?_;clear hK_ K_)))
            exact zKy (s+1) (by omega) ⟨hlt,by simp only [zAz,↓reduceIte,reduceCtorEq,Nat.reduceEqDiff];exact g2,by simp only [zAz,↓reduceIte,reduceCtorEq,Nat.reduceEqDiff];rw [g3,hs2.nx],by simp only [zAz,↓reduceIte,reduceCtorEq,Nat.reduceEqDiff];rw [g4,hs2.nx,hlw],by simp only [zAz,↓reduceIte,reduceCtorEq,Nat.reduceEqDiff];exact g5,by simp only [zAz,↓reduceIte,reduceCtorEq,Nat.reduceEqDiff];rfl,rfl,hb',Jv,J2v,J3v++J',w',by simp only [List.append_assoc,List.cons_append],hcw.trans qJ,hcw2.trans qJ2,by simp only [List.append_assoc,List.cons_append] at hI';exact hI',hl',by omega,fun j hj=>by
              by_cases e:j=s
              · rw [e,Nat.add_assoc];exact hw'
              · have:=hc3 j (by omega);omega⟩
          · clear hQ_ Q_
            have sc':=s'.clock
            obtain ⟨Z1,rfl,q1⟩:=hch.cons (zUy ht.1.1)
            obtain ⟨Z2,rfl,q2⟩:=q1.cons (zUy ht.1.2.1)
            obtain ⟨Z3,rfl,q3⟩:=q2.cons yIw
            obtain ⟨Z4,rfl,q4⟩:=q3.cons (by rw [ho'];exact zQw)
            obtain ⟨Jv,Z5,rfl,qJ,q5⟩:=q4.app
            obtain ⟨Z6,rfl,q6⟩:=q5.cons (zUy ht.1.2.2)
            obtain ⟨Z7,rfl,q7⟩:=q6.cons (zUy ht.1.2.1)
            obtain ⟨Z8,rfl,q8⟩:=q7.cons (by rw [ho4];exact zQw)
            obtain ⟨J2v,J3v,rfl,qJ2,qJ3⟩:=q8.app
            have hlv:=(hcw.trans qJ).1
            (repeat' (first
  | (with_reducible first|refine zJz ?_|refine zGw ?_|refine zEw ?_|refine zEx ?_|refine zEv ?_|refine zJy ?_|refine zGv ?_|refine zBw ?_|refine zDx ?_|refine zBv ?_|refine zCx ?_|refine zEz ?_|refine zCw ?_|refine zCz ?_|refine zBz ?_|refine zDv ?_|refine zDy ?_|refine zAx ?_|refine zAv ?_)
  | refine zCv ?_|refine zEy rfl ?_|refine zIx ?_|refine zIv ?_
  | ((first|refine zGx rfl rfl rfl rfl rfl fun K_ hK_=>?_|refine zGy rfl rfl rfl rfl rfl fun K_ hK_=>?_);simp only [zAz,zDz,zFw,↓reduceIte,reduceCtorEq,Nat.reduceEqDiff,Bool.not_true,Bool.not_false];refine hK_ _ ?_;clear hK_ K_)
  | refine zDw (by decide) ?_
  | ((try first|refine zJx rfl rfl rfl ?_|refine zIy rfl rfl ?_|refine zJw rfl rfl rfl ?_|refine zIw rfl rfl ?_);(refine zIz fun Q_ hQ_=>?_;simp (disch:=first|omega|(simp only [List.length_cons,List.length_nil,List.length_append];omega)) only [bb,bp,zKx,↓reduceIte,reduceCtorEq,Nat.reduceEqDiff,Nat.reduceLT,Nat.reduceLeDiff,Nat.reduceAdd,Nat.reduceMul,Nat.reduceSub,Nat.reduceBEq,Int.reduceToNat,cond_true,cond_false,eq_self,beq_self_eq_true,g24,tEvT2,zHw,zAw wf];first|(refine zCy (Q:=Q_) (fun hp_=>?_) (fun hp_=>?_) <;> first|(exfalso;omega)|(refine hQ_ _ _ ?_;clear hQ_ Q_))|(refine zBy (Q:=Q_) (fun hp_=>?_) (fun hp_=>?_) <;> first|(exfalso;omega)|(refine hQ_ _ _ ?_;clear hQ_ Q_))|(refine hQ_ _ _ ?_;clear hQ_ Q_)))
  | (refine zFv fun K_ hK_=>?_;simp (disch:=omega) only [zFx,zAz,zGz,↓reduceIte,reduceCtorEq,Nat.reduceEqDiff,Nat.reduceLT];refine hK_ _ ?_;clear hK_ K_)))
            rw [hlx,SB.nx (J.length+2+1+1+1+1),← (hs2.trans s').nx (J.length+2+1+1+1+1),← hlv]
            simp only [List.append_assoc,List.cons_append] at hD' ⊢
            refine ySz (hDw _ _ hD') (k:=Jv.length+2+1+1+1+1) (o:=o4) (by simp only [List.getElem?_cons_succ,zLv,List.getElem?_cons_zero]) ho4 fun o5 ho5=>?_
            simp only [List.set_cons_succ,List.set_cons_zero,zNx]
            have hkk:=mD _ _ (.cells (zAy [.yld l]) 107 :: .cells (zAy [ii (spot sp (i - 1)).1,ii (spot sp (i - 1)).2]) 51 :: .dfr :: o' :: (Jv ++ .cells (zAy [ii ((spot sp (i - 1)).1+(ka:Int))]) 2 :: .cells (zAy [ii (spot sp i).1,ii (spot sp i).2]) 51 :: o5 :: (J2v++(J3v++J')))) hD' (by rw [ho4,ho5];exact Keep.cons' (Keep.cons' (Keep.cons' (Keep.cons' (Keep.app rfl (Keep.rfl' _) (Keep.cons' (Keep.cons' (Keep.cons (Keep.rfl' _) zQw))))))))
            refine ⟨X hb' (.cells (zAy [.yld l]) 107 :: .cells (zAy [ii (spot sp (i - 1)).1,ii (spot sp (i - 1)).2]) 51 :: .dfr :: o' :: (Jv ++ .cells (zAy [ii ((spot sp (i - 1)).1+(ka:Int))]) 2 :: .cells (zAy [ii (spot sp i).1,ii (spot sp i).2]) 51 :: o5 :: [])) hb'.clock,J2v,J3v++J',_,by rw [X_X];first|rfl|(simp only [List.cons_append,List.append_assoc,List.nil_append];rfl)|(simp only [List.append_assoc,List.cons_append];rfl),Same.XX ⟨(hs2.trans s').next.trans SB.next.symm,(hs2.trans s').clock.trans SB.clock.symm⟩ (by simp only [List.length_cons,List.length_append,hlv,hlx]),hcw2.trans qJ2,by omega,by omega,.inr ⟨rfl,by omega,hb',hb'.clock,o5,Jv,rfl,hcw.trans qJ,hkk,hs2.trans s',by omega,by rw [ho5];exact ⟨_,_,_,_,_,_,_,rfl⟩⟩⟩
        · have hke:s=3:=by omega
          subst hke
          (repeat' (first
  | (with_reducible first|refine zJz ?_|refine zGw ?_|refine zEw ?_|refine zEx ?_|refine zEv ?_|refine zJy ?_|refine zGv ?_|refine zBw ?_|refine zDx ?_|refine zBv ?_|refine zCx ?_|refine zEz ?_|refine zCw ?_|refine zCz ?_|refine zBz ?_|refine zDv ?_|refine zDy ?_|refine zAx ?_|refine zAv ?_)
  | refine zCv ?_|refine zEy rfl ?_|refine zIx ?_|refine zIv ?_
  | ((first|refine zGx rfl rfl rfl rfl rfl fun K_ hK_=>?_|refine zGy rfl rfl rfl rfl rfl fun K_ hK_=>?_);simp only [zAz,zDz,zFw,↓reduceIte,reduceCtorEq,Nat.reduceEqDiff,Bool.not_true,Bool.not_false];refine hK_ _ ?_;clear hK_ K_)
  | refine zDw (by decide) ?_
  | ((try first|refine zJx rfl rfl rfl ?_|refine zIy rfl rfl ?_|refine zJw rfl rfl rfl ?_|refine zIw rfl rfl ?_);(refine zIz fun Q_ hQ_=>?_;simp (disch:=first|omega|(simp only [List.length_cons,List.length_nil,List.length_append];omega)) only [bb,bp,zKx,↓reduceIte,reduceCtorEq,Nat.reduceEqDiff,Nat.reduceLT,Nat.reduceLeDiff,Nat.reduceAdd,Nat.reduceMul,Nat.reduceSub,Nat.reduceBEq,Int.reduceToNat,cond_true,cond_false,eq_self,beq_self_eq_true,g2,g3,g4,g5,g24,zHz wf,zHx wf,zFz wf,zHy wf,zBx wf,zFy,tEvT2,zHw,zAw wf];first|(refine zCy (Q:=Q_) (fun hp_=>?_) (fun hp_=>?_) <;> first|(exfalso;omega)|(refine hQ_ _ _ ?_;clear hQ_ Q_))|(refine zBy (Q:=Q_) (fun hp_=>?_) (fun hp_=>?_) <;> first|(exfalso;omega)|(refine hQ_ _ _ ?_;clear hQ_ Q_))|(refine hQ_ _ _ ?_;clear hQ_ Q_)))
  | (refine zFv fun K_ hK_=>?_;simp (disch:=omega) only [zFx,zAz,zGz,↓reduceIte,reduceCtorEq,Nat.reduceEqDiff,Nat.reduceLT];refine hK_ _ ?_;clear hK_ K_)))
          rw [hlx,SB.nx (J.length+2+1+1+1+1),← hs2.nx (J.length+2+1+1+1+1),← hlw]
          refine yHv wf (k:=Jw.length+2+1+1+1+1) (o:=o4) (by simp only [List.getElem?_cons_succ,zLv,List.getElem?_cons_zero]) ho4 ?_
          simp only [List.set_cons_succ,List.set_cons_zero,zNx]
          rw [← ho2]
          have hkk:=mI _ _ _ (.cells (zAy [.yld l]) 107 :: .cells (zAy [ii (spot sp (i - 1)).1,ii (spot sp (i - 1)).2]) 51 :: .dfr :: o' :: (Jw ++ .cells (zAy [ii ((spot sp (i - 1)).1+(ka:Int))]) 2 :: .cells (zAy [ii (spot sp i).1,ii (spot sp i).2]) 51 :: o2 :: (J2w++J3))) hI3 (by rw [ho4,ho2];exact Keep.cons' (Keep.cons' (Keep.cons' (Keep.cons' (Keep.app rfl (Keep.rfl' _) (Keep.cons' (Keep.cons' (Keep.cons (Keep.rfl' _) zQw))))))))
          refine ⟨X hb3 (.cells (zAy [.yld l]) 107 :: .cells (zAy [ii (spot sp (i - 1)).1,ii (spot sp (i - 1)).2]) 51 :: .dfr :: o' :: (Jw ++ .cells (zAy [ii ((spot sp (i - 1)).1+(ka:Int))]) 2 :: .cells (zAy [ii (spot sp i).1,ii (spot sp i).2]) 51 :: o2 :: [])) hb3.clock,J2w,J3,_,by rw [X_X];first|rfl|(simp only [List.cons_append,List.append_assoc,List.nil_append];rfl)|(simp only [List.append_assoc,List.cons_append];rfl),Same.XX ⟨hs2.next.trans SB.next.symm,sc3.trans SB.clock.symm⟩ (by simp only [List.length_cons,List.length_append,hlw,hlx]),hcw2,by omega,by omega,.inl ⟨rfl,xVz.2 fun j hj=>by have:=hc3 j (by omega);omega,hb3,hb3.clock,Jw,rfl,hcw,by rw [Nat.succ_mul];exact hkk,by omega⟩⟩
      · exact ⟨Nat.zero_le _,by simp only [zAz,↓reduceIte,reduceCtorEq,Nat.reduceEqDiff],by simp only [zAz,↓reduceIte,reduceCtorEq,Nat.reduceEqDiff],by simp only [zAz,↓reduceIte,reduceCtorEq,Nat.reduceEqDiff];rw [hs.nx],by simp only [zAz,↓reduceIte,reduceCtorEq,Nat.reduceEqDiff],by simp only [zAz,↓reduceIte,reduceCtorEq,Nat.reduceEqDiff];rfl,rfl,hb2,Jx,J2,[],_,by simp only [List.append_nil];rfl,hcx,Chg.rfl' _,mI _ _ _ _ hIk2 (by rw [ho4,ho2,List.append_nil];exact Keep.cons' (Keep.cons' (Keep.cons' (Keep.cons' (Keep.app rfl (Keep.rfl' _) (Keep.cons' (Keep.cons' (Keep.cons (Keep.rfl' _) zQw)))))))),by omega,by omega,fun j h=>absurd h (Nat.not_lt_zero _)⟩
    · clear hlp hlq hix1 hld1 hr1 wf hB
      rintro v h' ⟨hz,J3,w3,rfl,hsz,hlo3,hw3,⟨⟨hb2,w2,Jx,rfl,hcx,hI2,hw2⟩,hc3⟩|⟨⟨hb2,w2,o3,Jx,rfl,hcx,hD2,hs2,hw2,hdn⟩,hc3⟩⟩
      all_goals have hlx:=hcx.1
      · rw [List.length_map,hnb] at hI2 hc3
        have hB2:=(hI _ hb2 _ hI2).1
        have hs2:=(hI _ hb2 _ hI2).2
        have sc2:=hs2.clock
        have wf:=hB2.wf
        have hw3':w3≤w:=by simp only [X_w] at hw3;omega
        rw [X_X,hs.nx (J.length+2+1+1+1+1),← hs2.nx (J.length+2+1+1+1+1),← hlx]
        simp only [List.cons_append,List.nil_append,List.append_assoc]
        refine zYv wf (k:=Jx.length+2+1+1+1+1) (o:=o2) (by simp only [List.getElem?_cons_succ,zLv,List.getElem?_cons_zero]) ho2 (by decide) fun o6 ho6=>?_
        simp only [List.set_cons_succ,List.set_cons_zero,zNx]
        (repeat' (first
  | (with_reducible first|refine zJz ?_|refine zGw ?_|refine zEw ?_|refine zEx ?_|refine zEv ?_|refine zJy ?_|refine zGv ?_|refine zBw ?_|refine zDx ?_|refine zBv ?_|refine zCx ?_|refine zEz ?_|refine zCw ?_|refine zCz ?_|refine zBz ?_|refine zDv ?_|refine zDy ?_|refine zAx ?_|refine zAv ?_)
  | refine zCv ?_|refine zEy rfl ?_|refine zIx ?_|refine zIv ?_
  | ((first|refine zGx rfl rfl rfl rfl rfl fun K_ hK_=>?_|refine zGy rfl rfl rfl rfl rfl fun K_ hK_=>?_);simp only [zAz,zDz,zFw,↓reduceIte,reduceCtorEq,Nat.reduceEqDiff,Bool.not_true,Bool.not_false];refine hK_ _ ?_;clear hK_ K_)
  | refine zDw (by decide) ?_
  | ((try first|refine zJx rfl rfl rfl ?_|refine zIy rfl rfl ?_|refine zJw rfl rfl rfl ?_|refine zIw rfl rfl ?_);(refine zIz fun Q_ hQ_=>?_;simp (disch:=first|omega|(simp only [List.length_cons,List.length_nil,List.length_append];omega)) only [bb,bp,zKx,↓reduceIte,reduceCtorEq,Nat.reduceEqDiff,Nat.reduceLT,Nat.reduceLeDiff,Nat.reduceAdd,Nat.reduceMul,Nat.reduceSub,Nat.reduceBEq,Int.reduceToNat,cond_true,cond_false,eq_self,beq_self_eq_true,zHz wf,zHx wf,zFz wf,zHy wf,zBx wf,zFy,tEvT2,zHw,zAw wf];first|(refine zCy (Q:=Q_) (fun hp_=>?_) (fun hp_=>?_) <;> first|(exfalso;omega)|(refine hQ_ _ _ ?_;clear hQ_ Q_))|(refine zBy (Q:=Q_) (fun hp_=>?_) (fun hp_=>?_) <;> first|(exfalso;omega)|(refine hQ_ _ _ ?_;clear hQ_ Q_))|(refine hQ_ _ _ ?_;clear hQ_ Q_)))
  | (refine zFv fun K_ hK_=>?_;simp (disch:=omega) only [zFx,zAz,zGz,↓reduceIte,reduceCtorEq,Nat.reduceEqDiff,Nat.reduceLT];refine hK_ _ ?_;clear hK_ K_)))
        rw [hs.nx 3,← hs2.nx 3]
        refine yHv wf (k:=3) rfl ho' ?_
        simp only [List.set_cons_succ,List.set_cons_zero]
        rw [← ho]
        have hkk:=mI _ _ _ (.cells (zAy [.yld l]) 107 :: .cells (zAy [ii (spot sp (i - 1)).1,ii (spot sp (i - 1)).2]) 51 :: .dfr :: o :: (Jx ++ .cells (zAy [ii ((spot sp (i - 1)).1+(ka:Int))]) 2 :: .cells (zAy [ii (spot sp i).1,ii (spot sp i).2]) 51 :: o6 :: J3)) hI2 (by rw [ho',ho,ho2,ho6];exact Keep.cons' (Keep.cons' (Keep.cons' (Keep.cons (Keep.app rfl (Keep.rfl' _) (Keep.cons' (Keep.cons' (Keep.cons (Keep.rfl' _) zQw)))) zQw))))
        refine ⟨X hb2 [.cells (zAy [.yld l]) 107,.cells (zAy [ii (spot sp (i - 1)).1,ii (spot sp (i - 1)).2]) 51,.dfr,o] hb2.clock,Jx,.cells (zAy [ii ((spot sp (i - 1)).1+(ka:Int))]) 2 :: .cells (zAy [ii (spot sp i).1,ii (spot sp i).2]) 51 :: o6 :: J3,_,by rw [X_X];rfl,Same.XX ⟨hs2.next.trans hs.next.symm,sc2.trans sc.symm⟩ rfl,hcx,by omega,by omega,.inl ⟨rfl,xVz.2 fun j hj=>?_,hb2,hb2.clock,rfl,by rw [Nat.succ_mul];exact hkk,by omega⟩⟩
        have hq1:j / 3<nb:=by omega
        have:=xVz.1 (hc3 (j / 3) hq1) (j % 3) (by omega)
        rw [show ka * (nb * 3)+j / 3 * 3+j % 3=ka * (nb * 3)+j from by omega] at this
        omega
      · have sc2:=hs2.clock
        have wf:=hDw _ _ hD2
        have hw3':w3≤w:=by simp only [X_w] at hw3;omega
        obtain ⟨g7,n7,tm7,ps7,as7,b7,dd7,rfl⟩:=hdn
        rw [X_X,hs.nx (J.length+2+1+1+1+1),← hs2.nx (J.length+2+1+1+1+1),← hlx]
        simp only [List.cons_append,List.nil_append,List.append_assoc]
        refine zYv wf (k:=Jx.length+2+1+1+1+1) (o:=.loop .done .ret g7 n7 tm7 ps7 as7 b7 dd7) (st:=.done) (by simp only [List.getElem?_cons_succ,zLv,List.getElem?_cons_zero]) rfl (by decide) fun o6 ho6=>?_
        simp only [List.set_cons_succ,List.set_cons_zero,zNx]
        (repeat' (first
  | (with_reducible first|refine zJz ?_|refine zGw ?_|refine zEw ?_|refine zEx ?_|refine zEv ?_|refine zJy ?_|refine zGv ?_|refine zBw ?_|refine zDx ?_|refine zBv ?_|refine zCx ?_|refine zEz ?_|refine zCw ?_|refine zCz ?_|refine zBz ?_|refine zDv ?_|refine zDy ?_|refine zAx ?_|refine zAv ?_)
  | refine zCv ?_|refine zEy rfl ?_|refine zIx ?_|refine zIv ?_
  | ((first|refine zGx rfl rfl rfl rfl rfl fun K_ hK_=>?_|refine zGy rfl rfl rfl rfl rfl fun K_ hK_=>?_);simp only [zAz,zDz,zFw,↓reduceIte,reduceCtorEq,Nat.reduceEqDiff,Bool.not_true,Bool.not_false];refine hK_ _ ?_;clear hK_ K_)
  | refine zDw (by decide) ?_
  | ((try first|refine zJx rfl rfl rfl ?_|refine zIy rfl rfl ?_|refine zJw rfl rfl rfl ?_|refine zIw rfl rfl ?_);(refine zIz fun Q_ hQ_=>?_;simp (disch:=first|omega|(simp only [List.length_cons,List.length_nil,List.length_append];omega)) only [bb,bp,zKx,↓reduceIte,reduceCtorEq,Nat.reduceEqDiff,Nat.reduceLT,Nat.reduceLeDiff,Nat.reduceAdd,Nat.reduceMul,Nat.reduceSub,Nat.reduceBEq,Int.reduceToNat,cond_true,cond_false,eq_self,beq_self_eq_true,zHz wf,zHx wf,zFz wf,zHy wf,zBx wf,zFy,tEvT2,zHw,zAw wf];first|(refine zCy (Q:=Q_) (fun hp_=>?_) (fun hp_=>?_) <;> first|(exfalso;omega)|(refine hQ_ _ _ ?_;clear hQ_ Q_))|(refine zBy (Q:=Q_) (fun hp_=>?_) (fun hp_=>?_) <;> first|(exfalso;omega)|(refine hQ_ _ _ ?_;clear hQ_ Q_))|(refine hQ_ _ _ ?_;clear hQ_ Q_)))
  | (refine zFv fun K_ hK_=>?_;simp (disch:=omega) only [zFx,zAz,zGz,↓reduceIte,reduceCtorEq,Nat.reduceEqDiff,Nat.reduceLT];refine hK_ _ ?_;clear hK_ K_)))
        rw [hs.nx 3,← hs2.nx 3]
        refine ySz wf (k:=3) rfl ho' fun o8 ho8=>?_
        simp only [List.set_cons_succ,List.set_cons_zero]
        have hkk:=mD _ _ (.cells (zAy [.yld l]) 107 :: .cells (zAy [ii (spot sp (i - 1)).1,ii (spot sp (i - 1)).2]) 51 :: .dfr :: o8 :: (Jx ++ .cells (zAy [ii ((spot sp (i - 1)).1+(ka:Int))]) 2 :: .cells (zAy [ii (spot sp i).1,ii (spot sp i).2]) 51 :: o6 :: J3)) hD2 (by rw [ho',ho8,ho6];exact Keep.cons' (Keep.cons' (Keep.cons' (Keep.cons (Keep.app rfl (Keep.rfl' _) (Keep.cons' (Keep.cons' (Keep.cons (Keep.rfl' _) zQw)))) zQw))))
        refine ⟨X hb2 [.cells (zAy [.yld l]) 107,.cells (zAy [ii (spot sp (i - 1)).1,ii (spot sp (i - 1)).2]) 51,.dfr,o8] hb2.clock,Jx,.cells (zAy [ii ((spot sp (i - 1)).1+(ka:Int))]) 2 :: .cells (zAy [ii (spot sp i).1,ii (spot sp i).2]) 51 :: o6 :: J3,_,by rw [X_X];rfl,Same.XX ⟨hs2.next.trans hs.next.symm,sc2.trans sc.symm⟩ rfl,hcx,by omega,by omega,.inr ⟨rfl,by omega,hb2,hb2.clock,o8,rfl,hkk,hs2,by omega,by rw [ho8];exact ⟨_,_,_,_,_,_,_,rfl⟩⟩⟩
  · clear hlp hlq hix0 hld0 hix1 hld1 hr0 wf hB
    rintro v h' ⟨hz,J3,w3,rfl,hsz,hlo3,hw3,⟨⟨hb2,w2,rfl,hI2,hw2⟩,hc3⟩|⟨⟨hb2,w2,o3,rfl,hD2,hs2,hw2,hdn⟩,hc3⟩⟩
    · rw [List.length_map,hna] at hI2 hc3
      have hB2:=(hI _ hb2 _ hI2).1
      have hs2:=(hI _ hb2 _ hI2).2
      have sc2:=hs2.clock
      have wf:=hB2.wf
      rw [X_X,← hs2.nx 3]
      simp only [List.cons_append,List.nil_append]
      refine zYv wf (k:=3) rfl ho (by decide) fun o6 ho6=>?_
      simp only [List.set_cons_succ,List.set_cons_zero]
      (repeat' (first
  | (with_reducible first|refine zJz ?_|refine zGw ?_|refine zEw ?_|refine zEx ?_|refine zEv ?_|refine zJy ?_|refine zGv ?_|refine zBw ?_|refine zDx ?_|refine zBv ?_|refine zCx ?_|refine zEz ?_|refine zCw ?_|refine zCz ?_|refine zBz ?_|refine zDv ?_|refine zDy ?_|refine zAx ?_|refine zAv ?_)
  | refine zCv ?_|refine zEy rfl ?_|refine zIx ?_|refine zIv ?_
  | ((first|refine zGx rfl rfl rfl rfl rfl fun K_ hK_=>?_|refine zGy rfl rfl rfl rfl rfl fun K_ hK_=>?_);simp only [zAz,zDz,zFw,↓reduceIte,reduceCtorEq,Nat.reduceEqDiff,Bool.not_true,Bool.not_false];refine hK_ _ ?_;clear hK_ K_)
  | refine zDw (by decide) ?_
  | ((try first|refine zJx rfl rfl rfl ?_|refine zIy rfl rfl ?_|refine zJw rfl rfl rfl ?_|refine zIw rfl rfl ?_);(refine zIz fun Q_ hQ_=>?_;simp (disch:=first|omega|(simp only [List.length_cons,List.length_nil,List.length_append];omega)) only [bb,bp,zKx,↓reduceIte,reduceCtorEq,Nat.reduceEqDiff,Nat.reduceLT,Nat.reduceLeDiff,Nat.reduceAdd,Nat.reduceMul,Nat.reduceSub,Nat.reduceBEq,Int.reduceToNat,cond_true,cond_false,eq_self,beq_self_eq_true,zHz wf,zHx wf,zFz wf,zHy wf,zBx wf,zFy,tEvT2,zHw,zAw wf];first|(refine zCy (Q:=Q_) (fun hp_=>?_) (fun hp_=>?_) <;> first|(exfalso;omega)|(refine hQ_ _ _ ?_;clear hQ_ Q_))|(refine zBy (Q:=Q_) (fun hp_=>?_) (fun hp_=>?_) <;> first|(exfalso;omega)|(refine hQ_ _ _ ?_;clear hQ_ Q_))|(refine hQ_ _ _ ?_;clear hQ_ Q_)))
  | (refine zFv fun K_ hK_=>?_;simp (disch:=omega) only [zFx,zAz,zGz,↓reduceIte,reduceCtorEq,Nat.reduceEqDiff,Nat.reduceLT];refine hK_ _ ?_;clear hK_ K_)))
      have hnn:na * (nb * 3)=(stsOf sp i).length:=by rw [yYw,hna,hnb]
      have hall : ∀ k,k<na * (nb * 3)→w3<c k:=fun k hk=>by
        have hp:0<nb * 3:=by omega
        have h1:k / (nb * 3)<na:=(Nat.div_lt_iff_lt_mul hp).2 hk
        have h2:k % (nb * 3)<nb * 3:=Nat.mod_lt _ hp
        have:=xVz.1 (hc3 _ h1) (k % (nb * 3)) (by omega)
        rwa [show k / (nb * 3) * (nb * 3)+k % (nb * 3)=k from by rw [Nat.mul_comm];exact Nat.div_add_mod _ _] at this
      have h00:=hall 0 (Nat.mul_pos na0 (by omega))
      have hc00:=hc0 0
      exact zJv _ (.tup []) (by rw [← hs2.nx 2];exact yJv wf (k:=2) rfl) rfl (yOy (by omega) ⟨hb2,_,_,rfl,hs2,by omega,Nat.min_le_left _ _,.inl ⟨by rw [List.length_map,← hnn];exact mI _ _ _ _ hI2 (by rw [ho,ho6];exact Keep.cons' (Keep.cons' (Keep.cons (Keep.cons (Keep.rfl' _) zQw) yIw))),fun k hk=>by rw [List.length_map,← hnn] at hk;have:=hall k hk;omega⟩⟩)
    · have sc2:=hs2.clock
      have wf:=hDw _ _ hD2
      obtain ⟨g7,n7,tm7,ps7,as7,b7,dd7,rfl⟩:=hdn
      rw [X_X,← hs2.nx 3]
      simp only [List.cons_append,List.nil_append]
      refine zYv wf (k:=3) rfl rfl (by decide) fun o6 ho6=>?_
      simp only [List.set_cons_succ,List.set_cons_zero]
      (repeat' (first
  | (with_reducible first|refine zJz ?_|refine zGw ?_|refine zEw ?_|refine zEx ?_|refine zEv ?_|refine zJy ?_|refine zGv ?_|refine zBw ?_|refine zDx ?_|refine zBv ?_|refine zCx ?_|refine zEz ?_|refine zCw ?_|refine zCz ?_|refine zBz ?_|refine zDv ?_|refine zDy ?_|refine zAx ?_|refine zAv ?_)
  | refine zCv ?_|refine zEy rfl ?_|refine zIx ?_|refine zIv ?_
  | ((first|refine zGx rfl rfl rfl rfl rfl fun K_ hK_=>?_|refine zGy rfl rfl rfl rfl rfl fun K_ hK_=>?_);simp only [zAz,zDz,zFw,↓reduceIte,reduceCtorEq,Nat.reduceEqDiff,Bool.not_true,Bool.not_false];refine hK_ _ ?_;clear hK_ K_)
  | refine zDw (by decide) ?_
  | ((try first|refine zJx rfl rfl rfl ?_|refine zIy rfl rfl ?_|refine zJw rfl rfl rfl ?_|refine zIw rfl rfl ?_);(refine zIz fun Q_ hQ_=>?_;simp (disch:=first|omega|(simp only [List.length_cons,List.length_nil,List.length_append];omega)) only [bb,bp,zKx,↓reduceIte,reduceCtorEq,Nat.reduceEqDiff,Nat.reduceLT,Nat.reduceLeDiff,Nat.reduceAdd,Nat.reduceMul,Nat.reduceSub,Nat.reduceBEq,Int.reduceToNat,cond_true,cond_false,eq_self,beq_self_eq_true,zHz wf,zHx wf,zFz wf,zHy wf,zBx wf,zFy,tEvT2,zHw,zAw wf];first|(refine zCy (Q:=Q_) (fun hp_=>?_) (fun hp_=>?_) <;> first|(exfalso;omega)|(refine hQ_ _ _ ?_;clear hQ_ Q_))|(refine zBy (Q:=Q_) (fun hp_=>?_) (fun hp_=>?_) <;> first|(exfalso;omega)|(refine hQ_ _ _ ?_;clear hQ_ Q_))|(refine hQ_ _ _ ?_;clear hQ_ Q_)))
  | (refine zFv fun K_ hK_=>?_;simp (disch:=omega) only [zFx,zAz,zGz,↓reduceIte,reduceCtorEq,Nat.reduceEqDiff,Nat.reduceLT];refine hK_ _ ?_;clear hK_ K_)))
      exact zJv _ (.tup []) (by rw [← hs2.nx 2];exact yJv wf (k:=2) rfl) rfl (yOy (by omega) ⟨hb2,_,_,rfl,hs2,by omega,Nat.min_le_left _ _,.inr ⟨mD _ _ _ hD2 (by rw [ho6];exact Keep.cons' (Keep.cons' (Keep.cons (Keep.cons (Keep.rfl' _) zQw) yIw))),by omega⟩⟩)
end Go.Proofs.YtkmdidplmfdikaaDoor
end

section
namespace Go.Proofs.YtkmdidplmfdikaaDoor
open Go.Ev
set_option maxRecDepth 100000
set_option linter.unusedSimpArgs false
set_option linter.unusedVariables false
set_option maxHeartbeats 2000000

theorem tEvT3 :type_of% (And.intro (And.intro (And.intro (And.intro (And.intro (@zSv) (@ia_2)) (And.intro (@sz_2) (And.intro (@ze_2) (@ia_3)))) (And.intro (And.intro (@sz_3) (@zSy)) (And.intro (@zTx) (And.intro (@zRx) (@zOv))))) (And.intro (And.intro (And.intro (@zVw) (@zUv)) (And.intro (@zVx) (And.intro (@zZv) (@zZw)))) (And.intro (And.intro (@zSx) (@zSz)) (And.intro (@zSw) (And.intro (@zXv) (@zUz)))))) (And.intro (And.intro (And.intro (And.intro (@zOw) (@zOx)) (And.intro (@zOy) (And.intro (@zOz) (@zMy)))) (And.intro (And.intro (@zMz) (@zRz)) (And.intro (@zLw) (And.intro (@zLx) (@zOv))))) (And.intro (And.intro (And.intro (@yBw) (@yAv)) (And.intro (@xLw) (And.intro (@pb_82) (@pb_68)))) (And.intro (And.intro (@pb_81) (And.intro (@pb_67) (@pb_73))) (And.intro (@xMz) (And.intro (@pb_42) (@pb_48))))))):=And.intro (And.intro (And.intro (And.intro (And.intro (@zSv) (@ia_2)) (And.intro (@sz_2) (And.intro (@ze_2) (@ia_3)))) (And.intro (And.intro (@sz_3) (@zSy)) (And.intro (@zTx) (And.intro (@zRx) (@zOv))))) (And.intro (And.intro (And.intro (@zVw) (@zUv)) (And.intro (@zVx) (And.intro (@zZv) (@zZw)))) (And.intro (And.intro (@zSx) (@zSz)) (And.intro (@zSw) (And.intro (@zXv) (@zUz)))))) (And.intro (And.intro (And.intro (And.intro (@zOw) (@zOx)) (And.intro (@zOy) (And.intro (@zOz) (@zMy)))) (And.intro (And.intro (@zMz) (@zRz)) (And.intro (@zLw) (And.intro (@zLx) (@zOv))))) (And.intro (And.intro (And.intro (@yBw) (@yAv)) (And.intro (@xLw) (And.intro (@pb_82) (@pb_68)))) (And.intro (And.intro (@pb_81) (And.intro (@pb_67) (@pb_73))) (And.intro (@xMz) (And.intro (@pb_42) (@pb_48))))))
structure DrIn (hb:H) (p:Pos) (a:AV) (turn:Int) (sp:List (Int × Int)):Prop where
  wf:Wf hb
  ag : ∀ J w,loadAgg p 0 (some 2) (X hb J w)=some (.agg [a,ii turn])
  sl:Sl hb a 2 sp.length (zLy sp)
theorem DrIn.of {h:H} (wf:Wf h) {L:List AO} {w k:Nat} {a:AV} {turn:Int} {sp:List (Int × Int)} (hw:w≤h.clock+L.length) (hk:L[k]? = some (.cells (zAy [a,ii turn]) 64)) (hs:Sl h a 2 sp.length (zLy sp)):DrIn (X h L w) (nx h k) a turn sp:=by
  have hk' : ∀ J:List AO,(L++J)[k]? = some (.cells (zAy [a,ii turn]) 64):=fun J=>by rw [List.getElem?_append_left (zHv hk),hk]
  exact ⟨wf.X hw,fun J w'=>by rw [X_X,zFz wf,hk'];rw [zPv (by decide)];rfl,hs.up wf _ _⟩

theorem starts (a:AV) (turn:Int) (h:H) (wf:Wf h) (J:List AO) (w:Nat) (hw:w≤h.clock+J.length) :
    (om Tryd.prog KK).call (.fn 42 [.agg [a,ii turn]]) (X h J w) = .ok (.fn 67 [] [.ptr (nx h J.length) 0]) (X h (J++[.cells (zAy [a,ii turn]) 64]) w):=by
  have wf':=wf.X hw
  have key : ∀ hb,Wf hb→(om Tryd.prog KK).call (.fn 42 [.agg [a,ii turn]]) hb = .ok (.fn 67 [] [.ptr (nx hb 0) 0]) (X hb [.cells (zAy [a,ii turn]) 64] hb.w):=by
    clear wf wf'
    intro hb wf
    refine zWv (zKv (fn:=Tryd.f42) Tryd.func42 rfl rfl rfl rfl rfl ?_)
    simp only [zKx]
    (repeat' (first
  | (with_reducible first|refine zJz ?_|refine zGw ?_|refine zEw ?_|refine zEx ?_|refine zEv ?_|refine zJy ?_|refine zGv ?_|refine zBw ?_|refine zDx ?_|refine zBv ?_|refine zCx ?_|refine zEz ?_|refine zCw ?_|refine zCz ?_|refine zBz ?_|refine zDv ?_|refine zDy ?_|refine zAx ?_|refine zAv ?_)
  | refine zCv ?_|refine zEy rfl ?_|refine zIx ?_|refine zIv ?_
  | ((first|refine zGx rfl rfl rfl rfl rfl fun K_ hK_=>?_|refine zGy rfl rfl rfl rfl rfl fun K_ hK_=>?_);simp only [zAz,zDz,zFw,↓reduceIte,reduceCtorEq,Nat.reduceEqDiff,Bool.not_true,Bool.not_false];refine hK_ _ ?_;clear hK_ K_)
  | refine zDw (by decide) ?_
  | ((try first|refine zJx rfl rfl rfl ?_|refine zIy rfl rfl ?_|refine zJw rfl rfl rfl ?_|refine zIw rfl rfl ?_);(refine zIz fun Q_ hQ_=>?_;simp (disch:=first|omega|(simp only [List.length_cons,List.length_nil,List.length_append];omega)) only [bb,bp,zKx,↓reduceIte,reduceCtorEq,Nat.reduceEqDiff,Nat.reduceLT,Nat.reduceLeDiff,Nat.reduceAdd,Nat.reduceMul,Nat.reduceSub,Nat.reduceBEq,Int.reduceToNat,cond_true,cond_false,eq_self,beq_self_eq_true,zHz wf,zHx wf,zFz wf,zHy wf,zBx wf,zFy,tEvT3,zHw,zAw wf];first|(refine zCy (Q:=Q_) (fun hp_=>?_) (fun hp_=>?_) <;> first|(exfalso;omega)|(refine hQ_ _ _ ?_;clear hQ_ Q_))|(refine zBy (Q:=Q_) (fun hp_=>?_) (fun hp_=>?_) <;> first|(exfalso;omega)|(refine hQ_ _ _ ?_;clear hQ_ Q_))|(refine hQ_ _ _ ?_;clear hQ_ Q_)))
  | (refine zFv fun K_ hK_=>?_;simp (disch:=omega) only [zFx,zAz,zGz,↓reduceIte,reduceCtorEq,Nat.reduceEqDiff,Nat.reduceLT];refine hK_ _ ?_;clear hK_ K_)))
    refine zJv _ _ rfl (ret1 (by decide)) ?_
    simp only [zAz,↓reduceIte,reduceCtorEq,Nat.reduceEqDiff]
    refine yCz (by
      show (_ && flat (.fn 67 [] [.ptr _ 0]))=false
      exact Bool.and_false _) ?_
    refine ⟨rfl,?_⟩
    rw [Nat.min_eq_left wf.wle]
  rw [key _ wf',X_X,nx_X,X_w]
  rfl
theorem states (a:AV) (turn:Int) (h:H) (wf:Wf h) (J:List AO) (w:Nat) (hw:w≤h.clock+J.length) :
    (om Tryd.prog KK).call (.fn 48 [.agg [a,ii turn]]) (X h J w) = .ok (.fn 73 [] [.ptr (nx h J.length) 0]) (X h (J++[.cells (zAy [a,ii turn]) 64]) w):=by
  have wf':=wf.X hw
  have key : ∀ hb,Wf hb→(om Tryd.prog KK).call (.fn 48 [.agg [a,ii turn]]) hb = .ok (.fn 73 [] [.ptr (nx hb 0) 0]) (X hb [.cells (zAy [a,ii turn]) 64] hb.w):=by
    clear wf wf'
    intro hb wf
    refine zWv (zKv (fn:=Tryd.f48) Tryd.func48 rfl rfl rfl rfl rfl ?_)
    simp only [zKx]
    (repeat' (first
  | (with_reducible first|refine zJz ?_|refine zGw ?_|refine zEw ?_|refine zEx ?_|refine zEv ?_|refine zJy ?_|refine zGv ?_|refine zBw ?_|refine zDx ?_|refine zBv ?_|refine zCx ?_|refine zEz ?_|refine zCw ?_|refine zCz ?_|refine zBz ?_|refine zDv ?_|refine zDy ?_|refine zAx ?_|refine zAv ?_)
  | refine zCv ?_|refine zEy rfl ?_|refine zIx ?_|refine zIv ?_
  | ((first|refine zGx rfl rfl rfl rfl rfl fun K_ hK_=>?_|refine zGy rfl rfl rfl rfl rfl fun K_ hK_=>?_);simp only [zAz,zDz,zFw,↓reduceIte,reduceCtorEq,Nat.reduceEqDiff,Bool.not_true,Bool.not_false];refine hK_ _ ?_;clear hK_ K_)
  | refine zDw (by decide) ?_
  | ((try first|refine zJx rfl rfl rfl ?_|refine zIy rfl rfl ?_|refine zJw rfl rfl rfl ?_|refine zIw rfl rfl ?_);(refine zIz fun Q_ hQ_=>?_;simp (disch:=first|omega|(simp only [List.length_cons,List.length_nil,List.length_append];omega)) only [bb,bp,zKx,↓reduceIte,reduceCtorEq,Nat.reduceEqDiff,Nat.reduceLT,Nat.reduceLeDiff,Nat.reduceAdd,Nat.reduceMul,Nat.reduceSub,Nat.reduceBEq,Int.reduceToNat,cond_true,cond_false,eq_self,beq_self_eq_true,zHz wf,zHx wf,zFz wf,zHy wf,zBx wf,zFy,tEvT3,zHw,zAw wf];first|(refine zCy (Q:=Q_) (fun hp_=>?_) (fun hp_=>?_) <;> first|(exfalso;omega)|(refine hQ_ _ _ ?_;clear hQ_ Q_))|(refine zBy (Q:=Q_) (fun hp_=>?_) (fun hp_=>?_) <;> first|(exfalso;omega)|(refine hQ_ _ _ ?_;clear hQ_ Q_))|(refine hQ_ _ _ ?_;clear hQ_ Q_)))
  | (refine zFv fun K_ hK_=>?_;simp (disch:=omega) only [zFx,zAz,zGz,↓reduceIte,reduceCtorEq,Nat.reduceEqDiff,Nat.reduceLT];refine hK_ _ ?_;clear hK_ K_)))
    refine zJv _ _ rfl (ret1 (by decide)) ?_
    simp only [zAz,↓reduceIte,reduceCtorEq,Nat.reduceEqDiff]
    refine yCz (by
      show (_ && flat (.fn 73 [] [.ptr _ 0]))=false
      exact Bool.and_false _) ?_
    refine ⟨rfl,?_⟩
    rw [Nat.min_eq_left wf.wle]
  rw [key _ wf',X_X,nx_X,X_w]
  rfl
theorem last (a:AV) (turn:Int) (sp:List (Int × Int)) (hn:0<sp.length∧sp.length≤1000000) (h:H) (wf:Wf h) (hs:Sl h a 2 sp.length (zLy sp)) :
    (om Tryd.prog KK).call (.fn 44 [.agg [a,ii turn]]) h = .ok (ii ((sp.length - 1:Nat):Int)) h:=by
  refine zWv (zKv (fn:=Tryd.f44) Tryd.func44 rfl rfl rfl rfl rfl ?_)
  simp only [zKx]
  have hlen : ∀ h',lenE Tryd.prog 22 a h'=some (ii (sp.length:Int)):=fun h'=>hs.len yWv
  have ha1:oneB a=true∧AV.cells a=[a]:=by obtain ⟨_,⟨rfl,_⟩|⟨_,_,_,_,_,_,rfl,_⟩⟩:=hs <;> exact ⟨rfl,rfl⟩
  (repeat' (first
  | (with_reducible first|refine zJz ?_|refine zGw ?_|refine zEw ?_|refine zEx ?_|refine zEv ?_|refine zJy ?_|refine zGv ?_|refine zBw ?_|refine zDx ?_|refine zBv ?_|refine zCx ?_|refine zEz ?_|refine zCw ?_|refine zCz ?_|refine zBz ?_|refine zDv ?_|refine zDy ?_|refine zAx ?_|refine zAv ?_)
  | refine zCv ?_|refine zEy rfl ?_|refine zIx ?_|refine zIv ?_
  | ((first|refine zGx rfl rfl rfl rfl rfl fun K_ hK_=>?_|refine zGy rfl rfl rfl rfl rfl fun K_ hK_=>?_);simp only [zAz,zDz,zFw,↓reduceIte,reduceCtorEq,Nat.reduceEqDiff,Bool.not_true,Bool.not_false];refine hK_ _ ?_;clear hK_ K_)
  | refine zDw (by decide) ?_
  | ((try first|refine zJx rfl rfl rfl ?_|refine zIy rfl rfl ?_|refine zJw rfl rfl rfl ?_|refine zIw rfl rfl ?_);(refine zIz fun Q_ hQ_=>?_;simp (disch:=first|omega|(simp only [List.length_cons,List.length_nil,List.length_append];omega)) only [bb,bp,zKx,↓reduceIte,reduceCtorEq,Nat.reduceEqDiff,Nat.reduceLT,Nat.reduceLeDiff,Nat.reduceAdd,Nat.reduceMul,Nat.reduceSub,Nat.reduceBEq,Int.reduceToNat,cond_true,cond_false,eq_self,beq_self_eq_true,hlen,zHz wf,zHx wf,zFz wf,zHy wf,zBx wf,zFy,tEvT3,zHw,zAw wf];first|(refine zCy (Q:=Q_) (fun hp_=>?_) (fun hp_=>?_) <;> first|(exfalso;omega)|(refine hQ_ _ _ ?_;clear hQ_ Q_))|(refine zBy (Q:=Q_) (fun hp_=>?_) (fun hp_=>?_) <;> first|(exfalso;omega)|(refine hQ_ _ _ ?_;clear hQ_ Q_))|(refine hQ_ _ _ ?_;clear hQ_ Q_)))
  | (refine zFv fun K_ hK_=>?_;simp (disch:=omega) only [zFx,zAz,zGz,↓reduceIte,reduceCtorEq,Nat.reduceEqDiff,Nat.reduceLT];refine hK_ _ ?_;clear hK_ K_)))
  (refine zJv _ _ rfl (ret1 (by decide)) ?_;simp only [zAz,↓reduceIte,reduceCtorEq,Nat.reduceEqDiff];refine zMw rfl (by omega) ?_)
  exact ⟨by congr 1;omega,rfl⟩

theorem starts1 (p:Pos) (a:AV) (turn:Int) (sp:List (Int × Int)) (hn:2≤sp.length∧sp.length≤1000000) (hok : ∀ r ∈ sp,SpotOK r) :
    HandsC Tryd.prog KK (fun hb=>DrIn hb p a turn sp) (.fn 67 [] [.ptr p 0]) ((startsL sp).map fun x=>[stv x]):=by
  intro l hb0 I D lo c d0 hlo0 hlow hc0 hd0 hI hDw hy h0
  have hB:=(hI 0 hb0 h0).1
  have wf:=hB.wf
  rw [yNw,pb_67]
  show WV ((om Tryd.prog KK).call (.fn 67 [.yld l,.ptr p 0]) hb0) _
  refine zKv (fn:=Tryd.f67) Tryd.func67 rfl rfl rfl rfl rfl ?_
  simp only [zKx]
  have hag:=hB.ag
  have hsl:=hB.sl
  have same0:=(hI 0 hb0 h0).2
  (repeat' (first
  | (with_reducible first|refine zJz ?_|refine zGw ?_|refine zEw ?_|refine zEx ?_|refine zEv ?_|refine zJy ?_|refine zGv ?_|refine zBw ?_|refine zDx ?_|refine zBv ?_|refine zCx ?_|refine zEz ?_|refine zCw ?_|refine zCz ?_|refine zBz ?_|refine zDv ?_|refine zDy ?_|refine zAx ?_|refine zAv ?_)
  | refine zCv ?_|refine zEy rfl ?_|refine zIx ?_|refine zIv ?_
  | ((first|refine zGx rfl rfl rfl rfl rfl fun K_ hK_=>?_|refine zGy rfl rfl rfl rfl rfl fun K_ hK_=>?_);simp only [zAz,zDz,zFw,↓reduceIte,reduceCtorEq,Nat.reduceEqDiff,Bool.not_true,Bool.not_false];refine hK_ _ ?_;clear hK_ K_)
  | refine zDw (by decide) ?_
  | ((try first|refine zJx rfl rfl rfl ?_|refine zIy rfl rfl ?_|refine zJw rfl rfl rfl ?_|refine zIw rfl rfl ?_);(refine zIz fun Q_ hQ_=>?_;simp (disch:=first|omega|(simp only [List.length_cons,List.length_nil,List.length_append];omega)) only [bb,bp,zKx,↓reduceIte,reduceCtorEq,Nat.reduceEqDiff,Nat.reduceLT,Nat.reduceLeDiff,Nat.reduceAdd,Nat.reduceMul,Nat.reduceSub,Nat.reduceBEq,Int.reduceToNat,cond_true,cond_false,eq_self,beq_self_eq_true,hag,yRz,zHz wf,zHx wf,zFz wf,zHy wf,zBx wf,zFy,tEvT3,zHw,zAw wf];first|(refine zCy (Q:=Q_) (fun hp_=>?_) (fun hp_=>?_) <;> first|(exfalso;omega)|(refine hQ_ _ _ ?_;clear hQ_ Q_))|(refine zBy (Q:=Q_) (fun hp_=>?_) (fun hp_=>?_) <;> first|(exfalso;omega)|(refine hQ_ _ _ ?_;clear hQ_ Q_))|(refine hQ_ _ _ ?_;clear hQ_ Q_)|(refine xCz (statesOf _ _ _ hb0 wf _ _ (by simp only [List.length_append,List.length_cons,List.length_nil];omega)) ?_;refine hQ_ _ _ ?_;clear hQ_ Q_)))
  | (refine zFv fun K_ hK_=>?_;simp (disch:=omega) only [zFx,zAz,zGz,↓reduceIte,reduceCtorEq,Nat.reduceEqDiff,Nat.reduceLT];refine hK_ _ ?_;clear hK_ K_)))
  simp only [List.length_cons,List.length_nil,List.cons_append,List.nil_append,yRz]
  refine yDx wf rfl (zFx (by decide)) fun o ho=>?_
  simp only [zAz,↓reduceIte,reduceCtorEq,Nat.reduceEqDiff,List.length_cons,List.length_nil,List.cons_append,List.nil_append,Nat.reduceAdd] at ho ⊢
  have n3:=starts_len sp
  refine WV.mono ((statesOf1 (t:=71) (by decide) (nx hb0 1) (nx hb0 2) a 1 sp (by omega) (by omega) hok).plain (nx hb0 4) _ (fun k hx=>∃ hb w0,hx=X hb [.cells (zAy [.yld l]) 107,.cells (zAy [a,ii turn]) 64,.cells (zAy [ii 1]) 3,.dfr,o] w0∧I ((k+2) / 3) hb∧w0≤hb.clock+5)
    (fun hx=>∃ hb w0 o1,hx=X hb [.cells (zAy [.yld l]) 107,.cells (zAy [a,ii turn]) 64,.cells (zAy [ii 1]) 3,.dfr,o1] w0∧D hb∧Same hb0 hb∧w0≤hb.clock+5∧IsDone o1) lo (fun k=>if k % 3=0 then c (k / 3) else hb0.clock+5) d0 (by show lo≤hb0.clock;omega) (Nat.le_add_right _ _) (fun k=>by have:=hc0 (k / 3);show (if k % 3=0 then c (k / 3) else hb0.clock+5)≤hb0.clock+5;split <;> omega) (Nat.le_trans hd0 (Nat.le_add_right _ _)) ?_ (fun hz ⟨hb2,w2,o3,e,hd,_,hw,_⟩=>by rw [e];exact (hDw _ hd).X (by simp only [List.length_append,List.length_cons,List.length_nil];omega)) ?_ ⟨hb0,hb0.clock,rfl,h0,by omega⟩) ?_
  · rintro k hx ⟨hb,w0,rfl,hIk,hw0⟩
    have hs:=(hI _ hb hIk).2
    refine ⟨?_,hs.XX rfl⟩
    rw [← hs.nx 1,← hs.nx 2]
    exact StIn.of (turn:=turn) (hI _ hb hIk).1.wf (k:=1) (m:=2) hw0 rfl rfl (hI _ hb hIk).1.sl
  · clear hag wf hB hsl
    rintro k x hx hbx J w ⟨hb,w0,rfl,hIk,hw0⟩ hlo hw
    rw [List.getElem?_map] at hx
    obtain ⟨y,hy1,rfl⟩:=Option.map_eq_some_iff.1 hx
    obtain ⟨hy2,hy3⟩:=starts_get hy1
    have hB:=(hI _ hb hIk).1
    have hs:=(hI _ hb hIk).2
    have wf:=hB.wf
    have sc:=hs.clock
    have hw':w≤hb.clock+5+J.length:=hw
    rw [X_X,← hs.nx 4]
    simp only [List.cons_append,List.nil_append]
    refine yJx wf (k:=4) rfl ho (setParams1 rfl) ?_
    unfold stv
    (repeat' (first
  | (with_reducible first|refine zJz ?_|refine zGw ?_|refine zEw ?_|refine zEx ?_|refine zEv ?_|refine zJy ?_|refine zGv ?_|refine zBw ?_|refine zDx ?_|refine zBv ?_|refine zCx ?_|refine zEz ?_|refine zCw ?_|refine zCz ?_|refine zBz ?_|refine zDv ?_|refine zDy ?_|refine zAx ?_|refine zAv ?_)
  | refine zCv ?_|refine zEy rfl ?_|refine zIx ?_|refine zIv ?_
  | ((first|refine zGx rfl rfl rfl rfl rfl fun K_ hK_=>?_|refine zGy rfl rfl rfl rfl rfl fun K_ hK_=>?_);simp only [zAz,zDz,zFw,↓reduceIte,reduceCtorEq,Nat.reduceEqDiff,Bool.not_true,Bool.not_false];refine hK_ _ ?_;clear hK_ K_)
  | refine zDw (by decide) ?_
  | ((try first|refine zJx rfl rfl rfl ?_|refine zIy rfl rfl ?_|refine zJw rfl rfl rfl ?_|refine zIw rfl rfl ?_);(refine zIz fun Q_ hQ_=>?_;simp (disch:=first|omega|(simp only [List.length_cons,List.length_nil,List.length_append];omega)) only [bb,bp,zKx,↓reduceIte,reduceCtorEq,Nat.reduceEqDiff,Nat.reduceLT,Nat.reduceLeDiff,Nat.reduceAdd,Nat.reduceMul,Nat.reduceSub,Nat.reduceBEq,Int.reduceToNat,cond_true,cond_false,eq_self,beq_self_eq_true,zHz wf,zHx wf,zFz wf,zHy wf,zBx wf,zFy,tEvT3,zHw,zAw wf];first|(refine zCy (Q:=Q_) (fun hp_=>?_) (fun hp_=>?_) <;> first|(exfalso;omega)|(refine hQ_ _ _ ?_;clear hQ_ Q_))|(refine zBy (Q:=Q_) (fun hp_=>?_) (fun hp_=>?_) <;> first|(exfalso;omega)|(refine hQ_ _ _ ?_;clear hQ_ Q_))|(refine hQ_ _ _ ?_;clear hQ_ Q_)))
  | (refine zFv fun K_ hK_=>?_;simp (disch:=omega) only [zFx,zAz,zGz,↓reduceIte,reduceCtorEq,Nat.reduceEqDiff,Nat.reduceLT];refine hK_ _ ?_;clear hK_ K_)))
    refine yVz wf (k:=4) rfl ho fun o' ho'=>?_
    simp only [List.set_cons_succ,List.set_cons_zero]
    have e0:=hs.nx 0
    (repeat' (first
  | (with_reducible first|refine zJz ?_|refine zGw ?_|refine zEw ?_|refine zEx ?_|refine zEv ?_|refine zJy ?_|refine zGv ?_|refine zBw ?_|refine zDx ?_|refine zBv ?_|refine zCx ?_|refine zEz ?_|refine zCw ?_|refine zCz ?_|refine zBz ?_|refine zDv ?_|refine zDy ?_|refine zAx ?_|refine zAv ?_)
  | refine zCv ?_|refine zEy rfl ?_|refine zIx ?_|refine zIv ?_
  | ((first|refine zGx rfl rfl rfl rfl rfl fun K_ hK_=>?_|refine zGy rfl rfl rfl rfl rfl fun K_ hK_=>?_);simp only [zAz,zDz,zFw,↓reduceIte,reduceCtorEq,Nat.reduceEqDiff,Bool.not_true,Bool.not_false];refine hK_ _ ?_;clear hK_ K_)
  | refine zDw (by decide) ?_
  | ((try first|refine zJx rfl rfl rfl ?_|refine zIy rfl rfl ?_|refine zJw rfl rfl rfl ?_|refine zIw rfl rfl ?_);(refine zIz fun Q_ hQ_=>?_;simp (disch:=first|omega|(simp only [List.length_cons,List.length_nil,List.length_append];omega)) only [bb,bp,zKx,↓reduceIte,reduceCtorEq,Nat.reduceEqDiff,Nat.reduceLT,Nat.reduceLeDiff,Nat.reduceAdd,Nat.reduceMul,Nat.reduceSub,Nat.reduceBEq,Int.reduceToNat,cond_true,cond_false,eq_self,beq_self_eq_true,← e0,zHz wf,zHx wf,zFz wf,zHy wf,zBx wf,zFy,tEvT3,zHw,zAw wf];first|(refine zCy (Q:=Q_) (fun hp_=>?_) (fun hp_=>?_) <;> first|(exfalso;omega)|(refine hQ_ _ _ ?_;clear hQ_ Q_))|(refine zBy (Q:=Q_) (fun hp_=>?_) (fun hp_=>?_) <;> first|(exfalso;omega)|(refine hQ_ _ _ ?_;clear hQ_ Q_))|(refine hQ_ _ _ ?_;clear hQ_ Q_)))
  | (refine zFv fun K_ hK_=>?_;simp (disch:=omega) only [zFx,zAz,zGz,↓reduceIte,reduceCtorEq,Nat.reduceEqDiff,Nat.reduceLT];refine hK_ _ ?_;clear hK_ K_)))
    · refine zIz fun Q_ hQ_=>?_
      simp (disch:=first|omega|(simp only [List.length_cons,List.length_nil,List.length_append];omega)) only [bb,bp,zKx,↓reduceIte,reduceCtorEq,Nat.reduceEqDiff,Nat.reduceLT,Nat.reduceLeDiff,Nat.reduceAdd,Nat.reduceMul,Nat.reduceSub,Nat.reduceBEq,Int.reduceToNat,cond_true,cond_false,eq_self,beq_self_eq_true,yRx,tEvT3,zHw,zAw wf]
      have hs0:y.s=0:=by omega
      have hk3:(k+2) / 3=k / 3:=by omega
      rw [hk3] at hIk
      have hidx:((startsL sp).map fun x=>[stv x])[k / 3]? = some [.agg [ii (y.i:Int),ii y.a,ii y.b,ii (y.s:Int)]]:=by rw [List.getElem?_map,hy3 hs0];rfl
      refine WV_yieldOC (hy _ _ hidx hb _ _ hIk (by omega) (by simp only [List.length_append,List.length_cons,List.length_nil];omega)) (fun hb' J' w' s' hl' hle'=>⟨fun hw' hI'=>hQ_ _ _ ?_,fun hw' hD'=>hQ_ _ _ ?_⟩)
      · clear hQ_ Q_
        have hB':=(hI _ hb' hI').1
        have sc':=s'.clock
        (repeat' (first
  | (with_reducible first|refine zJz ?_|refine zGw ?_|refine zEw ?_|refine zEx ?_|refine zEv ?_|refine zJy ?_|refine zGv ?_|refine zBw ?_|refine zDx ?_|refine zBv ?_|refine zCx ?_|refine zEz ?_|refine zCw ?_|refine zCz ?_|refine zBz ?_|refine zDv ?_|refine zDy ?_|refine zAx ?_|refine zAv ?_)
  | refine zCv ?_|refine zEy rfl ?_|refine zIx ?_|refine zIv ?_
  | ((first|refine zGx rfl rfl rfl rfl rfl fun K_ hK_=>?_|refine zGy rfl rfl rfl rfl rfl fun K_ hK_=>?_);simp only [zAz,zDz,zFw,↓reduceIte,reduceCtorEq,Nat.reduceEqDiff,Bool.not_true,Bool.not_false];refine hK_ _ ?_;clear hK_ K_)
  | refine zDw (by decide) ?_
  | ((try first|refine zJx rfl rfl rfl ?_|refine zIy rfl rfl ?_|refine zJw rfl rfl rfl ?_|refine zIw rfl rfl ?_);(refine zIz fun Q_ hQ_=>?_;simp (disch:=first|omega|(simp only [List.length_cons,List.length_nil,List.length_append];omega)) only [bb,bp,zKx,↓reduceIte,reduceCtorEq,Nat.reduceEqDiff,Nat.reduceLT,Nat.reduceLeDiff,Nat.reduceAdd,Nat.reduceMul,Nat.reduceSub,Nat.reduceBEq,Int.reduceToNat,cond_true,cond_false,eq_self,beq_self_eq_true,zHz wf,zHx wf,zFz wf,zHy wf,zBx wf,zFy,tEvT3,zHw,zAw wf];first|(refine zCy (Q:=Q_) (fun hp_=>?_) (fun hp_=>?_) <;> first|(exfalso;omega)|(refine hQ_ _ _ ?_;clear hQ_ Q_))|(refine zBy (Q:=Q_) (fun hp_=>?_) (fun hp_=>?_) <;> first|(exfalso;omega)|(refine hQ_ _ _ ?_;clear hQ_ Q_))|(refine hQ_ _ _ ?_;clear hQ_ Q_)))
  | (refine zFv fun K_ hK_=>?_;simp (disch:=omega) only [zFx,zAz,zGz,↓reduceIte,reduceCtorEq,Nat.reduceEqDiff,Nat.reduceLT];refine hK_ _ ?_;clear hK_ K_)))
        rw [hs.nx 4,← (hs.trans s').nx 4]
        refine yHv hB'.wf (k:=4) rfl ho' ?_
        simp only [List.cons_append,List.append_assoc,List.set_cons_succ,List.set_cons_zero]
        rw [← ho]
        exact ⟨X hb' [.cells (zAy [.yld l]) 107,.cells (zAy [a,ii turn]) 64,.cells (zAy [ii 1]) 3,.dfr,o] hb'.clock,_ :: J',_,by rw [X_X];rfl,Same.XX s' rfl,by omega,by omega,.inl ⟨rfl,by show _<(if k % 3=0 then c (k / 3) else hb0.clock+5);rw [if_pos (by omega)];omega,hb',hb'.clock,rfl,by rw [show (k+1+2) / 3=k / 3+1 from by omega];exact hI',by omega⟩⟩
      · clear hQ_ Q_
        have sc':=s'.clock
        (repeat' (first
  | (with_reducible first|refine zJz ?_|refine zGw ?_|refine zEw ?_|refine zEx ?_|refine zEv ?_|refine zJy ?_|refine zGv ?_|refine zBw ?_|refine zDx ?_|refine zBv ?_|refine zCx ?_|refine zEz ?_|refine zCw ?_|refine zCz ?_|refine zBz ?_|refine zDv ?_|refine zDy ?_|refine zAx ?_|refine zAv ?_)
  | refine zCv ?_|refine zEy rfl ?_|refine zIx ?_|refine zIv ?_
  | ((first|refine zGx rfl rfl rfl rfl rfl fun K_ hK_=>?_|refine zGy rfl rfl rfl rfl rfl fun K_ hK_=>?_);simp only [zAz,zDz,zFw,↓reduceIte,reduceCtorEq,Nat.reduceEqDiff,Bool.not_true,Bool.not_false];refine hK_ _ ?_;clear hK_ K_)
  | refine zDw (by decide) ?_
  | ((try first|refine zJx rfl rfl rfl ?_|refine zIy rfl rfl ?_|refine zJw rfl rfl rfl ?_|refine zIw rfl rfl ?_);(refine zIz fun Q_ hQ_=>?_;simp (disch:=first|omega|(simp only [List.length_cons,List.length_nil,List.length_append];omega)) only [bb,bp,zKx,↓reduceIte,reduceCtorEq,Nat.reduceEqDiff,Nat.reduceLT,Nat.reduceLeDiff,Nat.reduceAdd,Nat.reduceMul,Nat.reduceSub,Nat.reduceBEq,Int.reduceToNat,cond_true,cond_false,eq_self,beq_self_eq_true,zHz wf,zHx wf,zFz wf,zHy wf,zBx wf,zFy,tEvT3,zHw,zAw wf];first|(refine zCy (Q:=Q_) (fun hp_=>?_) (fun hp_=>?_) <;> first|(exfalso;omega)|(refine hQ_ _ _ ?_;clear hQ_ Q_))|(refine zBy (Q:=Q_) (fun hp_=>?_) (fun hp_=>?_) <;> first|(exfalso;omega)|(refine hQ_ _ _ ?_;clear hQ_ Q_))|(refine hQ_ _ _ ?_;clear hQ_ Q_)))
  | (refine zFv fun K_ hK_=>?_;simp (disch:=omega) only [zFx,zAz,zGz,↓reduceIte,reduceCtorEq,Nat.reduceEqDiff,Nat.reduceLT];refine hK_ _ ?_;clear hK_ K_)))
        rw [hs.nx 4,← (hs.trans s').nx 4]
        refine ySz (hDw _ hD') (k:=4) rfl ho' fun o8 ho8=>?_
        simp only [List.cons_append,List.append_assoc,List.set_cons_succ,List.set_cons_zero]
        exact ⟨X hb' [.cells (zAy [.yld l]) 107,.cells (zAy [a,ii turn]) 64,.cells (zAy [ii 1]) 3,.dfr,o8] hb'.clock,_ :: J',_,by rw [X_X];rfl,Same.XX s' rfl,by omega,by omega,.inr ⟨rfl,by omega,hb',hb'.clock,o8,rfl,hD',hs.trans s',by omega,by rw [ho8];exact ⟨_,_,_,_,_,_,_,rfl⟩⟩⟩
    · have hs0:y.s≠0:=by omega
      have hk3:(k+1+2) / 3=(k+2) / 3:=by omega
      refine yHv wf (k:=4) rfl ho' ?_
      simp only [List.cons_append,List.append_assoc,List.set_cons_succ,List.set_cons_zero]
      rw [← ho]
      exact ⟨X hb [.cells (zAy [.yld l]) 107,.cells (zAy [a,ii turn]) 64,.cells (zAy [ii 1]) 3,.dfr,o] hb.clock,[_],_,by rw [X_X];rfl,Same.XX (Same.rfl' _) rfl,by omega,by omega,.inl ⟨rfl,by show _<(if k % 3=0 then c (k / 3) else hb0.clock+5);rw [if_neg (by omega)];omega,hb,hb.clock,rfl,by rw [hk3];exact hIk,by omega⟩⟩
  · clear hag wf hB hsl
    rintro v h' ⟨hz,J3,w3,rfl,hsz,hlo3,hw3,⟨⟨hb2,w2,rfl,hI2,hw2⟩,hc3⟩|⟨⟨hb2,w2,o3,rfl,hD2,hs2,hw2,hdn⟩,hc3⟩⟩
    · rw [List.length_map,n3] at hI2 hc3
      rw [show ((startsL sp).length * 3+2) / 3=(startsL sp).length from by omega] at hI2
      have hs2:=(hI _ hb2 hI2).2
      have sc2:=hs2.clock
      have wf:=(hI _ hb2 hI2).1.wf
      rw [X_X,← hs2.nx 4]
      simp only [List.cons_append,List.nil_append]
      refine zYv wf (k:=4) rfl ho (by decide) fun o6 ho6=>?_
      simp only [List.set_cons_succ,List.set_cons_zero]
      (repeat' (first
  | (with_reducible first|refine zJz ?_|refine zGw ?_|refine zEw ?_|refine zEx ?_|refine zEv ?_|refine zJy ?_|refine zGv ?_|refine zBw ?_|refine zDx ?_|refine zBv ?_|refine zCx ?_|refine zEz ?_|refine zCw ?_|refine zCz ?_|refine zBz ?_|refine zDv ?_|refine zDy ?_|refine zAx ?_|refine zAv ?_)
  | refine zCv ?_|refine zEy rfl ?_|refine zIx ?_|refine zIv ?_
  | ((first|refine zGx rfl rfl rfl rfl rfl fun K_ hK_=>?_|refine zGy rfl rfl rfl rfl rfl fun K_ hK_=>?_);simp only [zAz,zDz,zFw,↓reduceIte,reduceCtorEq,Nat.reduceEqDiff,Bool.not_true,Bool.not_false];refine hK_ _ ?_;clear hK_ K_)
  | refine zDw (by decide) ?_
  | ((try first|refine zJx rfl rfl rfl ?_|refine zIy rfl rfl ?_|refine zJw rfl rfl rfl ?_|refine zIw rfl rfl ?_);(refine zIz fun Q_ hQ_=>?_;simp (disch:=first|omega|(simp only [List.length_cons,List.length_nil,List.length_append];omega)) only [bb,bp,zKx,↓reduceIte,reduceCtorEq,Nat.reduceEqDiff,Nat.reduceLT,Nat.reduceLeDiff,Nat.reduceAdd,Nat.reduceMul,Nat.reduceSub,Nat.reduceBEq,Int.reduceToNat,cond_true,cond_false,eq_self,beq_self_eq_true,zHz wf,zHx wf,zFz wf,zHy wf,zBx wf,zFy,tEvT3,zHw,zAw wf];first|(refine zCy (Q:=Q_) (fun hp_=>?_) (fun hp_=>?_) <;> first|(exfalso;omega)|(refine hQ_ _ _ ?_;clear hQ_ Q_))|(refine zBy (Q:=Q_) (fun hp_=>?_) (fun hp_=>?_) <;> first|(exfalso;omega)|(refine hQ_ _ _ ?_;clear hQ_ Q_))|(refine hQ_ _ _ ?_;clear hQ_ Q_)))
  | (refine zFv fun K_ hK_=>?_;simp (disch:=omega) only [zFx,zAz,zGz,↓reduceIte,reduceCtorEq,Nat.reduceEqDiff,Nat.reduceLT];refine hK_ _ ?_;clear hK_ K_)))
      have hall : ∀ k,k<(startsL sp).length→w3<c k:=fun k hk=>by
        have:=hc3 (k * 3) (by omega)
        rw [if_pos (by omega),Nat.mul_div_cancel _ (by decide)] at this
        exact this
      have hpos:0<(startsL sp).length:=by
        unfold startsL pairs2
        rw [List.length_map,zXw (m:=(offs (spot sp 1)).length) _ (fun _ _=>by rw [List.length_map])]
        have h0:=hok _ (List.getElem_mem (show 0<sp.length by omega))
        have h1:=hok _ (List.getElem_mem (show 1<sp.length by omega))
        rw [zQy] at h0 h1
        exact Nat.mul_pos (by rw [zMv];have:=h0.2.2;omega) (by rw [zMv];have:=h1.2.2;omega)
      have h00:=hall 0 hpos
      have hc00:=hc0 0
      exact zJv _ (.tup []) (by rw [← hs2.nx 3];exact yJv wf (k:=3) rfl) rfl (yOy (by omega) ⟨hb2,_,_,rfl,hs2,by omega,Nat.min_le_left _ _,.inl ⟨by rw [List.length_map];exact hI2,fun k hk=>by rw [List.length_map] at hk;have:=hall k hk;omega⟩⟩)
    · have sc2:=hs2.clock
      have wf:=hDw _ hD2
      obtain ⟨g7,n7,tm7,ps7,as7,b7,dd7,rfl⟩:=hdn
      rw [X_X,← hs2.nx 4]
      simp only [List.cons_append,List.nil_append]
      refine zYv wf (k:=4) rfl rfl (by decide) fun o6 ho6=>?_
      simp only [List.set_cons_succ,List.set_cons_zero]
      (repeat' (first
  | (with_reducible first|refine zJz ?_|refine zGw ?_|refine zEw ?_|refine zEx ?_|refine zEv ?_|refine zJy ?_|refine zGv ?_|refine zBw ?_|refine zDx ?_|refine zBv ?_|refine zCx ?_|refine zEz ?_|refine zCw ?_|refine zCz ?_|refine zBz ?_|refine zDv ?_|refine zDy ?_|refine zAx ?_|refine zAv ?_)
  | refine zCv ?_|refine zEy rfl ?_|refine zIx ?_|refine zIv ?_
  | ((first|refine zGx rfl rfl rfl rfl rfl fun K_ hK_=>?_|refine zGy rfl rfl rfl rfl rfl fun K_ hK_=>?_);simp only [zAz,zDz,zFw,↓reduceIte,reduceCtorEq,Nat.reduceEqDiff,Bool.not_true,Bool.not_false];refine hK_ _ ?_;clear hK_ K_)
  | refine zDw (by decide) ?_
  | ((try first|refine zJx rfl rfl rfl ?_|refine zIy rfl rfl ?_|refine zJw rfl rfl rfl ?_|refine zIw rfl rfl ?_);(refine zIz fun Q_ hQ_=>?_;simp (disch:=first|omega|(simp only [List.length_cons,List.length_nil,List.length_append];omega)) only [bb,bp,zKx,↓reduceIte,reduceCtorEq,Nat.reduceEqDiff,Nat.reduceLT,Nat.reduceLeDiff,Nat.reduceAdd,Nat.reduceMul,Nat.reduceSub,Nat.reduceBEq,Int.reduceToNat,cond_true,cond_false,eq_self,beq_self_eq_true,zHz wf,zHx wf,zFz wf,zHy wf,zBx wf,zFy,tEvT3,zHw,zAw wf];first|(refine zCy (Q:=Q_) (fun hp_=>?_) (fun hp_=>?_) <;> first|(exfalso;omega)|(refine hQ_ _ _ ?_;clear hQ_ Q_))|(refine zBy (Q:=Q_) (fun hp_=>?_) (fun hp_=>?_) <;> first|(exfalso;omega)|(refine hQ_ _ _ ?_;clear hQ_ Q_))|(refine hQ_ _ _ ?_;clear hQ_ Q_)))
  | (refine zFv fun K_ hK_=>?_;simp (disch:=omega) only [zFx,zAz,zGz,↓reduceIte,reduceCtorEq,Nat.reduceEqDiff,Nat.reduceLT];refine hK_ _ ?_;clear hK_ K_)))
      exact zJv _ (.tup []) (by rw [← hs2.nx 3];exact yJv wf (k:=3) rfl) rfl (yOy (by omega) ⟨hb2,_,_,rfl,hs2,by omega,Nat.min_le_left _ _,.inr ⟨hD2,by omega⟩⟩)
end Go.Proofs.YtkmdidplmfdikaaDoor
end

section
namespace Go.Proofs.YtkmdidplmfdikaaDoor
open Go.Ev
set_option maxRecDepth 100000
set_option linter.unusedSimpArgs false
set_option linter.unusedVariables false
set_option maxHeartbeats 2000000

theorem tEvT4 :type_of% (And.intro (And.intro (And.intro (And.intro (And.intro (@zSv) (@ia_2)) (And.intro (@sz_2) (And.intro (@ze_2) (@ia_3)))) (And.intro (And.intro (@sz_3) (@zSy)) (And.intro (@zTx) (And.intro (@zRx) (@zOv))))) (And.intro (And.intro (And.intro (@zVw) (@zUv)) (And.intro (@zVx) (And.intro (@zZv) (@zZw)))) (And.intro (And.intro (@zSx) (@zSz)) (And.intro (@zSw) (And.intro (@zXv) (@zUz)))))) (And.intro (And.intro (And.intro (And.intro (@zOw) (@zOx)) (And.intro (@zOy) (And.intro (@zOz) (@zMy)))) (And.intro (And.intro (@zMz) (@zRz)) (And.intro (@zLw) (And.intro (@zLx) (@zOv))))) (And.intro (And.intro (And.intro (@yBw) (@yAv)) (And.intro (@xLw) (And.intro (@pb_82) (@pb_68)))) (And.intro (And.intro (@pb_81) (And.intro (@pb_67) (@pb_73))) (And.intro (@xMz) (And.intro (@pb_42) (@pb_48))))))):=And.intro (And.intro (And.intro (And.intro (And.intro (@zSv) (@ia_2)) (And.intro (@sz_2) (And.intro (@ze_2) (@ia_3)))) (And.intro (And.intro (@sz_3) (@zSy)) (And.intro (@zTx) (And.intro (@zRx) (@zOv))))) (And.intro (And.intro (And.intro (@zVw) (@zUv)) (And.intro (@zVx) (And.intro (@zZv) (@zZw)))) (And.intro (And.intro (@zSx) (@zSz)) (And.intro (@zSw) (And.intro (@zXv) (@zUz)))))) (And.intro (And.intro (And.intro (And.intro (@zOw) (@zOx)) (And.intro (@zOy) (And.intro (@zOz) (@zMy)))) (And.intro (And.intro (@zMz) (@zRz)) (And.intro (@zLw) (And.intro (@zLx) (@zOv))))) (And.intro (And.intro (And.intro (@yBw) (@yAv)) (And.intro (@xLw) (And.intro (@pb_82) (@pb_68)))) (And.intro (And.intro (@pb_81) (And.intro (@pb_67) (@pb_73))) (And.intro (@xMz) (And.intro (@pb_42) (@pb_48))))))
theorem states1 {t:TypeId} (ht:(107≠t∧51≠t∧2≠t)∧64≠t∧3≠t) (p:Pos) (a:AV) (turn:Int) (sp:List (Int × Int)) (hn:2≤sp.length∧sp.length≤1000000) (hok : ∀ r ∈ sp,SpotOK r) :
    HandsJ Tryd.prog KK t (fun hb=>DrIn hb p a turn sp) (.fn 73 [] [.ptr p 0]) ((sts sp).map fun x=>[stv x]):=by
  intro l hb0 I D lo c d0 hlo0 hlow hc0 hd0 hI hDw mI mD hy h0
  have hB:=(hI 0 hb0 _ h0).1
  have wf:=hB.wf
  rw [yNw,pb_73]
  show WV ((om Tryd.prog KK).call (.fn 73 [.yld l,.ptr p 0]) hb0) _
  refine zKv (fn:=Tryd.f73) Tryd.func73 rfl rfl rfl rfl rfl ?_
  simp only [zKx]
  have same0:=(hI 0 hb0 _ h0).2
  (repeat' (first
  | (with_reducible first|refine zJz ?_|refine zGw ?_|refine zEw ?_|refine zEx ?_|refine zEv ?_|refine zJy ?_|refine zGv ?_|refine zBw ?_|refine zDx ?_|refine zBv ?_|refine zCx ?_|refine zEz ?_|refine zCw ?_|refine zCz ?_|refine zBz ?_|refine zDv ?_|refine zDy ?_|refine zAx ?_|refine zAv ?_)
  | refine zCv ?_|refine zEy rfl ?_|refine zIx ?_|refine zIv ?_
  | ((first|refine zGx rfl rfl rfl rfl rfl fun K_ hK_=>?_|refine zGy rfl rfl rfl rfl rfl fun K_ hK_=>?_);simp only [zAz,zDz,zFw,↓reduceIte,reduceCtorEq,Nat.reduceEqDiff,Bool.not_true,Bool.not_false];refine hK_ _ ?_;clear hK_ K_)
  | refine zDw (by decide) ?_
  | ((try first|refine zJx rfl rfl rfl ?_|refine zIy rfl rfl ?_|refine zJw rfl rfl rfl ?_|refine zIw rfl rfl ?_);(refine zIz fun Q_ hQ_=>?_;simp (disch:=first|omega|(simp only [List.length_cons,List.length_nil,List.length_append];omega)) only [bb,bp,zKx,↓reduceIte,reduceCtorEq,Nat.reduceEqDiff,Nat.reduceLT,Nat.reduceLeDiff,Nat.reduceAdd,Nat.reduceMul,Nat.reduceSub,Nat.reduceBEq,Int.reduceToNat,cond_true,cond_false,eq_self,beq_self_eq_true,yRz,zHz wf,zHx wf,zFz wf,zHy wf,zBx wf,zFy,tEvT4,zHw,zAw wf];first|(refine zCy (Q:=Q_) (fun hp_=>?_) (fun hp_=>?_) <;> first|(exfalso;omega)|(refine hQ_ _ _ ?_;clear hQ_ Q_))|(refine zBy (Q:=Q_) (fun hp_=>?_) (fun hp_=>?_) <;> first|(exfalso;omega)|(refine hQ_ _ _ ?_;clear hQ_ Q_))|(refine hQ_ _ _ ?_;clear hQ_ Q_)))
  | (refine zFv fun K_ hK_=>?_;simp (disch:=omega) only [zFx,zAz,zGz,↓reduceIte,reduceCtorEq,Nat.reduceEqDiff,Nat.reduceLT];refine hK_ _ ?_;clear hK_ K_)))
  have hlast : ∀ m,m≤sp.length - 1→(stsTo sp m).length≤(sts sp).length:=fun m hm=>by
    obtain ⟨post,e⟩:=yPy sp hm
    unfold sts;rw [e,List.length_append];omega
  refine zTv (fun (m:Nat) f d h'=>m≤sp.length - 1∧f 1 = .ptr p 0∧f 2 = .ptr (nx hb0 0) 0∧f 3=ii ((m+1:Nat):Int) ∧ ∃ (hb:H) (L:List AO) (w:Nat) (ks:List Nat),h'=X hb L w∧L[0]? = some (AO.cells (zAy [.yld l]) 107)∧d=ks.map (nx hb0)∧ks.Nodup∧(∀ k ∈ ks,L[k]? = some .dfr)∧I (stsTo sp m).length hb L∧lo≤w∧w≤hb.clock+L.length∧(∀ j,j<(stsTo sp m).length→w<c j)) (fun m=>sp.length - m) ?_ (sp.length+1) 0 (by omega) ?_
  · clear wf hB
    rintro m f d h' ⟨hm,g1,g2,g3,hb,L,w,ks,rfl,hL0,rfl,hnd,hks,hIm,hlo,hw,hcm⟩
    have hB:=(hI _ hb _ hIm).1
    have hs:=(hI _ hb _ hIm).2
    have sc:=hs.clock
    have wf:=hB.wf
    have hag:=hB.ag
    have hla : ∀ J w,w≤hb.clock+J.length→(om Tryd.prog KK).call (.fn 44 [.agg [a,ii turn]]) (X hb J w) = .ok (ii ((sp.length - 1:Nat):Int)) (X hb J w):=fun J w hw=>last a turn sp (by omega) _ (wf.X hw) (hB.sl.up wf _ _)
    by_cases hlt:m+1<sp.length
    · (repeat' (first
  | (with_reducible first|refine zJz ?_|refine zGw ?_|refine zEw ?_|refine zEx ?_|refine zEv ?_|refine zJy ?_|refine zGv ?_|refine zBw ?_|refine zDx ?_|refine zBv ?_|refine zCx ?_|refine zEz ?_|refine zCw ?_|refine zCz ?_|refine zBz ?_|refine zDv ?_|refine zDy ?_|refine zAx ?_|refine zAv ?_)
  | refine zCv ?_|refine zEy rfl ?_|refine zIx ?_|refine zIv ?_
  | ((first|refine zGx rfl rfl rfl rfl rfl fun K_ hK_=>?_|refine zGy rfl rfl rfl rfl rfl fun K_ hK_=>?_);simp only [zAz,zDz,zFw,↓reduceIte,reduceCtorEq,Nat.reduceEqDiff,Bool.not_true,Bool.not_false];refine hK_ _ ?_;clear hK_ K_)
  | refine zDw (by decide) ?_
  | ((try first|refine zJx rfl rfl rfl ?_|refine zIy rfl rfl ?_|refine zJw rfl rfl rfl ?_|refine zIw rfl rfl ?_);(refine zIz fun Q_ hQ_=>?_;simp (disch:=first|omega|(simp only [List.length_cons,List.length_nil,List.length_append];omega)) only [bb,bp,zKx,↓reduceIte,reduceCtorEq,Nat.reduceEqDiff,Nat.reduceLT,Nat.reduceLeDiff,Nat.reduceAdd,Nat.reduceMul,Nat.reduceSub,Nat.reduceBEq,Int.reduceToNat,cond_true,cond_false,eq_self,beq_self_eq_true,g1,g2,g3,hag,hla,zHz wf,zHx wf,zFz wf,zHy wf,zBx wf,zFy,tEvT4,zHw,zAw wf];first|(refine zCy (Q:=Q_) (fun hp_=>?_) (fun hp_=>?_) <;> first|(exfalso;omega)|(refine hQ_ _ _ ?_;clear hQ_ Q_))|(refine zBy (Q:=Q_) (fun hp_=>?_) (fun hp_=>?_) <;> first|(exfalso;omega)|(refine hQ_ _ _ ?_;clear hQ_ Q_))|(refine hQ_ _ _ ?_;clear hQ_ Q_)|(refine xCz (statesOf _ _ _ hb wf _ _ (by first|omega|(simp only [List.length_append,List.length_cons,List.length_nil];omega))) ?_;refine hQ_ _ _ ?_;clear hQ_ Q_)))
  | (refine zFv fun K_ hK_=>?_;simp (disch:=omega) only [zFx,zAz,zGz,↓reduceIte,reduceCtorEq,Nat.reduceEqDiff,Nat.reduceLT];refine hK_ _ ?_;clear hK_ K_)))
      refine yDx wf rfl (zFx (by decide)) fun o ho=>?_
      simp only [zAz,↓reduceIte,reduceCtorEq,Nat.reduceEqDiff,List.length_cons,List.length_nil,List.append_assoc,List.cons_append,List.nil_append,Nat.reduceAdd,List.length_append] at ho ⊢
      refine WV.mono (statesOf1 ht (nx hb L.length) (nx hb (L.length+1)) a (m+1) sp (by omega) (by omega) hok (nx hb (L.length+3)) _ (fun q hx Jy=>∃ hb2 w0 Lx,hx=X hb2 (Lx ++ .cells (zAy [a,ii turn]) 64 :: .cells (zAy [ii ((m+1:Nat):Int)]) 3 :: .dfr :: o :: []) w0∧Chg t L Lx∧I ((stsTo sp m).length+q) hb2 (Lx ++ .cells (zAy [a,ii turn]) 64 :: .cells (zAy [ii ((m+1:Nat):Int)]) 3 :: .dfr :: o :: Jy)∧w0≤hb2.clock+(L.length+4))
        (fun hx Jy=>∃ hb2 w0 o1 Lx,hx=X hb2 (Lx ++ .cells (zAy [a,ii turn]) 64 :: .cells (zAy [ii ((m+1:Nat):Int)]) 3 :: .dfr :: o1 :: []) w0∧Chg t L Lx∧D hb2 (Lx ++ .cells (zAy [a,ii turn]) 64 :: .cells (zAy [ii ((m+1:Nat):Int)]) 3 :: .dfr :: o1 :: Jy)∧Same hb0 hb2∧w0≤hb2.clock+(L.length+4)∧IsDone o1) lo (fun k=>c ((stsTo sp m).length+k)) d0 (by simp only [X_w];omega) (by simp only [X_w,zQz,List.length_append,List.length_cons,List.length_nil];omega) (fun k=>by have:=hc0 ((stsTo sp m).length+k);simp only [zQz];omega) (by simp only [zQz];omega) ?_ (fun hz Jy ⟨hb2,w2,o3,Lx,e,hcx,hd,_,hw,_⟩=>by rw [e];have:=hcx.1;exact (hDw _ _ hd).X (by simp only [List.length_append,List.length_cons,List.length_nil];omega)) (fun i h J J2 ⟨hb2,w2,Lx,e,hcx,hi,hw⟩ hk=>⟨hb2,w2,Lx,e,hcx,mI _ _ _ _ hi (Keep.app rfl (Keep.rfl' _) (Keep.cons' (Keep.cons' (Keep.cons' (Keep.cons' hk))))),hw⟩) (fun h J J2 ⟨hb2,w2,o3,Lx,e,hcx,hd,h3⟩ hk=>⟨hb2,w2,o3,Lx,e,hcx,mD _ _ _ hd (Keep.app rfl (Keep.rfl' _) (Keep.cons' (Keep.cons' (Keep.cons' (Keep.cons' hk))))),h3⟩) ?_ ⟨hb,_,L,rfl,Chg.rfl' _,mI _ _ _ _ hIm (Keep.more _ _),by omega⟩) ?_
      · rintro q hx Jy ⟨hb2,w0,Lx,rfl,hcx,hIk,hw0⟩
        have hlx:=hcx.1
        have hs2:=(hI _ hb2 _ hIk).2
        refine ⟨?_,Same.XX ⟨hs2.next.trans hs.next.symm,hs2.clock.trans hs.clock.symm⟩ (by simp only [List.length_append,List.length_cons,List.length_nil,hlx])⟩
        rw [hs.nx,← hs2.nx,hs.nx,← hs2.nx,← hlx]
        exact StIn.of (turn:=turn) (hI _ hb2 _ hIk).1.wf (k:=Lx.length) (m:=Lx.length+1) (by simp only [List.length_append,List.length_cons,List.length_nil];omega) (by simp only [zPx,List.getElem?_cons_zero]) (by simp only [zLv,List.getElem?_cons_succ,List.getElem?_cons_zero]) (hI _ hb2 _ hIk).1.sl
      · clear hag hla wf hB
        rintro q x hx hbx J w2 ⟨hb2,w0,Lx,rfl,hcx,hIk,hw0⟩ hlo2 hw2
        have hlx:=hcx.1
        rw [List.getElem?_map] at hx
        obtain ⟨y,hy1,rfl⟩:=Option.map_eq_some_iff.1 hx
        have hB2:=(hI _ hb2 _ hIk).1
        have hs2:=(hI _ hb2 _ hIk).2
        have wf:=hB2.wf
        have sc2:=hs2.clock
        have hw2':w2≤hb2.clock+(L.length+4)+J.length:=by simp only [zQz,List.length_append,List.length_cons,List.length_nil] at hw2;omega
        have hidx:((sts sp).map fun x=>[stv x])[(stsTo sp m).length+q]? = some [.agg [ii (y.i:Int),ii y.a,ii y.b,ii (y.s:Int)]]:=by
          rw [List.getElem?_map,sts_get hlt (zHv hy1),hy1];rfl
        have e0:=hs2.nx 0
        rw [X_X,hs.nx (L.length+3),← hs2.nx (L.length+3),← hlx]
        simp only [List.append_assoc,List.cons_append,List.nil_append]
        refine yJx wf (k:=Lx.length+3) (o:=o) (by simp only [zLv,List.getElem?_cons_succ,List.getElem?_cons_zero]) ho (setParams1 rfl) ?_
        unfold stv
        (repeat' (first
  | (with_reducible first|refine zJz ?_|refine zGw ?_|refine zEw ?_|refine zEx ?_|refine zEv ?_|refine zJy ?_|refine zGv ?_|refine zBw ?_|refine zDx ?_|refine zBv ?_|refine zCx ?_|refine zEz ?_|refine zCw ?_|refine zCz ?_|refine zBz ?_|refine zDv ?_|refine zDy ?_|refine zAx ?_|refine zAv ?_)
  | refine zCv ?_|refine zEy rfl ?_|refine zIx ?_|refine zIv ?_
  | ((first|refine zGx rfl rfl rfl rfl rfl fun K_ hK_=>?_|refine zGy rfl rfl rfl rfl rfl fun K_ hK_=>?_);simp only [zAz,zDz,zFw,↓reduceIte,reduceCtorEq,Nat.reduceEqDiff,Bool.not_true,Bool.not_false];refine hK_ _ ?_;clear hK_ K_)
  | refine zDw (by decide) ?_
  | ((try first|refine zJx rfl rfl rfl ?_|refine zIy rfl rfl ?_|refine zJw rfl rfl rfl ?_|refine zIw rfl rfl ?_);(refine zIz fun Q_ hQ_=>?_;simp (disch:=first|omega|(simp only [List.length_cons,List.length_nil,List.length_append];omega)) only [bb,bp,zKx,↓reduceIte,reduceCtorEq,Nat.reduceEqDiff,Nat.reduceLT,Nat.reduceLeDiff,Nat.reduceAdd,Nat.reduceMul,Nat.reduceSub,Nat.reduceBEq,Int.reduceToNat,cond_true,cond_false,eq_self,beq_self_eq_true,zHz wf,zHx wf,zFz wf,zHy wf,zBx wf,zFy,tEvT4,zHw,zAw wf];first|(refine zCy (Q:=Q_) (fun hp_=>?_) (fun hp_=>?_) <;> first|(exfalso;omega)|(refine hQ_ _ _ ?_;clear hQ_ Q_))|(refine zBy (Q:=Q_) (fun hp_=>?_) (fun hp_=>?_) <;> first|(exfalso;omega)|(refine hQ_ _ _ ?_;clear hQ_ Q_))|(refine hQ_ _ _ ?_;clear hQ_ Q_)))
  | (refine zFv fun K_ hK_=>?_;simp (disch:=omega) only [zFx,zAz,zGz,↓reduceIte,reduceCtorEq,Nat.reduceEqDiff,Nat.reduceLT];refine hK_ _ ?_;clear hK_ K_)))
        refine yVz wf (k:=Lx.length+3) (o:=o) (by simp only [zLv,List.getElem?_cons_succ,List.getElem?_cons_zero]) ho fun o' ho'=>?_
        simp only [List.set_cons_succ,List.set_cons_zero,zNx]
        have hL0x:=hcx.2 0 _ hL0 (zUy ht.1.1)
        have hL0' : ∀ G:List AO,(Lx++G)[0]? = some (AO.cells (zAy [.yld l]) 107):=fun G=>by rw [List.getElem?_append_left (zHv hL0x),hL0x]
        (repeat' (first
  | (with_reducible first|refine zJz ?_|refine zGw ?_|refine zEw ?_|refine zEx ?_|refine zEv ?_|refine zJy ?_|refine zGv ?_|refine zBw ?_|refine zDx ?_|refine zBv ?_|refine zCx ?_|refine zEz ?_|refine zCw ?_|refine zCz ?_|refine zBz ?_|refine zDv ?_|refine zDy ?_|refine zAx ?_|refine zAv ?_)
  | refine zCv ?_|refine zEy rfl ?_|refine zIx ?_|refine zIv ?_
  | ((first|refine zGx rfl rfl rfl rfl rfl fun K_ hK_=>?_|refine zGy rfl rfl rfl rfl rfl fun K_ hK_=>?_);simp only [zAz,zDz,zFw,↓reduceIte,reduceCtorEq,Nat.reduceEqDiff,Bool.not_true,Bool.not_false];refine hK_ _ ?_;clear hK_ K_)
  | refine zDw (by decide) ?_
  | ((try first|refine zJx rfl rfl rfl ?_|refine zIy rfl rfl ?_|refine zJw rfl rfl rfl ?_|refine zIw rfl rfl ?_);(refine zIz fun Q_ hQ_=>?_;simp (disch:=first|omega|(simp only [List.length_cons,List.length_nil,List.length_append];omega)) only [bb,bp,zKx,↓reduceIte,reduceCtorEq,Nat.reduceEqDiff,Nat.reduceLT,Nat.reduceLeDiff,Nat.reduceAdd,Nat.reduceMul,Nat.reduceSub,Nat.reduceBEq,Int.reduceToNat,cond_true,cond_false,eq_self,beq_self_eq_true,g2,← e0,hL0',zHz wf,zHx wf,zFz wf,zHy wf,zBx wf,zFy,tEvT4,zHw,zAw wf];first|(refine zCy (Q:=Q_) (fun hp_=>?_) (fun hp_=>?_) <;> first|(exfalso;omega)|(refine hQ_ _ _ ?_;clear hQ_ Q_))|(refine zBy (Q:=Q_) (fun hp_=>?_) (fun hp_=>?_) <;> first|(exfalso;omega)|(refine hQ_ _ _ ?_;clear hQ_ Q_))|(refine hQ_ _ _ ?_;clear hQ_ Q_)))
  | (refine zFv fun K_ hK_=>?_;simp (disch:=omega) only [zFx,zAz,zGz,↓reduceIte,reduceCtorEq,Nat.reduceEqDiff,Nat.reduceLT];refine hK_ _ ?_;clear hK_ K_)))
        refine zJx rfl rfl rfl ?_
        refine zIz fun Q_ hQ_=>?_
        simp (disch:=first|omega|(simp only [List.length_cons,List.length_nil,List.length_append];omega)) only [bb,bp,zKx,↓reduceIte,reduceCtorEq,Nat.reduceEqDiff,Nat.reduceLT,Nat.reduceLeDiff,Nat.reduceAdd,Nat.reduceMul,Nat.reduceSub,Nat.reduceBEq,Int.reduceToNat,cond_true,cond_false,eq_self,beq_self_eq_true,yRx,tEvT4,zHw,zAw wf]
        refine xZv (hy _ _ hidx hb2 _ _ (mI _ _ _ _ hIk (by rw [ho',ho];exact Keep.app rfl (Keep.rfl' _) (Keep.cons' (Keep.cons' (Keep.cons' (Keep.cons (Keep.more _ _) zQw)))))) (by omega) (by simp only [List.length_append,List.length_cons,List.length_nil];omega)) (fun hb' JZ J' w' s' hch hl' hle'=>⟨fun hw' hI'=>hQ_ _ _ ?_,fun hw' hD'=>hQ_ _ _ ?_⟩)
        · clear hQ_ Q_
          have hB':=(hI _ hb' _ hI').1
          have sc':=s'.clock
          obtain ⟨Lv,Z5,rfl,qJ,q5⟩:=hch.app
          obtain ⟨Z6,rfl,q6⟩:=q5.cons (zUy ht.2.1)
          obtain ⟨Z7,rfl,q7⟩:=q6.cons (zUy ht.2.2)
          obtain ⟨Z8,rfl,q8⟩:=q7.cons yIw
          obtain ⟨Z9,rfl,q9⟩:=q8.cons (by rw [ho'];exact zQw)
          obtain ⟨J2v,Z10,rfl,qJ2,q10⟩:=q9.app
          have hlv:=(hcx.trans qJ).1
          simp only [List.append_assoc,List.cons_append] at hI'
          (repeat' (first
  | (with_reducible first|refine zJz ?_|refine zGw ?_|refine zEw ?_|refine zEx ?_|refine zEv ?_|refine zJy ?_|refine zGv ?_|refine zBw ?_|refine zDx ?_|refine zBv ?_|refine zCx ?_|refine zEz ?_|refine zCw ?_|refine zCz ?_|refine zBz ?_|refine zDv ?_|refine zDy ?_|refine zAx ?_|refine zAv ?_)
  | refine zCv ?_|refine zEy rfl ?_|refine zIx ?_|refine zIv ?_
  | ((first|refine zGx rfl rfl rfl rfl rfl fun K_ hK_=>?_|refine zGy rfl rfl rfl rfl rfl fun K_ hK_=>?_);simp only [zAz,zDz,zFw,↓reduceIte,reduceCtorEq,Nat.reduceEqDiff,Bool.not_true,Bool.not_false];refine hK_ _ ?_;clear hK_ K_)
  | refine zDw (by decide) ?_
  | ((try first|refine zJx rfl rfl rfl ?_|refine zIy rfl rfl ?_|refine zJw rfl rfl rfl ?_|refine zIw rfl rfl ?_);(refine zIz fun Q_ hQ_=>?_;simp (disch:=first|omega|(simp only [List.length_cons,List.length_nil,List.length_append];omega)) only [bb,bp,zKx,↓reduceIte,reduceCtorEq,Nat.reduceEqDiff,Nat.reduceLT,Nat.reduceLeDiff,Nat.reduceAdd,Nat.reduceMul,Nat.reduceSub,Nat.reduceBEq,Int.reduceToNat,cond_true,cond_false,eq_self,beq_self_eq_true,zHz wf,zHx wf,zFz wf,zHy wf,zBx wf,zFy,tEvT4,zHw,zAw wf];first|(refine zCy (Q:=Q_) (fun hp_=>?_) (fun hp_=>?_) <;> first|(exfalso;omega)|(refine hQ_ _ _ ?_;clear hQ_ Q_))|(refine zBy (Q:=Q_) (fun hp_=>?_) (fun hp_=>?_) <;> first|(exfalso;omega)|(refine hQ_ _ _ ?_;clear hQ_ Q_))|(refine hQ_ _ _ ?_;clear hQ_ Q_)))
  | (refine zFv fun K_ hK_=>?_;simp (disch:=omega) only [zFx,zAz,zGz,↓reduceIte,reduceCtorEq,Nat.reduceEqDiff,Nat.reduceLT];refine hK_ _ ?_;clear hK_ K_)))
          rw [hlx,hs2.nx (L.length+3),← (hs2.trans s').nx (L.length+3),← hlv]
          refine yHv hB'.wf (k:=Lv.length+3) (o:=o') (by simp only [zLv,List.getElem?_cons_succ,List.getElem?_cons_zero]) ho' ?_
          simp only [List.cons_append,List.append_assoc,List.set_cons_succ,List.set_cons_zero,zNx]
          rw [← ho]
          have hkk:=mI _ _ _ (Lv ++ .cells (zAy [a,ii turn]) 64 :: .cells (zAy [ii ((m+1:Nat):Int)]) 3 :: .dfr :: o :: (J2v++(Z10++J'))) hI' (by rw [ho',ho];exact Keep.app rfl (Keep.rfl' _) (Keep.cons' (Keep.cons' (Keep.cons' (Keep.cons (Keep.rfl' _) zQw)))))
          exact ⟨X hb' (Lv ++ .cells (zAy [a,ii turn]) 64 :: .cells (zAy [ii ((m+1:Nat):Int)]) 3 :: .dfr :: o :: []) hb'.clock,J2v,Z10++J',_,by rw [X_X];simp only [List.append_assoc,List.cons_append,List.nil_append];rfl,Same.XX s' (by simp only [List.length_append,List.length_cons,hlv,hlx]),qJ2,by omega,by omega,.inl ⟨rfl,by omega,hb',hb'.clock,Lv,rfl,hcx.trans qJ,hkk,by omega⟩⟩
        · clear hQ_ Q_
          have sc':=s'.clock
          obtain ⟨Lv,Z5,rfl,qJ,q5⟩:=hch.app
          obtain ⟨Z6,rfl,q6⟩:=q5.cons (zUy ht.2.1)
          obtain ⟨Z7,rfl,q7⟩:=q6.cons (zUy ht.2.2)
          obtain ⟨Z8,rfl,q8⟩:=q7.cons yIw
          obtain ⟨Z9,rfl,q9⟩:=q8.cons (by rw [ho'];exact zQw)
          obtain ⟨J2v,Z10,rfl,qJ2,q10⟩:=q9.app
          have hlv:=(hcx.trans qJ).1
          simp only [List.append_assoc,List.cons_append] at hD'
          (repeat' (first
  | (with_reducible first|refine zJz ?_|refine zGw ?_|refine zEw ?_|refine zEx ?_|refine zEv ?_|refine zJy ?_|refine zGv ?_|refine zBw ?_|refine zDx ?_|refine zBv ?_|refine zCx ?_|refine zEz ?_|refine zCw ?_|refine zCz ?_|refine zBz ?_|refine zDv ?_|refine zDy ?_|refine zAx ?_|refine zAv ?_)
  | refine zCv ?_|refine zEy rfl ?_|refine zIx ?_|refine zIv ?_
  | ((first|refine zGx rfl rfl rfl rfl rfl fun K_ hK_=>?_|refine zGy rfl rfl rfl rfl rfl fun K_ hK_=>?_);simp only [zAz,zDz,zFw,↓reduceIte,reduceCtorEq,Nat.reduceEqDiff,Bool.not_true,Bool.not_false];refine hK_ _ ?_;clear hK_ K_)
  | refine zDw (by decide) ?_
  | ((try first|refine zJx rfl rfl rfl ?_|refine zIy rfl rfl ?_|refine zJw rfl rfl rfl ?_|refine zIw rfl rfl ?_);(refine zIz fun Q_ hQ_=>?_;simp (disch:=first|omega|(simp only [List.length_cons,List.length_nil,List.length_append];omega)) only [bb,bp,zKx,↓reduceIte,reduceCtorEq,Nat.reduceEqDiff,Nat.reduceLT,Nat.reduceLeDiff,Nat.reduceAdd,Nat.reduceMul,Nat.reduceSub,Nat.reduceBEq,Int.reduceToNat,cond_true,cond_false,eq_self,beq_self_eq_true,zHz wf,zHx wf,zFz wf,zHy wf,zBx wf,zFy,tEvT4,zHw,zAw wf];first|(refine zCy (Q:=Q_) (fun hp_=>?_) (fun hp_=>?_) <;> first|(exfalso;omega)|(refine hQ_ _ _ ?_;clear hQ_ Q_))|(refine zBy (Q:=Q_) (fun hp_=>?_) (fun hp_=>?_) <;> first|(exfalso;omega)|(refine hQ_ _ _ ?_;clear hQ_ Q_))|(refine hQ_ _ _ ?_;clear hQ_ Q_)))
  | (refine zFv fun K_ hK_=>?_;simp (disch:=omega) only [zFx,zAz,zGz,↓reduceIte,reduceCtorEq,Nat.reduceEqDiff,Nat.reduceLT];refine hK_ _ ?_;clear hK_ K_)))
          rw [hlx,hs2.nx (L.length+3),← (hs2.trans s').nx (L.length+3),← hlv]
          refine ySz (hDw _ _ hD') (k:=Lv.length+3) (o:=o') (by simp only [zLv,List.getElem?_cons_succ,List.getElem?_cons_zero]) ho' fun o8 ho8=>?_
          simp only [List.cons_append,List.append_assoc,List.set_cons_succ,List.set_cons_zero,zNx]
          have hkk:=mD _ _ (Lv ++ .cells (zAy [a,ii turn]) 64 :: .cells (zAy [ii ((m+1:Nat):Int)]) 3 :: .dfr :: o8 :: (J2v++(Z10++J'))) hD' (by rw [ho',ho8];exact Keep.app rfl (Keep.rfl' _) (Keep.cons' (Keep.cons' (Keep.cons' (Keep.cons (Keep.rfl' _) zQw)))))
          exact ⟨X hb' (Lv ++ .cells (zAy [a,ii turn]) 64 :: .cells (zAy [ii ((m+1:Nat):Int)]) 3 :: .dfr :: o8 :: []) hb'.clock,J2v,Z10++J',_,by rw [X_X];simp only [List.append_assoc,List.cons_append,List.nil_append];rfl,Same.XX s' (by simp only [List.length_append,List.length_cons,hlv,hlx]),qJ2,by omega,by omega,.inr ⟨rfl,by omega,hb',hb'.clock,o8,Lv,rfl,hcx.trans qJ,hkk,hs2.trans s',by omega,by rw [ho8];exact ⟨_,_,_,_,_,_,_,rfl⟩⟩⟩
      · clear hag hla wf hB
        rintro v h' ⟨hz,J3,w3,rfl,hsz,hlo3,hw3,⟨⟨hb2,w2,Lx,rfl,hcx,hI2,hw2⟩,hc3⟩|⟨⟨hb2,w2,o3,Lx,rfl,hcx,hD2,hs2,hw2,hdn⟩,hc3⟩⟩
        all_goals have hlx:=hcx.1
        all_goals have hL0x:=hcx.2 0 _ hL0 (zUy ht.1.1)
        all_goals have hksx : ∀ k ∈ ks,Lx[k]? = some .dfr:=fun k hk=>hcx.2 k _ (hks k hk) yIw
        · rw [List.length_map] at hI2 hc3
          have hs2:=(hI _ hb2 _ hI2).2
          have sc2:=hs2.clock
          have wf:=(hI _ hb2 _ hI2).1.wf
          have hw3':w3≤w:=hw3
          rw [X_X,hs.nx (L.length+3),← hs2.nx (L.length+3),← hlx]
          simp only [List.append_assoc,List.cons_append,List.nil_append]
          refine zYv wf (k:=Lx.length+3) (o:=o) (by simp only [zLv,List.getElem?_cons_succ,List.getElem?_cons_zero]) ho (by decide) fun o6 ho6=>?_
          simp only [List.set_cons_succ,List.set_cons_zero,zNx]
          (repeat' (first
  | (with_reducible first|refine zJz ?_|refine zGw ?_|refine zEw ?_|refine zEx ?_|refine zEv ?_|refine zJy ?_|refine zGv ?_|refine zBw ?_|refine zDx ?_|refine zBv ?_|refine zCx ?_|refine zEz ?_|refine zCw ?_|refine zCz ?_|refine zBz ?_|refine zDv ?_|refine zDy ?_|refine zAx ?_|refine zAv ?_)
  | refine zCv ?_|refine zEy rfl ?_|refine zIx ?_|refine zIv ?_
  | ((first|refine zGx rfl rfl rfl rfl rfl fun K_ hK_=>?_|refine zGy rfl rfl rfl rfl rfl fun K_ hK_=>?_);simp only [zAz,zDz,zFw,↓reduceIte,reduceCtorEq,Nat.reduceEqDiff,Bool.not_true,Bool.not_false];refine hK_ _ ?_;clear hK_ K_)
  | refine zDw (by decide) ?_
  | ((try first|refine zJx rfl rfl rfl ?_|refine zIy rfl rfl ?_|refine zJw rfl rfl rfl ?_|refine zIw rfl rfl ?_);(refine zIz fun Q_ hQ_=>?_;simp (disch:=first|omega|(simp only [List.length_cons,List.length_nil,List.length_append];omega)) only [bb,bp,zKx,↓reduceIte,reduceCtorEq,Nat.reduceEqDiff,Nat.reduceLT,Nat.reduceLeDiff,Nat.reduceAdd,Nat.reduceMul,Nat.reduceSub,Nat.reduceBEq,Int.reduceToNat,cond_true,cond_false,eq_self,beq_self_eq_true,g3,zHz wf,zHx wf,zFz wf,zHy wf,zBx wf,zFy,tEvT4,zHw,zAw wf];first|(refine zCy (Q:=Q_) (fun hp_=>?_) (fun hp_=>?_) <;> first|(exfalso;omega)|(refine hQ_ _ _ ?_;clear hQ_ Q_))|(refine zBy (Q:=Q_) (fun hp_=>?_) (fun hp_=>?_) <;> first|(exfalso;omega)|(refine hQ_ _ _ ?_;clear hQ_ Q_))|(refine hQ_ _ _ ?_;clear hQ_ Q_)))
  | (refine zFv fun K_ hK_=>?_;simp (disch:=omega) only [zFx,zAz,zGz,↓reduceIte,reduceCtorEq,Nat.reduceEqDiff,Nat.reduceLT];refine hK_ _ ?_;clear hK_ K_)))
          refine zKy (m+1) (by omega) ⟨by omega,by simp only [zAz,↓reduceIte,reduceCtorEq,Nat.reduceEqDiff];exact g1,by simp only [zAz,↓reduceIte,reduceCtorEq,Nat.reduceEqDiff];exact g2,by simp only [zAz,↓reduceIte,reduceCtorEq,Nat.reduceEqDiff];rfl,hb2,_,_,(Lx.length+2) :: ks,rfl,by rw [List.getElem?_append_left (zHv hL0x),hL0x],?_,?_,?_,by rw [yCx,List.length_append];exact mI _ _ _ _ hI2 (by rw [ho,ho6];exact Keep.app rfl (Keep.rfl' _) (Keep.cons' (Keep.cons' (Keep.cons' (Keep.cons (Keep.rfl' _) zQw))))),by omega,by simp only [List.length_append,List.length_cons,List.length_nil];omega,?_⟩
          · rw [List.map_cons,hs.nx]
          · exact List.nodup_cons.2 ⟨fun h=>by have:=zHv (hksx _ h);omega,hnd⟩
          · intro k hk
            rcases List.mem_cons.1 hk with rfl|hk
            · simp only [zLv,List.getElem?_cons_succ,List.getElem?_cons_zero]
            · rw [List.getElem?_append_left (zHv (hksx k hk)),hksx k hk]
          · intro j hj
            rw [yCx,List.length_append] at hj
            by_cases hj1:j<(stsTo sp m).length
            · have:=hcm j hj1;omega
            · have:=hc3 (j - (stsTo sp m).length) (by omega)
              rw [show (stsTo sp m).length+(j - (stsTo sp m).length)=j from by omega] at this
              omega
        · have sc2:=hs2.clock
          have wf:=hDw _ _ hD2
          have hw3':w3≤w:=hw3
          obtain ⟨g7,n7,tm7,ps7,as7,b7,dd7,rfl⟩:=hdn
          rw [X_X,hs.nx (L.length+3),← hs2.nx (L.length+3),← hlx]
          simp only [List.append_assoc,List.cons_append,List.nil_append]
          refine zYv wf (k:=Lx.length+3) (o:=.loop .done .ret g7 n7 tm7 ps7 as7 b7 dd7) (st:=.done) (by simp only [zLv,List.getElem?_cons_succ,List.getElem?_cons_zero]) rfl (by decide) fun o6 ho6=>?_
          simp only [List.set_cons_succ,List.set_cons_zero,zNx]
          (repeat' (first
  | (with_reducible first|refine zJz ?_|refine zGw ?_|refine zEw ?_|refine zEx ?_|refine zEv ?_|refine zJy ?_|refine zGv ?_|refine zBw ?_|refine zDx ?_|refine zBv ?_|refine zCx ?_|refine zEz ?_|refine zCw ?_|refine zCz ?_|refine zBz ?_|refine zDv ?_|refine zDy ?_|refine zAx ?_|refine zAv ?_)
  | refine zCv ?_|refine zEy rfl ?_|refine zIx ?_|refine zIv ?_
  | ((first|refine zGx rfl rfl rfl rfl rfl fun K_ hK_=>?_|refine zGy rfl rfl rfl rfl rfl fun K_ hK_=>?_);simp only [zAz,zDz,zFw,↓reduceIte,reduceCtorEq,Nat.reduceEqDiff,Bool.not_true,Bool.not_false];refine hK_ _ ?_;clear hK_ K_)
  | refine zDw (by decide) ?_
  | ((try first|refine zJx rfl rfl rfl ?_|refine zIy rfl rfl ?_|refine zJw rfl rfl rfl ?_|refine zIw rfl rfl ?_);(refine zIz fun Q_ hQ_=>?_;simp (disch:=first|omega|(simp only [List.length_cons,List.length_nil,List.length_append];omega)) only [bb,bp,zKx,↓reduceIte,reduceCtorEq,Nat.reduceEqDiff,Nat.reduceLT,Nat.reduceLeDiff,Nat.reduceAdd,Nat.reduceMul,Nat.reduceSub,Nat.reduceBEq,Int.reduceToNat,cond_true,cond_false,eq_self,beq_self_eq_true,zHz wf,zHx wf,zFz wf,zHy wf,zBx wf,zFy,tEvT4,zHw,zAw wf];first|(refine zCy (Q:=Q_) (fun hp_=>?_) (fun hp_=>?_) <;> first|(exfalso;omega)|(refine hQ_ _ _ ?_;clear hQ_ Q_))|(refine zBy (Q:=Q_) (fun hp_=>?_) (fun hp_=>?_) <;> first|(exfalso;omega)|(refine hQ_ _ _ ?_;clear hQ_ Q_))|(refine hQ_ _ _ ?_;clear hQ_ Q_)))
  | (refine zFv fun K_ hK_=>?_;simp (disch:=omega) only [zFx,zAz,zGz,↓reduceIte,reduceCtorEq,Nat.reduceEqDiff,Nat.reduceLT];refine hK_ _ ?_;clear hK_ K_)))
          have hd':nx hb (Lx.length+2) :: ks.map (nx hb0)=((Lx.length+2) :: ks).map (nx hb2):=by
            rw [List.map_cons,hs.nx (Lx.length+2),← hs2.nx (Lx.length+2)]
            congr 1
            exact List.map_congr_left fun k _=>(hs2.nx k).symm
          rw [hd']
          obtain ⟨L',w',e,hl,hw1,hw2',hkp⟩:=yAw (lo:=lo) wf (by omega) ((Lx.length+2) :: ks) (Lx ++ .cells (zAy [a,ii turn]) 64 :: .cells (zAy [ii ((m+1:Nat):Int)]) 3 :: .dfr :: o6 :: J3) (min (hb2.clock+(Lx.length+3)) w3) (List.nodup_cons.2 ⟨fun h=>by have:=zHv (hksx _ h);omega,hnd⟩) (fun k hk=>by
            rcases List.mem_cons.1 hk with rfl|hk
            · simp only [zLv,List.getElem?_cons_succ,List.getElem?_cons_zero]
            · rw [List.getElem?_append_left (zHv (hksx k hk)),hksx k hk]) (by omega)
          exact zJv _ (.tup []) e rfl (yOy (by omega) ⟨hb2,_,_,rfl,hs2,by omega,Nat.min_le_left _ _,.inr ⟨mD _ _ _ hD2 ((by rw [ho6];exact Keep.app rfl (Keep.rfl' _) (Keep.cons' (Keep.cons' (Keep.cons' (Keep.cons (Keep.rfl' _) zQw)))):Keep t _ _).trans (hkp t)),by omega⟩⟩)
    · have hme:m=sp.length - 1:=by omega
      subst hme
      (repeat' (first
  | (with_reducible first|refine zJz ?_|refine zGw ?_|refine zEw ?_|refine zEx ?_|refine zEv ?_|refine zJy ?_|refine zGv ?_|refine zBw ?_|refine zDx ?_|refine zBv ?_|refine zCx ?_|refine zEz ?_|refine zCw ?_|refine zCz ?_|refine zBz ?_|refine zDv ?_|refine zDy ?_|refine zAx ?_|refine zAv ?_)
  | refine zCv ?_|refine zEy rfl ?_|refine zIx ?_|refine zIv ?_
  | ((first|refine zGx rfl rfl rfl rfl rfl fun K_ hK_=>?_|refine zGy rfl rfl rfl rfl rfl fun K_ hK_=>?_);simp only [zAz,zDz,zFw,↓reduceIte,reduceCtorEq,Nat.reduceEqDiff,Bool.not_true,Bool.not_false];refine hK_ _ ?_;clear hK_ K_)
  | refine zDw (by decide) ?_
  | ((try first|refine zJx rfl rfl rfl ?_|refine zIy rfl rfl ?_|refine zJw rfl rfl rfl ?_|refine zIw rfl rfl ?_);(refine zIz fun Q_ hQ_=>?_;simp (disch:=first|omega|(simp only [List.length_cons,List.length_nil,List.length_append];omega)) only [bb,bp,zKx,↓reduceIte,reduceCtorEq,Nat.reduceEqDiff,Nat.reduceLT,Nat.reduceLeDiff,Nat.reduceAdd,Nat.reduceMul,Nat.reduceSub,Nat.reduceBEq,Int.reduceToNat,cond_true,cond_false,eq_self,beq_self_eq_true,g1,g2,g3,hag,hla,zHz wf,zHx wf,zFz wf,zHy wf,zBx wf,zFy,tEvT4,zHw,zAw wf];first|(refine zCy (Q:=Q_) (fun hp_=>?_) (fun hp_=>?_) <;> first|(exfalso;omega)|(refine hQ_ _ _ ?_;clear hQ_ Q_))|(refine zBy (Q:=Q_) (fun hp_=>?_) (fun hp_=>?_) <;> first|(exfalso;omega)|(refine hQ_ _ _ ?_;clear hQ_ Q_))|(refine hQ_ _ _ ?_;clear hQ_ Q_)))
  | (refine zFv fun K_ hK_=>?_;simp (disch:=omega) only [zFx,zAz,zGz,↓reduceIte,reduceCtorEq,Nat.reduceEqDiff,Nat.reduceLT];refine hK_ _ ?_;clear hK_ K_)))
      have hd':ks.map (nx hb0)=ks.map (nx hb):=List.map_congr_left fun k _=>(hs.nx k).symm
      rw [hd']
      obtain ⟨L',w',e,hl,hw1,hw2',hkp⟩:=yAw (lo:=lo) wf (by omega) ks L w hnd hks hlo
      have hpos:0<(stsTo sp (sp.length - 1)).length:=by
        obtain ⟨post,e⟩:=yPy sp (k:=1) (m:=sp.length - 1) (by omega)
        have h0:=hok _ (List.getElem_mem (show 0<sp.length by omega))
        have h1:=hok _ (List.getElem_mem (show 1<sp.length by omega))
        rw [zQy] at h0 h1
        have:=Nat.mul_pos (n:=(offs (spot sp 0)).length) (m:=(offs (spot sp 1)).length * 3) (by rw [zMv];have:=h0.2.2;omega) (by rw [zMv];have:=h1.2.2;omega)
        rw [e,List.length_append,yCx,List.length_append,yYw]
        show 0<_+(offs (spot sp 0)).length * ((offs (spot sp 1)).length * 3)+_
        omega
      have h00:=hcm 0 hpos
      have hc00:=hc0 0
      exact zJv _ (.tup []) e rfl (yOy (by omega) ⟨hb,_,_,rfl,hs,by omega,Nat.min_le_left _ _,.inl ⟨by rw [List.length_map];exact mI _ _ _ _ hIm (hkp t),fun k hk=>by rw [List.length_map] at hk;have:=hcm k hk;omega⟩⟩)
  · exact ⟨Nat.zero_le _,by simp only [zAz,↓reduceIte,reduceCtorEq,Nat.reduceEqDiff],by simp only [zAz,↓reduceIte,reduceCtorEq,Nat.reduceEqDiff],by simp only [zAz,↓reduceIte,reduceCtorEq,Nat.reduceEqDiff];rfl,hb0,_,_,[],rfl,rfl,rfl,List.nodup_nil,fun k h=>absurd h (List.not_mem_nil),mI _ _ _ _ h0 (Keep.nil _),Nat.le_trans hlo0 hlow,by simp only [List.length_cons,List.length_nil];omega,fun j h=>absurd h (Nat.not_lt_zero _)⟩
end Go.Proofs.YtkmdidplmfdikaaDoor
end

section
namespace Go.Proofs.YtkmdidplmfdikaaDoor
open Go.Ev
set_option maxRecDepth 100000
set_option linter.unusedSimpArgs false
set_option linter.unusedVariables false
set_option maxHeartbeats 2000000

theorem tEvT5 :type_of% (And.intro (And.intro (And.intro (And.intro (And.intro (@zSv) (@ia_2)) (And.intro (@sz_2) (@ze_2))) (And.intro (And.intro (@ia_3) (@sz_3)) (And.intro (@zSy) (And.intro (@zTx) (@zRx))))) (And.intro (And.intro (And.intro (@zOv) (@zVw)) (And.intro (@zUv) (And.intro (@zVx) (@zZv)))) (And.intro (And.intro (@zZw) (@zSx)) (And.intro (@zSz) (And.intro (@zSw) (@zXv)))))) (And.intro (And.intro (And.intro (And.intro (@zUz) (@yOw)) (And.intro (@yOx) (And.intro (@zOw) (@zOx)))) (And.intro (And.intro (@zOy) (@zOz)) (And.intro (@zMy) (And.intro (@zMz) (@zRz))))) (And.intro (And.intro (And.intro (@zLw) (@zLx)) (And.intro (@zOv) (And.intro (@yBw) (@yAv)))) (And.intro (And.intro (@pb_72) (@pb_47)) (And.intro (@pb_65) (And.intro (@pb_80) (@yUw))))))):=And.intro (And.intro (And.intro (And.intro (And.intro (@zSv) (@ia_2)) (And.intro (@sz_2) (@ze_2))) (And.intro (And.intro (@ia_3) (@sz_3)) (And.intro (@zSy) (And.intro (@zTx) (@zRx))))) (And.intro (And.intro (And.intro (@zOv) (@zVw)) (And.intro (@zUv) (And.intro (@zVx) (@zZv)))) (And.intro (And.intro (@zZw) (@zSx)) (And.intro (@zSz) (And.intro (@zSw) (@zXv)))))) (And.intro (And.intro (And.intro (And.intro (@zUz) (@yOw)) (And.intro (@yOx) (And.intro (@zOw) (@zOx)))) (And.intro (And.intro (@zOy) (@zOz)) (And.intro (@zMy) (And.intro (@zMz) (@zRz))))) (And.intro (And.intro (And.intro (@zLw) (@zLx)) (And.intro (@zOv) (And.intro (@yBw) (@yAv)))) (And.intro (And.intro (@pb_72) (@pb_47)) (And.intro (@pb_65) (And.intro (@pb_80) (@yUw))))))
def cellsS (x:Stt):List AV:=[ii (x.i:Int),ii x.a,ii x.b,ii (x.s:Int)]
def cellsL (ys:List Stt):List AV:=ys.flatMap cellsS
theorem yLw (ys:List Stt):(cellsL ys).length=ys.length * 4:=zXw _ fun _ _=>rfl
theorem cellsL_snoc (ys:List Stt) (y:Stt):cellsL (ys++[y])=cellsL ys++cellsS y:=by unfold cellsL;rw [List.flatMap_append];simp
theorem rs_81 (id:Pos) (off len c esz:Nat):reszT Tryd.prog 81 (.sl id off len (some c) esz) = .sl id off len (some c) 4:=yBy Tryd.underlying81 zUv
theorem appendSeq {B:H→Prop} {fv:AV} {ys:List Stt} (hd:HandsJ Tryd.prog KK 71 B fv (ys.map fun x=>[stv x])) (hN:ys.length≤1000000) (hN0:0<ys.length) (h:H) (wf:Wf h) (hB : ∀ L w,w≤h.clock+L.length→B (X h L w)) :
    WV ((om Tryd.prog KK).call (.fn 72 [.nils,fv]) h) fun v h'=>∃ (M:List AO) (k:Nat),h'=X h M h.w∧v = .sl (nx h k) 0 ys.length none 4∧M[k]? = some (.cells (zAy (cellsL ys)) 71):=by
  refine zKv (fn:=Tryd.f72) Tryd.func72 rfl rfl rfl rfl rfl ?_
  simp only [zKx]
  (repeat' (first
  | (with_reducible first|refine zJz ?_|refine zGw ?_|refine zEw ?_|refine zEx ?_|refine zEv ?_|refine zJy ?_|refine zGv ?_|refine zBw ?_|refine zDx ?_|refine zBv ?_|refine zCx ?_|refine zEz ?_|refine zCw ?_|refine zCz ?_|refine zBz ?_|refine zDv ?_|refine zDy ?_|refine zAx ?_|refine zAv ?_)
  | refine zCv ?_|refine zEy rfl ?_|refine zIx ?_|refine zIv ?_
  | ((first|refine zGx rfl rfl rfl rfl rfl fun K_ hK_=>?_|refine zGy rfl rfl rfl rfl rfl fun K_ hK_=>?_);simp only [zAz,zDz,zFw,↓reduceIte,reduceCtorEq,Nat.reduceEqDiff,Bool.not_true,Bool.not_false];refine hK_ _ ?_;clear hK_ K_)
  | refine zDw (by decide) ?_
  | ((try first|refine zJx rfl rfl rfl ?_|refine zIy rfl rfl ?_|refine zJw rfl rfl rfl ?_|refine zIw rfl rfl ?_);(refine zIz fun Q_ hQ_=>?_;simp (disch:=first|omega|(simp only [List.length_cons,List.length_nil,List.length_append];omega)) only [bb,bp,zKx,↓reduceIte,reduceCtorEq,Nat.reduceEqDiff,Nat.reduceLT,Nat.reduceLeDiff,Nat.reduceAdd,Nat.reduceMul,Nat.reduceSub,Nat.reduceBEq,Int.reduceToNat,cond_true,cond_false,eq_self,beq_self_eq_true,zHz wf,zHx wf,zFz wf,zHy wf,zBx wf,zFy,tEvT5,zHw,zKw,zAw wf];first|(refine zCy (Q:=Q_) (fun hp_=>?_) (fun hp_=>?_) <;> first|(exfalso;omega)|(refine hQ_ _ _ ?_;clear hQ_ Q_))|(refine zBy (Q:=Q_) (fun hp_=>?_) (fun hp_=>?_) <;> first|(exfalso;omega)|(refine hQ_ _ _ ?_;clear hQ_ Q_))|(refine hQ_ _ _ ?_;clear hQ_ Q_)))
  | (refine zFv fun K_ hK_=>?_;simp (disch:=omega) only [zFx,zAz,zGz,↓reduceIte,reduceCtorEq,Nat.reduceEqDiff,Nat.reduceLT];refine hK_ _ ?_;clear hK_ K_)))
  refine yDx wf rfl (zFx (by decide)) fun o ho=>?_
  simp only [zAz,↓reduceIte,reduceCtorEq,Nat.reduceEqDiff,List.length_cons,List.length_nil,List.append_assoc,List.cons_append,List.nil_append,Nat.reduceAdd,List.length_append] at ho ⊢
  refine WV.mono (hd (nx h 2) _ (fun i hx Jy=>∃ v w0,hx=X h [.cells (zAy [v]) 81,.dfr,o] w0∧Grow h [.dfr,.dfr,.dfr] Jy v 4 71 i (cellsL (ys.take i))∧w0≤h.clock+3) (fun _ _=>False) h.clock (fun _=>h.clock+3) (h.clock+3) (Nat.le_refl _) (Nat.le_add_right _ _) (fun _=>Nat.le_refl _) (Nat.le_refl _) ?_ (fun _ _ h=>h.elim) ?_ (fun _ _ _ h=>h.elim) ?_ ⟨.nils,h.clock,rfl,Grow.nil _ _ _ _ _,by omega⟩) ?_
  · rintro i hx Jy ⟨v,w0,rfl,hg,hw0⟩
    exact ⟨hB _ _ hw0,Same.X rfl⟩
  · rintro i hx J J2 ⟨v,w0,rfl,hg,hw0⟩ hk
    exact ⟨v,w0,rfl,hg.keepK hk,hw0⟩
  · rintro i x hx hbx J w ⟨v,w0,rfl,hg,hw0⟩ hlo hw
    rw [List.getElem?_map] at hx
    obtain ⟨y,hy1,rfl⟩:=Option.map_eq_some_iff.1 hx
    have hi:=zHv hy1
    have hyi:ys[i]=y:=by rw [List.getElem?_eq_getElem hi] at hy1;exact Option.some.inj hy1
    have hw':w≤h.clock+3+J.length:=hw
    have hv1:=hg.flat
    have hres:=hg.resz (P:=Tryd.prog) 81
    rw [X_X]
    simp only [List.cons_append,List.nil_append]
    refine yJx wf (k:=2) rfl ho (setParams1 rfl) ?_
    unfold stv
    (repeat' (first
  | (with_reducible first|refine zJz ?_|refine zGw ?_|refine zEw ?_|refine zEx ?_|refine zEv ?_|refine zJy ?_|refine zGv ?_|refine zBw ?_|refine zDx ?_|refine zBv ?_|refine zCx ?_|refine zEz ?_|refine zCw ?_|refine zCz ?_|refine zBz ?_|refine zDv ?_|refine zDy ?_|refine zAx ?_|refine zAv ?_)
  | refine zCv ?_|refine zEy rfl ?_|refine zIx ?_|refine zIv ?_
  | ((first|refine zGx rfl rfl rfl rfl rfl fun K_ hK_=>?_|refine zGy rfl rfl rfl rfl rfl fun K_ hK_=>?_);simp only [zAz,zDz,zFw,↓reduceIte,reduceCtorEq,Nat.reduceEqDiff,Bool.not_true,Bool.not_false];refine hK_ _ ?_;clear hK_ K_)
  | refine zDw (by decide) ?_
  | ((try first|refine zJx rfl rfl rfl ?_|refine zIy rfl rfl ?_|refine zJw rfl rfl rfl ?_|refine zIw rfl rfl ?_);(refine zIz fun Q_ hQ_=>?_;simp (disch:=first|omega|(simp only [List.length_cons,List.length_nil,List.length_append];omega)) only [bb,bp,zKx,↓reduceIte,reduceCtorEq,Nat.reduceEqDiff,Nat.reduceLT,Nat.reduceLeDiff,Nat.reduceAdd,Nat.reduceMul,Nat.reduceSub,Nat.reduceBEq,Int.reduceToNat,cond_true,cond_false,eq_self,beq_self_eq_true,zHz wf,zHx wf,zFz wf,zHy wf,zBx wf,zFy,tEvT5,zHw,zKw,zAw wf];first|(refine zCy (Q:=Q_) (fun hp_=>?_) (fun hp_=>?_) <;> first|(exfalso;omega)|(refine hQ_ _ _ ?_;clear hQ_ Q_))|(refine zBy (Q:=Q_) (fun hp_=>?_) (fun hp_=>?_) <;> first|(exfalso;omega)|(refine hQ_ _ _ ?_;clear hQ_ Q_))|(refine hQ_ _ _ ?_;clear hQ_ Q_)))
  | (refine zFv fun K_ hK_=>?_;simp (disch:=omega) only [zFx,zAz,zGz,↓reduceIte,reduceCtorEq,Nat.reduceEqDiff,Nat.reduceLT];refine hK_ _ ?_;clear hK_ K_)))
    refine yVz wf (k:=2) rfl ho fun o' ho'=>?_
    simp only [List.set_cons_succ,List.set_cons_zero]
    have g2:Grow h [.cells (zAy [v]) 81,.dfr,o'] (J++[.cells (zAy (cellsS y)) 71,.cells (zAy (cellsS y)) 71]) v 4 71 i (cellsL (ys.take i)):=(hg.keepK (Keep.more _ _)).front rfl
    obtain ⟨v',G2,o2,w2,hch,hg',hlo2,hle2,happ⟩:=g2.appendC (P:=Tryd.prog) wf Tryd.underlying81 zUv el_71 (n:=1) (new:=cellsS y) (x:=.sl (nx h (J.length+1+1+1+1)) 0 1 (some 1) 4) (t:=81) (by omega) (by decide) (by decide) rfl rfl (fun w=>yPv (e:=71) wf (by simp only [List.cons_append,List.nil_append,List.getElem?_cons_succ,zLv,List.getElem?_cons_zero]) rfl) (min (h.clock+2) (min (h.clock+(J.length+1+1+1)) w)) (by omega)
    simp only [List.cons_append,List.nil_append,cellsS] at happ
    have hv':=hg'.flat
    (repeat' (first
  | (with_reducible first|refine zJz ?_|refine zGw ?_|refine zEw ?_|refine zEx ?_|refine zEv ?_|refine zJy ?_|refine zGv ?_|refine zBw ?_|refine zDx ?_|refine zBv ?_|refine zCx ?_|refine zEz ?_|refine zCw ?_|refine zCz ?_|refine zBz ?_|refine zDv ?_|refine zDy ?_|refine zAx ?_|refine zAv ?_)
  | refine zCv ?_|refine zEy rfl ?_|refine zIx ?_|refine zIv ?_
  | ((first|refine zGx rfl rfl rfl rfl rfl fun K_ hK_=>?_|refine zGy rfl rfl rfl rfl rfl fun K_ hK_=>?_);simp only [zAz,zDz,zFw,↓reduceIte,reduceCtorEq,Nat.reduceEqDiff,Bool.not_true,Bool.not_false];refine hK_ _ ?_;clear hK_ K_)
  | refine zDw (by decide) ?_
  | ((try first|refine zJx rfl rfl rfl ?_|refine zIy rfl rfl ?_|refine zJw rfl rfl rfl ?_|refine zIw rfl rfl ?_);(refine zIz fun Q_ hQ_=>?_;simp (disch:=first|omega|(simp only [List.length_cons,List.length_nil,List.length_append];omega)) only [bb,bp,zKx,↓reduceIte,reduceCtorEq,Nat.reduceEqDiff,Nat.reduceLT,Nat.reduceLeDiff,Nat.reduceAdd,Nat.reduceMul,Nat.reduceSub,Nat.reduceBEq,Int.reduceToNat,cond_true,cond_false,eq_self,beq_self_eq_true,hv1.1,hv1.2,hres,rs_81,happ,hv'.1,hv'.2,zHz wf,zHx wf,zFz wf,zHy wf,zBx wf,zFy,tEvT5,zHw,zKw,zAw wf];first|(refine zCy (Q:=Q_) (fun hp_=>?_) (fun hp_=>?_) <;> first|(exfalso;omega)|(refine hQ_ _ _ ?_;clear hQ_ Q_))|(refine zBy (Q:=Q_) (fun hp_=>?_) (fun hp_=>?_) <;> first|(exfalso;omega)|(refine hQ_ _ _ ?_;clear hQ_ Q_))|(refine hQ_ _ _ ?_;clear hQ_ Q_)))
  | (refine zFv fun K_ hK_=>?_;simp (disch:=omega) only [zFx,zAz,zGz,↓reduceIte,reduceCtorEq,Nat.reduceEqDiff,Nat.reduceLT];refine hK_ _ ?_;clear hK_ K_)))
    refine yHv wf (k:=2) rfl ho' ?_
    simp only [List.set_cons_succ,List.set_cons_zero]
    rw [← ho]
    obtain ⟨J2,J3,rfl,hc1,hc2⟩:=hch.app
    refine ⟨X h [.cells (zAy [v']) 81,.dfr,o] h.clock,J2,J3++[o2],_,by rw [X_X];simp only [List.append_assoc,List.cons_append,List.nil_append];rfl,Same.X rfl,hc1,by omega,by omega,.inl ⟨rfl,by omega,v',h.clock,rfl,?_,by omega⟩⟩
    rw [List.append_assoc] at hg'
    have hg2:=hg'.front (L1:=[.dfr,.dfr,.dfr]) rfl
    rw [List.take_succ_eq_append_getElem hi,cellsL_snoc,hyi]
    exact hg2
  · rintro v h' ⟨hz,J3,w3,rfl,hsz,hlo3,hw3,⟨⟨v,w2,rfl,hg,hw2⟩,hc3⟩|⟨hF,_⟩⟩
    · rw [List.length_map] at hg
      rw [List.take_length] at hg
      obtain ⟨hcl,⟨h0,rfl⟩|⟨idx,rfl,hgi⟩⟩:=hg
      · omega
      have hw3':w3≤h.clock+3+J3.length:=by simp only [X_w] at hw3;omega
      rw [X_X]
      simp only [List.cons_append,List.nil_append,List.length_cons,List.length_nil,Nat.reduceAdd] at hgi ⊢
      refine zYv wf (k:=2) rfl ho (by decide) fun o6 ho6=>?_
      simp only [List.set_cons_succ,List.set_cons_zero]
      (repeat' (first
  | (with_reducible first|refine zJz ?_|refine zGw ?_|refine zEw ?_|refine zEx ?_|refine zEv ?_|refine zJy ?_|refine zGv ?_|refine zBw ?_|refine zDx ?_|refine zBv ?_|refine zCx ?_|refine zEz ?_|refine zCw ?_|refine zCz ?_|refine zBz ?_|refine zDv ?_|refine zDy ?_|refine zAx ?_|refine zAv ?_)
  | refine zCv ?_|refine zEy rfl ?_|refine zIx ?_|refine zIv ?_
  | ((first|refine zGx rfl rfl rfl rfl rfl fun K_ hK_=>?_|refine zGy rfl rfl rfl rfl rfl fun K_ hK_=>?_);simp only [zAz,zDz,zFw,↓reduceIte,reduceCtorEq,Nat.reduceEqDiff,Bool.not_true,Bool.not_false];refine hK_ _ ?_;clear hK_ K_)
  | refine zDw (by decide) ?_
  | ((try first|refine zJx rfl rfl rfl ?_|refine zIy rfl rfl ?_|refine zJw rfl rfl rfl ?_|refine zIw rfl rfl ?_);(refine zIz fun Q_ hQ_=>?_;simp (disch:=first|omega|(simp only [List.length_cons,List.length_nil,List.length_append];omega)) only [bb,bp,zKx,↓reduceIte,reduceCtorEq,Nat.reduceEqDiff,Nat.reduceLT,Nat.reduceLeDiff,Nat.reduceAdd,Nat.reduceMul,Nat.reduceSub,Nat.reduceBEq,Int.reduceToNat,cond_true,cond_false,eq_self,beq_self_eq_true,zHz wf,zHx wf,zFz wf,zHy wf,zBx wf,zFy,tEvT5,zHw,zKw,zAw wf];first|(refine zCy (Q:=Q_) (fun hp_=>?_) (fun hp_=>?_) <;> first|(exfalso;omega)|(refine hQ_ _ _ ?_;clear hQ_ Q_))|(refine zBy (Q:=Q_) (fun hp_=>?_) (fun hp_=>?_) <;> first|(exfalso;omega)|(refine hQ_ _ _ ?_;clear hQ_ Q_))|(refine hQ_ _ _ ?_;clear hQ_ Q_)))
  | (refine zFv fun K_ hK_=>?_;simp (disch:=omega) only [zFx,zAz,zGz,↓reduceIte,reduceCtorEq,Nat.reduceEqDiff,Nat.reduceLT];refine hK_ _ ?_;clear hK_ K_)))
      refine zJv _ _ (yJv wf (k:=1) rfl) (ret1 (by decide)) ?_
      simp only [zAz,↓reduceIte,reduceCtorEq,Nat.reduceEqDiff,List.set_cons_succ,List.set_cons_zero]
      refine yCz (by
        show (_ && flat (.sl _ 0 _ none 4))=false
        exact Bool.and_false _) ?_
      refine ⟨_,3+idx,by rw [show min h.w (min (h.clock+1) (min (h.clock+2) w3))=h.w from by have:=wf.wle;omega],rfl,?_⟩
      rw [show 3+idx=idx+1+1+1 from by omega]
      simp only [List.getElem?_cons_succ]
      exact hgi
    · exact hF.elim

theorem collect {B:H→Prop} {fv:AV} {ys:List Stt} (hd:HandsJ Tryd.prog KK 71 B fv (ys.map fun x=>[stv x])) (hN:ys.length≤1000000) (hN0:0<ys.length) (h:H) (wf:Wf h) (hB : ∀ L w,w≤h.clock+L.length→B (X h L w)) :
    ∃ (M:List AO) (k:Nat),(om Tryd.prog KK).call (.fn 47 [fv]) h = .ok (.sl (nx h k) 0 ys.length none 4) (X h M h.w)∧M[k]? = some (.cells (zAy (cellsL ys)) 71):=by
  obtain ⟨v,h',e,M,k,rfl,rfl,hk⟩:=appendSeq hd hN hN0 (X h [] h.clock) (wf.X (Nat.le_refl _)) (fun L w hw=>by rw [X_X];exact hB _ _ (by simpa [zQz] using hw))
  rw [X_X,X_w] at e
  refine ⟨M,k,?_,hk⟩
  refine zWv (zKv (fn:=Tryd.f47) Tryd.func47 rfl rfl rfl rfl rfl ?_)
  simp only [zKx]
  (repeat' (first
  | (with_reducible first|refine zJz ?_|refine zGw ?_|refine zEw ?_|refine zEx ?_|refine zEv ?_|refine zJy ?_|refine zGv ?_|refine zBw ?_|refine zDx ?_|refine zBv ?_|refine zCx ?_|refine zEz ?_|refine zCw ?_|refine zCz ?_|refine zBz ?_|refine zDv ?_|refine zDy ?_|refine zAx ?_|refine zAv ?_)
  | refine zCv ?_|refine zEy rfl ?_|refine zIx ?_|refine zIv ?_
  | ((first|refine zGx rfl rfl rfl rfl rfl fun K_ hK_=>?_|refine zGy rfl rfl rfl rfl rfl fun K_ hK_=>?_);simp only [zAz,zDz,zFw,↓reduceIte,reduceCtorEq,Nat.reduceEqDiff,Bool.not_true,Bool.not_false];refine hK_ _ ?_;clear hK_ K_)
  | refine zDw (by decide) ?_
  | ((try first|refine zJx rfl rfl rfl ?_|refine zIy rfl rfl ?_|refine zJw rfl rfl rfl ?_|refine zIw rfl rfl ?_);(refine zIz fun Q_ hQ_=>?_;simp (disch:=first|omega|(simp only [List.length_cons,List.length_nil,List.length_append];omega)) only [bb,bp,zKx,↓reduceIte,reduceCtorEq,Nat.reduceEqDiff,Nat.reduceLT,Nat.reduceLeDiff,Nat.reduceAdd,Nat.reduceMul,Nat.reduceSub,Nat.reduceBEq,Int.reduceToNat,cond_true,cond_false,eq_self,beq_self_eq_true,e,nx_X,zHz wf,zHx wf,zFz wf,zHy wf,zBx wf,zFy,tEvT5,zHw,zKw,zAw wf];first|(refine zCy (Q:=Q_) (fun hp_=>?_) (fun hp_=>?_) <;> first|(exfalso;omega)|(refine hQ_ _ _ ?_;clear hQ_ Q_))|(refine zBy (Q:=Q_) (fun hp_=>?_) (fun hp_=>?_) <;> first|(exfalso;omega)|(refine hQ_ _ _ ?_;clear hQ_ Q_))|(refine hQ_ _ _ ?_;clear hQ_ Q_)))
  | (refine zFv fun K_ hK_=>?_;simp (disch:=omega) only [zFx,zAz,zGz,↓reduceIte,reduceCtorEq,Nat.reduceEqDiff,Nat.reduceLT];refine hK_ _ ?_;clear hK_ K_)))
  refine zJv _ _ rfl (ret1 (by decide)) ?_
  simp only [zAz,↓reduceIte,reduceCtorEq,Nat.reduceEqDiff,List.set_cons_succ,List.set_cons_zero]
  refine yCz (by
    show (_ && flat (.sl _ 0 _ none 4))=false
    exact Bool.and_false _) ?_
  refine ⟨rfl,?_⟩
  rw [Nat.min_eq_left wf.wle]
end Go.Proofs.YtkmdidplmfdikaaDoor
end

section
namespace Go.Proofs.YtkmdidplmfdikaaDoor
open Go.Ev
set_option maxRecDepth 100000
set_option linter.unusedSimpArgs false
set_option linter.unusedVariables false
set_option maxHeartbeats 2000000

theorem tEvT6 :type_of% (And.intro (And.intro (And.intro (And.intro (And.intro (@zSv) (@ia_2)) (And.intro (@sz_2) (@ze_2))) (And.intro (And.intro (@ia_3) (@sz_3)) (And.intro (@zSy) (And.intro (@zTx) (@zRx))))) (And.intro (And.intro (And.intro (@zOv) (@zVw)) (And.intro (@zUv) (And.intro (@zVx) (@zZv)))) (And.intro (And.intro (@zZw) (@zSx)) (And.intro (@zSz) (And.intro (@zSw) (@zXv)))))) (And.intro (And.intro (And.intro (And.intro (@zUz) (@yOw)) (And.intro (@yOx) (And.intro (@zOw) (@zOx)))) (And.intro (And.intro (@zOy) (@zOz)) (And.intro (@zMy) (And.intro (@zMz) (@zRz))))) (And.intro (And.intro (And.intro (@zLw) (@zLx)) (And.intro (@zOv) (And.intro (@yBw) (@yAv)))) (And.intro (And.intro (@pb_72) (@pb_47)) (And.intro (@pb_65) (And.intro (@pb_80) (@yUw))))))):=And.intro (And.intro (And.intro (And.intro (And.intro (@zSv) (@ia_2)) (And.intro (@sz_2) (@ze_2))) (And.intro (And.intro (@ia_3) (@sz_3)) (And.intro (@zSy) (And.intro (@zTx) (@zRx))))) (And.intro (And.intro (And.intro (@zOv) (@zVw)) (And.intro (@zUv) (And.intro (@zVx) (@zZv)))) (And.intro (And.intro (@zZw) (@zSx)) (And.intro (@zSz) (And.intro (@zSw) (@zXv)))))) (And.intro (And.intro (And.intro (And.intro (@zUz) (@yOw)) (And.intro (@yOx) (And.intro (@zOw) (@zOx)))) (And.intro (And.intro (@zOy) (@zOz)) (And.intro (@zMy) (And.intro (@zMz) (@zRz))))) (And.intro (And.intro (And.intro (@zLw) (@zLx)) (And.intro (@zOv) (And.intro (@yBw) (@yAv)))) (And.intro (And.intro (@pb_72) (@pb_47)) (And.intro (@pb_65) (And.intro (@pb_80) (@yUw))))))
noncomputable def LS (L:List AO) (k:Nat) (zs:List Stt):List AO:=L.set k (.cells (zAy (cellsL zs)) 71)
theorem LS_len (L:List AO) (k:Nat) (zs:List Stt):(LS L k zs).length=L.length:=by unfold LS;simp
theorem LS_get {L:List AO} {k:Nat} (hk:k<L.length) (zs:List Stt):(LS L k zs)[k]? = some (.cells (zAy (cellsL zs)) 71):=by unfold LS;simp [hk]
theorem LS_load {h:H} (wf:Wf h) {L:List AO} {k:Nat} (hk:k<L.length) {zs:List Stt} {i:Nat} {y:Stt} (hy:zs[i]? = some y) (w:Nat):loadAgg (nx h k) (i * 4) (some 4) (X h (LS L k zs) w)=some (.agg (cellsS y)):=by
  have hi:=zHv hy
  rw [zFz wf,LS_get hk,zPv (by decide),if_pos (by rw [yLw];omega)]
  unfold cellsL
  rw [yQw (m:=4) zs (fun _ _=>rfl) i y hy]
theorem LS_store {h:H} (wf:Wf h) {L:List AO} {k:Nat} (hk:k<L.length) {zs:List Stt} {i:Nat} (hi:i<zs.length) (y:Stt) (w:Nat):writeCells (nx h k) (i * 4) (cellsS y) (X h (LS L k zs) w)=some (X h (LS L k (zs.set i y)) (min (h.clock+k) w)):=by
  rw [zBx wf,LS_get hk]
  unfold cellsS
  rw [zUx,if_pos (by rw [yLw];simp only [List.length_cons,List.length_nil];omega)]
  have e:=xWw (f:=cellsS) (m:=4) zs (fun _ _=>rfl) i y hi
  rw [yFz]
  show some (X h ((LS L k zs).set k (.cells (zAy (List.take (i * 4) (zs.flatMap cellsS)++cellsS y++List.drop (i * 4+4) (zs.flatMap cellsS))) 71)) _)=_
  rw [e]
  unfold LS
  rw [List.set_set];rfl
theorem ix_81 {h:H} {k n i:Nat} {c:Option Nat} (hi:i<n):indexAddrE Tryd.prog 81 (.sl (nx h k) 0 n c 4) (.int .i64 (i:Int))=some (.ptr (nx h k) (i * 4)):=by
  rw [zQv,zTy];dsimp only;rw [ik_81];dsimp only;rw [zYw hi,Nat.zero_add]
theorem len_81 {h h':H} {k n:Nat} : lenE Tryd.prog 81 (.sl (nx h k) 0 n none 4) h'=some (.int .i64 (n:Int)):=by
  unfold lenE;rw [un_81];rfl

theorem reverse (ys:List Stt) (hn:2≤ys.length∧ys.length≤1000000) (h:H) (wf:Wf h) (L:List AO) (k w:Nat) (hk:L[k]? = some (.cells (zAy (cellsL ys)) 71)) (hw:w≤h.clock+L.length) :
    (om Tryd.prog KK).call (.fn 80 [.sl (nx h k) 0 ys.length none 4]) (X h L w) = .ok (.tup []) (X h (LS L k ys.reverse) (min w (h.clock+k))):=by
  have hkl:=zHv hk
  have hLS:L=LS L k ys:=by
    unfold LS
    refine List.ext_getElem? fun i=>?_
    by_cases e:k=i
    · subst e;rw [hk];simp [hkl]
    · rw [List.getElem?_set_ne e]
  refine zWv (zKv (fn:=Tryd.f80) Tryd.func80 rfl rfl rfl rfl rfl ?_)
  simp only [zKx]
  have hlen : ∀ h',lenE Tryd.prog 81 (.sl (nx h k) 0 ys.length none 4) h'=some (ii (ys.length:Int)):=fun h'=>len_81
  (repeat' (first
  | (with_reducible first|refine zJz ?_|refine zGw ?_|refine zEw ?_|refine zEx ?_|refine zEv ?_|refine zJy ?_|refine zGv ?_|refine zBw ?_|refine zDx ?_|refine zBv ?_|refine zCx ?_|refine zEz ?_|refine zCw ?_|refine zCz ?_|refine zBz ?_|refine zDv ?_|refine zDy ?_|refine zAx ?_|refine zAv ?_)
  | refine zCv ?_|refine zEy rfl ?_|refine zIx ?_|refine zIv ?_
  | ((first|refine zGx rfl rfl rfl rfl rfl fun K_ hK_=>?_|refine zGy rfl rfl rfl rfl rfl fun K_ hK_=>?_);simp only [zAz,zDz,zFw,↓reduceIte,reduceCtorEq,Nat.reduceEqDiff,Bool.not_true,Bool.not_false];refine hK_ _ ?_;clear hK_ K_)
  | refine zDw (by decide) ?_
  | ((try first|refine zJx rfl rfl rfl ?_|refine zIy rfl rfl ?_|refine zJw rfl rfl rfl ?_|refine zIw rfl rfl ?_);(refine zIz fun Q_ hQ_=>?_;simp (disch:=first|omega|(simp only [List.length_cons,List.length_nil,List.length_append];omega)) only [bb,bp,zKx,↓reduceIte,reduceCtorEq,Nat.reduceEqDiff,Nat.reduceLT,Nat.reduceLeDiff,Nat.reduceAdd,Nat.reduceMul,Nat.reduceSub,Nat.reduceBEq,Int.reduceToNat,cond_true,cond_false,eq_self,beq_self_eq_true,hlen,zHz wf,zHx wf,zHy wf,zFy,tEvT6,zHw,zKw,zAw wf];first|(refine zCy (Q:=Q_) (fun hp_=>?_) (fun hp_=>?_) <;> first|(exfalso;omega)|(refine hQ_ _ _ ?_;clear hQ_ Q_))|(refine zBy (Q:=Q_) (fun hp_=>?_) (fun hp_=>?_) <;> first|(exfalso;omega)|(refine hQ_ _ _ ?_;clear hQ_ Q_))|(refine hQ_ _ _ ?_;clear hQ_ Q_)))
  | (refine zFv fun K_ hK_=>?_;simp (disch:=omega) only [zFx,zAz,zGz,↓reduceIte,reduceCtorEq,Nat.reduceEqDiff,Nat.reduceLT];refine hK_ _ ?_;clear hK_ K_)))
  refine zTv (fun (j:Nat) f d h'=>j+j≤ys.length+1∧f 0 = .sl (nx h k) 0 ys.length none 4∧f 2=ii (j:Int)∧f 3=ii ((ys.length:Int) - 1 - (j:Int))∧d=[] ∧ ∃ w',h'=X h (LS L k (pr ys j)) w'∧w'=(if j=0 then h.clock+L.length else h.clock+k)) (fun j=>ys.length - j) ?_ (ys.length+1) 0 (by omega) ?_
  · rintro j f d h' ⟨hj,g0,g2,g3,rfl,w',rfl,hw'⟩
    by_cases hlt:j+j+1<ys.length
    · have e3:(ys.length:Int) - 1 - (j:Int)=((ys.length - 1 - j:Nat):Int):=by omega
      have p1:(pr ys j)[ys.length - 1 - j]? = some (ys.getD (ys.length - 1 - j) dS):=by rw [pr_get _ _ (by omega),if_neg (by omega)]
      have p2:(pr ys j)[j]? = some (ys.getD j dS):=by rw [pr_get _ _ (by omega),if_neg (by omega)]
      have q1:=LS_load wf hkl p1
      have q2:=LS_load wf hkl p2
      have s1:=LS_store wf hkl (zs:=pr ys j) (i:=j) (by rw [xTx];omega) (ys.getD (ys.length - 1 - j) dS)
      have s2:=LS_store wf hkl (zs:=(pr ys j).set j (ys.getD (ys.length - 1 - j) dS)) (i:=ys.length - 1 - j) (by rw [List.length_set,xTx];omega) (ys.getD j dS)
      have i1:=ix_81 (h:=h) (k:=k) (c:=none) (show j<ys.length by omega)
      have i2:=ix_81 (h:=h) (k:=k) (c:=none) (show ys.length - 1 - j<ys.length by omega)
      rw [pr_swap ys hlt] at s2
      rw [e3] at g3
      generalize hya:ys.getD (ys.length - 1 - j) dS=ya at q1 s1 s2
      generalize hyb:ys.getD j dS=yb at q2 s2
      generalize hzs:LS L k (pr ys j)=A at q1 q2 s1 ⊢
      generalize hzs2:LS L k ((pr ys j).set j ya)=A2 at s1 s2
      generalize hzs3:LS L k (pr ys (j+1))=A3 at s2
      have lA:A.length=L.length:=by rw [← hzs,LS_len]
      have lA2:A2.length=L.length:=by rw [← hzs2,LS_len]
      unfold cellsS at q1 q2 s1 s2
      have hwb:w'≤h.clock+A.length:=by rw [hw',lA];split <;> omega
      (repeat' (first
  | (with_reducible first|refine zJz ?_|refine zGw ?_|refine zEw ?_|refine zEx ?_|refine zEv ?_|refine zJy ?_|refine zGv ?_|refine zBw ?_|refine zDx ?_|refine zBv ?_|refine zCx ?_|refine zEz ?_|refine zCw ?_|refine zCz ?_|refine zBz ?_|refine zDv ?_|refine zDy ?_|refine zAx ?_|refine zAv ?_)
  | refine zCv ?_|refine zEy rfl ?_|refine zIx ?_|refine zIv ?_
  | ((first|refine zGx rfl rfl rfl rfl rfl fun K_ hK_=>?_|refine zGy rfl rfl rfl rfl rfl fun K_ hK_=>?_);simp only [zAz,zDz,zFw,↓reduceIte,reduceCtorEq,Nat.reduceEqDiff,Bool.not_true,Bool.not_false];refine hK_ _ ?_;clear hK_ K_)
  | refine zDw (by decide) ?_
  | ((try first|refine zJx rfl rfl rfl ?_|refine zIy rfl rfl ?_|refine zJw rfl rfl rfl ?_|refine zIw rfl rfl ?_);(refine zIz fun Q_ hQ_=>?_;simp (disch:=first|omega|(simp only [List.length_cons,List.length_nil,List.length_append];omega)) only [bb,bp,zKx,↓reduceIte,reduceCtorEq,Nat.reduceEqDiff,Nat.reduceLT,Nat.reduceLeDiff,Nat.reduceAdd,Nat.reduceMul,Nat.reduceSub,Nat.reduceBEq,Int.reduceToNat,cond_true,cond_false,eq_self,beq_self_eq_true,g0,g2,g3,i1,i2,zHz wf,zHx wf,zHy wf,zFy,tEvT6,zHw,zKw,zAw wf];first|(refine zCy (Q:=Q_) (fun hp_=>?_) (fun hp_=>?_) <;> first|(exfalso;omega)|(refine hQ_ _ _ ?_;clear hQ_ Q_))|(refine zBy (Q:=Q_) (fun hp_=>?_) (fun hp_=>?_) <;> first|(exfalso;omega)|(refine hQ_ _ _ ?_;clear hQ_ Q_))|(refine hQ_ _ _ ?_;clear hQ_ Q_)))
  | (refine zFv fun K_ hK_=>?_;simp (disch:=omega) only [zFx,zAz,zGz,↓reduceIte,reduceCtorEq,Nat.reduceEqDiff,Nat.reduceLT];refine hK_ _ ?_;clear hK_ K_)))
      refine zNw [.no,.no,.no,.no,.no,.no,.no,.no,.no,.no,.no,.no,.full,.full,.full,.full] (by kernel_rfl) ?_
      (repeat' (first
  | (with_reducible first|refine zJz ?_|refine zGw ?_|refine zEw ?_|refine zEx ?_|refine zEv ?_|refine zJy ?_|refine zGv ?_|refine zBw ?_|refine zDx ?_|refine zBv ?_|refine zCx ?_|refine zEz ?_|refine zCw ?_|refine zCz ?_|refine zBz ?_|refine zDv ?_|refine zDy ?_|refine zAx ?_|refine zAv ?_)
  | refine zCv ?_|refine zEy rfl ?_|refine zIx ?_|refine zIv ?_
  | ((first|refine zGx rfl rfl rfl rfl rfl fun K_ hK_=>?_|refine zGy rfl rfl rfl rfl rfl fun K_ hK_=>?_);simp only [zAz,zDz,zFw,↓reduceIte,reduceCtorEq,Nat.reduceEqDiff,Bool.not_true,Bool.not_false];refine hK_ _ ?_;clear hK_ K_)
  | refine zDw (by decide) ?_
  | ((try first|refine zJx rfl rfl rfl ?_|refine zIy rfl rfl ?_|refine zJw rfl rfl rfl ?_|refine zIw rfl rfl ?_);(refine zIz fun Q_ hQ_=>?_;simp (disch:=first|omega|(simp only [List.length_cons,List.length_nil,List.length_append];omega)) only [bb,bp,zKx,↓reduceIte,reduceCtorEq,Nat.reduceEqDiff,Nat.reduceLT,Nat.reduceLeDiff,Nat.reduceAdd,Nat.reduceMul,Nat.reduceSub,Nat.reduceBEq,Int.reduceToNat,cond_true,cond_false,eq_self,beq_self_eq_true,g0,g2,g3,i1,i2,q1,q2,s1,s2,zHz wf,zHx wf,zHy wf,zFy,tEvT6,zHw,zKw,zAw wf];first|(refine zCy (Q:=Q_) (fun hp_=>?_) (fun hp_=>?_) <;> first|(exfalso;omega)|(refine hQ_ _ _ ?_;clear hQ_ Q_))|(refine zBy (Q:=Q_) (fun hp_=>?_) (fun hp_=>?_) <;> first|(exfalso;omega)|(refine hQ_ _ _ ?_;clear hQ_ Q_))|(refine hQ_ _ _ ?_;clear hQ_ Q_)))
  | (refine zFv fun K_ hK_=>?_;simp (disch:=omega) only [zFx,zAz,zGz,↓reduceIte,reduceCtorEq,Nat.reduceEqDiff,Nat.reduceLT];refine hK_ _ ?_;clear hK_ K_)))
      refine zKy (j+1) (by omega) ⟨by omega,by simp only [zAz,↓reduceIte,reduceCtorEq,Nat.reduceEqDiff];exact g0,by simp only [zAz,↓reduceIte,reduceCtorEq,Nat.reduceEqDiff];rfl,by simp only [zAz,↓reduceIte,reduceCtorEq,Nat.reduceEqDiff];congr 1;omega,rfl,_,by rw [← hzs3],?_⟩
      rw [if_neg (by omega),hw']
      split <;> omega
    · (repeat' (first
  | (with_reducible first|refine zJz ?_|refine zGw ?_|refine zEw ?_|refine zEx ?_|refine zEv ?_|refine zJy ?_|refine zGv ?_|refine zBw ?_|refine zDx ?_|refine zBv ?_|refine zCx ?_|refine zEz ?_|refine zCw ?_|refine zCz ?_|refine zBz ?_|refine zDv ?_|refine zDy ?_|refine zAx ?_|refine zAv ?_)
  | refine zCv ?_|refine zEy rfl ?_|refine zIx ?_|refine zIv ?_
  | ((first|refine zGx rfl rfl rfl rfl rfl fun K_ hK_=>?_|refine zGy rfl rfl rfl rfl rfl fun K_ hK_=>?_);simp only [zAz,zDz,zFw,↓reduceIte,reduceCtorEq,Nat.reduceEqDiff,Bool.not_true,Bool.not_false];refine hK_ _ ?_;clear hK_ K_)
  | refine zDw (by decide) ?_
  | ((try first|refine zJx rfl rfl rfl ?_|refine zIy rfl rfl ?_|refine zJw rfl rfl rfl ?_|refine zIw rfl rfl ?_);(refine zIz fun Q_ hQ_=>?_;simp (disch:=first|omega|(simp only [List.length_cons,List.length_nil,List.length_append];omega)) only [bb,bp,zKx,↓reduceIte,reduceCtorEq,Nat.reduceEqDiff,Nat.reduceLT,Nat.reduceLeDiff,Nat.reduceAdd,Nat.reduceMul,Nat.reduceSub,Nat.reduceBEq,Int.reduceToNat,cond_true,cond_false,eq_self,beq_self_eq_true,g0,g2,g3,zHz wf,zHx wf,zHy wf,zFy,tEvT6,zHw,zKw,zAw wf];first|(refine zCy (Q:=Q_) (fun hp_=>?_) (fun hp_=>?_) <;> first|(exfalso;omega)|(refine hQ_ _ _ ?_;clear hQ_ Q_))|(refine zBy (Q:=Q_) (fun hp_=>?_) (fun hp_=>?_) <;> first|(exfalso;omega)|(refine hQ_ _ _ ?_;clear hQ_ Q_))|(refine hQ_ _ _ ?_;clear hQ_ Q_)))
  | (refine zFv fun K_ hK_=>?_;simp (disch:=omega) only [zFx,zAz,zGz,↓reduceIte,reduceCtorEq,Nat.reduceEqDiff,Nat.reduceLT];refine hK_ _ ?_;clear hK_ K_)))
      have hj0:j≠0:=by omega
      rw [if_neg hj0] at hw'
      subst hw'
      refine zJv _ (.tup []) rfl rfl (yOy (by show h.clock+k<h.clock+L.length;omega) ⟨rfl,?_⟩)
      rw [pr_done ys (by omega),X_w]
  · refine ⟨by omega,by simp only [zAz,↓reduceIte,reduceCtorEq,Nat.reduceEqDiff],by simp only [zAz,↓reduceIte,reduceCtorEq,Nat.reduceEqDiff];rfl,by simp only [zAz,↓reduceIte,reduceCtorEq,Nat.reduceEqDiff];congr 1;omega,rfl,h.clock+L.length,?_,by rw [if_pos rfl]⟩
    rw [pr_zero,← hLS,X_X,List.append_nil]
    rfl

theorem turned (ys:List Stt) (hn:2≤ys.length∧ys.length≤1000000) (h:H) (wf:Wf h) (L:List AO) (k w:Nat) (hk:L[k]? = some (.cells (zAy (cellsL ys)) 71)) (hw:w≤h.clock+L.length) :
    (om Tryd.prog KK).call (.fn 65 [.sl (nx h k) 0 ys.length none 4]) (X h L w) = .ok (.sl (nx h L.length) 0 ys.length none 4) (X h (L++[.cells (zAy (cellsL ys.reverse)) 71]) w):=by
  have hkl:=zHv hk
  refine zWv (zKv (fn:=Tryd.f65) Tryd.func65 rfl rfl rfl rfl rfl ?_)
  simp only [zKx]
  have happ:=yNv (P:=Tryd.prog) (wf:=wf) (k:=k) (t:=81) Tryd.underlying81 zUv el_71 (x:=.sl (nx h k) 0 ys.length none 4) (n:=ys.length) (new:=cellsL ys) (l:=L) (w:=h.clock+L.length) (by omega) (by omega) (by decide) hk (yPv (e:=71) wf hk (yLw ys)) (yLw ys)
  have hsl:sliceE Tryd.prog 81 (.sl (nx h k) 0 ys.length none 4) none (some 0) (some 0)=some (.sl (nx h k) 0 0 (some 0) 4):=by
    obtain ⟨m,hm⟩ : ∃ m,ys.length=m+1:=⟨ys.length - 1,by omega⟩
    rw [hm]
    unfold sliceE
    rfl
  have hrev:=reverse ys hn h wf (L++[.cells (zAy (cellsL ys)) 71]) L.length (h.clock+L.length) (by simp only [zPx,List.getElem?_cons_zero]) (by simp only [List.length_append,List.length_cons,List.length_nil];omega)
  (repeat' (first
  | (with_reducible first|refine zJz ?_|refine zGw ?_|refine zEw ?_|refine zEx ?_|refine zEv ?_|refine zJy ?_|refine zGv ?_|refine zBw ?_|refine zDx ?_|refine zBv ?_|refine zCx ?_|refine zEz ?_|refine zCw ?_|refine zCz ?_|refine zBz ?_|refine zDv ?_|refine zDy ?_|refine zAx ?_|refine zAv ?_)
  | refine zCv ?_|refine zEy rfl ?_|refine zIx ?_|refine zIv ?_
  | ((first|refine zGx rfl rfl rfl rfl rfl fun K_ hK_=>?_|refine zGy rfl rfl rfl rfl rfl fun K_ hK_=>?_);simp only [zAz,zDz,zFw,↓reduceIte,reduceCtorEq,Nat.reduceEqDiff,Bool.not_true,Bool.not_false];refine hK_ _ ?_;clear hK_ K_)
  | refine zDw (by decide) ?_
  | ((try first|refine zJx rfl rfl rfl ?_|refine zIy rfl rfl ?_|refine zJw rfl rfl rfl ?_|refine zIw rfl rfl ?_);(refine zIz fun Q_ hQ_=>?_;simp (disch:=first|omega|(simp only [List.length_cons,List.length_nil,List.length_append];omega)) only [bb,bp,zKx,↓reduceIte,reduceCtorEq,Nat.reduceEqDiff,Nat.reduceLT,Nat.reduceLeDiff,Nat.reduceAdd,Nat.reduceMul,Nat.reduceSub,Nat.reduceBEq,Int.reduceToNat,cond_true,cond_false,eq_self,beq_self_eq_true,happ,hsl,hrev,rs_81,nx_X,X_X,zQz,  zHz wf,zHx wf,zHy wf,zFy,tEvT6,zHw,zKw,zAw wf];first|(refine zCy (Q:=Q_) (fun hp_=>?_) (fun hp_=>?_) <;> first|(exfalso;omega)|(refine hQ_ _ _ ?_;clear hQ_ Q_))|(refine zBy (Q:=Q_) (fun hp_=>?_) (fun hp_=>?_) <;> first|(exfalso;omega)|(refine hQ_ _ _ ?_;clear hQ_ Q_))|(refine hQ_ _ _ ?_;clear hQ_ Q_)))
  | (refine zFv fun K_ hK_=>?_;simp (disch:=omega) only [zFx,zAz,zGz,↓reduceIte,reduceCtorEq,Nat.reduceEqDiff,Nat.reduceLT];refine hK_ _ ?_;clear hK_ K_)))
  refine zJv _ _ rfl (ret1 (by decide)) ?_
  simp only [zAz,↓reduceIte,reduceCtorEq,Nat.reduceEqDiff]
  have e : ∀ w2,X h (LS (L++[.cells (zAy (cellsL ys)) 71]) L.length ys.reverse) w2=X (X h L w) [.cells (zAy (cellsL ys.reverse)) 71] w2:=fun w2=>by
    rw [X_X];unfold LS;rw [yBz,List.set_cons_zero]
  rw [e]
  refine yCz (by
    show (_ && flat (.sl _ 0 _ none 4))=false
    exact Bool.and_false _) ⟨rfl,?_⟩
  rw [X_X,X_w,Nat.min_eq_left hw]
end Go.Proofs.YtkmdidplmfdikaaDoor
end

section
namespace Go.Proofs.YtkmdidplmfdikaaDoor
open Go.Ev
set_option maxRecDepth 100000
set_option linter.unusedSimpArgs false
set_option linter.unusedVariables false
set_option maxHeartbeats 2000000

theorem tEvT7 :type_of% (And.intro (And.intro (And.intro (And.intro (And.intro (@zSv) (@ia_2)) (And.intro (@sz_2) (And.intro (@ze_2) (@ia_3)))) (And.intro (And.intro (@sz_3) (And.intro (@zSy) (@zTx))) (And.intro (@zRx) (And.intro (@zOv) (@zVw))))) (And.intro (And.intro (And.intro (@zUv) (And.intro (@zVx) (@zZv))) (And.intro (@zZw) (And.intro (@zSx) (@zSz)))) (And.intro (And.intro (@zSw) (And.intro (@zXv) (@zUz))) (And.intro (@yOv) (And.intro (@yOw) (@yOx)))))) (And.intro (And.intro (And.intro (And.intro (@yLy) (And.intro (@yKz) (@yOz))) (And.intro (@zXy) (And.intro (@zXz) (@zOw)))) (And.intro (And.intro (@zOx) (And.intro (@zOy) (@zOz))) (And.intro (@zMy) (And.intro (@zMz) (@zRz))))) (And.intro (And.intro (And.intro (@zLw) (And.intro (@zLx) (@zOv))) (And.intro (@yBw) (And.intro (@yAv) (@yEx)))) (And.intro (And.intro (@yKw) (And.intro (@pb_40) (@yCy))) (And.intro (@xMy) (And.intro (@xLv) (@yUw))))))):=And.intro (And.intro (And.intro (And.intro (And.intro (@zSv) (@ia_2)) (And.intro (@sz_2) (And.intro (@ze_2) (@ia_3)))) (And.intro (And.intro (@sz_3) (And.intro (@zSy) (@zTx))) (And.intro (@zRx) (And.intro (@zOv) (@zVw))))) (And.intro (And.intro (And.intro (@zUv) (And.intro (@zVx) (@zZv))) (And.intro (@zZw) (And.intro (@zSx) (@zSz)))) (And.intro (And.intro (@zSw) (And.intro (@zXv) (@zUz))) (And.intro (@yOv) (And.intro (@yOw) (@yOx)))))) (And.intro (And.intro (And.intro (And.intro (@yLy) (And.intro (@yKz) (@yOz))) (And.intro (@zXy) (And.intro (@zXz) (@zOw)))) (And.intro (And.intro (@zOx) (And.intro (@zOy) (@zOz))) (And.intro (@zMy) (And.intro (@zMz) (@zRz))))) (And.intro (And.intro (And.intro (@zLw) (And.intro (@zLx) (@zOv))) (And.intro (@yBw) (And.intro (@yAv) (@yEx)))) (And.intro (And.intro (@yKw) (And.intro (@pb_40) (@yCy))) (And.intro (@xMy) (And.intro (@xLv) (@yUw))))))
def nxt (x:Stt) (c:Int):Stt:=⟨x.i+1,x.b,c,if 0<x.a - 2 * x.b+c then 1 else if x.a - 2 * x.b+c<0 then 2 else x.s⟩
theorem nxt_s (x:Stt) (c:Int):((nxt x c).s:Int)=nextSign x.s (x.a - 2 * x.b+c):=by
  unfold nxt nextSign;dsimp only;repeat' split
  all_goals rfl
theorem pay_cost (turn a b s c:Int):payI turn a b s c=max (a - 2 * b+c) (0 - (a - 2 * b+c))+turn * chg s (a - 2 * b+c):=rfl
def TabIn (h:H) (q:Pos) (Tb:List Int):Prop:=∀ l w off,off<Tb.length→load1 q off (X h l w)=some (ii (Tb.getD off 0))
theorem TabIn.of {h:H} (wf:Wf h) {L:List AO} {w k:Nat} {Tb:List Int} (hk:L[k]? = some (.cells (zAy (Tb.map ii)) 112)):TabIn (X h L w) (nx h k) Tb:=fun l w' off ho=>by
  rw [X_X,zHx wf,List.getElem?_append_left (zHv hk),hk]
  rw [zWx,List.getElem?_map]
  simp [List.getD,ho]
theorem TabIn.up {h:H} {q:Pos} {Tb:List Int} (x:TabIn h q Tb) (l:List AO) (w:Nat):TabIn (X h l w) q Tb:=fun l' w' off ho=>by rw [X_X];exact x _ _ _ ho
def prv (a:AV) (turn:Int) (q:Pos) (n:Nat):AV:=.agg [a,ii turn,.sl q 0 n (some n) 75]
theorem ix_65 {q:Pos} {n i:Nat} (hi:i<n):indexAddrE Tryd.prog 65 (.sl q 0 n (some n) 75) (.int .i64 (i:Int))=some (.ptr q (i * 75)):=by
  rw [zQv,zTy];dsimp only;rw [ik_65];dsimp only;rw [zYw hi,Nat.zero_add]
theorem ix_112 {q:Pos} {off i:Nat} (hi:i<5):indexAddrE Tryd.prog 112 (.ptr q off) (.int .i64 (i:Int))=some (.ptr q (off+i * 15)):=by
  rw [zQv,zTy];dsimp only;rw [ik_112];dsimp only;rw [yHz hi]
theorem ix_110 {q:Pos} {off i:Nat} (hi:i<5):indexAddrE Tryd.prog 110 (.ptr q off) (.int .i64 (i:Int))=some (.ptr q (off+i * 3)):=by
  rw [zQv,zTy];dsimp only;rw [ik_110];dsimp only;rw [yHz hi]
theorem ix_109 {q:Pos} {off i:Nat} (hi:i<3):indexAddrE Tryd.prog 109 (.ptr q off) (.int .i64 (i:Int))=some (.ptr q (off+i * 1)):=by
  rw [zQv,zTy];dsimp only;rw [ik_109];dsimp only;rw [yHz hi]
structure SpotsOK (sp:List (Int × Int)):Prop where
  n2:2≤sp.length
  n24:sp.length≤24
  ok : ∀ r ∈ sp,SpotOK r
theorem SpotsOK.at {sp:List (Int × Int)} (x:SpotsOK sp) {i:Nat} (hi:i<sp.length):SpotOK (spot sp i):=by rw [← zQy hi];exact x.ok _ (List.getElem_mem hi)
theorem SpotsOK.narrow {sp:List (Int × Int)} (x:SpotsOK sp):Narrow sp:=fun i hi=>by have:=x.at hi;exact ⟨this.2.2.1,this.2.2.2⟩

theorem at_ (sp:List (Int × Int)) (hsp:SpotsOK sp) (a:AV) (turn:Int) (q:Pos) (Tb:List Int) (hTl:Tb.length=(sp.length - 1) * 75) (x:Stt) (hx:x.Ok sp) (h:H) (wf:Wf h) (hs:Sl h a 2 sp.length (zLy sp)) (ht:TabIn h q Tb) :
    (om Tryd.prog KK).call (.fn 43 [prv a turn q (sp.length - 1),stv x]) h = .ok (ii (Tb.getD (x.ix sp) 0)) h:=by
  have hix:=hx.lt hsp.narrow
  obtain ⟨⟨h1,h2⟩,h3,h4,h5⟩:=hx
  have n24:=hsp.n24
  have n1:=hsp.at (i:=x.i - 1) (by omega)
  have n2:=hsp.at h2
  obtain ⟨a1,a2,a3,a4⟩:=n1
  obtain ⟨b1,b2,b3,b4⟩:=n2
  obtain ⟨id0,off0,hix0,hld0⟩:=hs.at wf (show x.i - 1<sp.length by omega) yLz
  obtain ⟨id1,off1,hix1,hld1⟩:=hs.at wf h2 yLz
  have hlo0 : ∀ l w,load1 id0 off0 (X h l w)=some (ii (spot sp (x.i - 1)).1):=fun l w=>by have:=(hld0 l w).1 0 (by decide);rw [Nat.add_zero,(zRy (by omega)).1,zQy] at this;exact this
  have hlo1 : ∀ l w,load1 id1 off1 (X h l w)=some (ii (spot sp x.i).1):=fun l w=>by have:=(hld1 l w).1 0 (by decide);rw [Nat.add_zero,(zRy h2).1,zQy] at this;exact this
  have e1:((x.i:Int) - 1)=((x.i - 1:Nat):Int):=by omega
  have e2:x.a - (spot sp (x.i - 1)).1=(((x.a - (spot sp (x.i - 1)).1).toNat:Nat):Int):=by omega
  have e3:x.b - (spot sp x.i).1=(((x.b - (spot sp x.i).1).toNat:Nat):Int):=by omega
  have ka:(x.a - (spot sp (x.i - 1)).1).toNat<5:=by omega
  have kb:(x.b - (spot sp x.i).1).toNat<5:=by omega
  have j1:=ix_65 (q:=q) (show x.i - 1<sp.length - 1 by omega)
  have j2:=ix_112 (q:=q) (off:=(x.i - 1) * 75) ka
  have j3:=ix_110 (q:=q) (off:=(x.i - 1) * 75+(x.a - (spot sp (x.i - 1)).1).toNat * 15) kb
  have j4:=ix_109 (q:=q) (off:=(x.i - 1) * 75+(x.a - (spot sp (x.i - 1)).1).toNat * 15+(x.b - (spot sp x.i).1).toNat * 3) h5
  rw [Nat.mul_one] at j4
  have hld:=fun l w=>ht l w (x.ix sp) (by rw [hTl];exact hix.1)
  unfold Stt.ix at hld ⊢
  generalize (x.a - (spot sp (x.i - 1)).1).toNat=u1 at *
  generalize (x.b - (spot sp x.i).1).toNat=u2 at *
  refine zWv (zKv (fn:=Tryd.f43) Tryd.func43 rfl rfl rfl rfl rfl ?_)
  simp only [zKx]
  unfold stv prv
  (repeat' (first
  | (with_reducible first|refine zJz ?_|refine zGw ?_|refine zEw ?_|refine zEx ?_|refine zEv ?_|refine zJy ?_|refine zGv ?_|refine zBw ?_|refine zDx ?_|refine zBv ?_|refine zCx ?_|refine zEz ?_|refine zCw ?_|refine zCz ?_|refine zBz ?_|refine zDv ?_|refine zDy ?_|refine zAx ?_|refine zAv ?_)
  | refine zCv ?_|refine zEy rfl ?_|refine zIx ?_|refine zIv ?_
  | ((first|refine zGx rfl rfl rfl rfl rfl fun K_ hK_=>?_|refine zGy rfl rfl rfl rfl rfl fun K_ hK_=>?_);simp only [zAz,zDz,zFw,↓reduceIte,reduceCtorEq,Nat.reduceEqDiff,Bool.not_true,Bool.not_false];refine hK_ _ ?_;clear hK_ K_)
  | refine zDw (by decide) ?_
  | ((try first|refine zJx rfl rfl rfl ?_|refine zIy rfl rfl ?_|refine zJw rfl rfl rfl ?_|refine zIw rfl rfl ?_);(refine zIz fun Q_ hQ_=>?_;simp (disch:=first|omega|(simp only [List.length_cons,List.length_nil,List.length_append];omega)) only [bb,bp,zKx,↓reduceIte,reduceCtorEq,Nat.reduceEqDiff,Nat.reduceLT,Nat.reduceLeDiff,Nat.reduceAdd,Nat.reduceMul,Nat.reduceSub,Nat.reduceBEq,Int.reduceToNat,cond_true,cond_false,eq_self,beq_self_eq_true,zHz wf,zHx wf,zFz wf,zHy wf,zBx wf,zFy,tEvT7,zHw,zKw,zAw wf];first|(refine zCy (Q:=Q_) (fun hp_=>?_) (fun hp_=>?_) <;> first|(exfalso;omega)|(refine hQ_ _ _ ?_;clear hQ_ Q_))|(refine zBy (Q:=Q_) (fun hp_=>?_) (fun hp_=>?_) <;> first|(exfalso;omega)|(refine hQ_ _ _ ?_;clear hQ_ Q_))|(refine hQ_ _ _ ?_;clear hQ_ Q_)))
  | (refine zFv fun K_ hK_=>?_;simp (disch:=omega) only [zFx,zAz,zGz,↓reduceIte,reduceCtorEq,Nat.reduceEqDiff,Nat.reduceLT];refine hK_ _ ?_;clear hK_ K_)))
  refine zNw [.no,.no,.no,.no,.no,.no,.no,.no,.no,.no,.no,.no,.no,.no,.no,.no,.no,.no,.no,.no,.no,.no,.no,.no,.no,.no,.no,.no,.no,.no,.no,.no,.no,.no,.no,.full,.full,.full] (by kernel_rfl) ?_
  (repeat' (first
  | (with_reducible first|refine zJz ?_|refine zGw ?_|refine zEw ?_|refine zEx ?_|refine zEv ?_|refine zJy ?_|refine zGv ?_|refine zBw ?_|refine zDx ?_|refine zBv ?_|refine zCx ?_|refine zEz ?_|refine zCw ?_|refine zCz ?_|refine zBz ?_|refine zDv ?_|refine zDy ?_|refine zAx ?_|refine zAv ?_)
  | refine zCv ?_|refine zEy rfl ?_|refine zIx ?_|refine zIv ?_
  | ((first|refine zGx rfl rfl rfl rfl rfl fun K_ hK_=>?_|refine zGy rfl rfl rfl rfl rfl fun K_ hK_=>?_);simp only [zAz,zDz,zFw,↓reduceIte,reduceCtorEq,Nat.reduceEqDiff,Bool.not_true,Bool.not_false];refine hK_ _ ?_;clear hK_ K_)
  | refine zDw (by decide) ?_
  | ((try first|refine zJx rfl rfl rfl ?_|refine zIy rfl rfl ?_|refine zJw rfl rfl rfl ?_|refine zIw rfl rfl ?_);(refine zIz fun Q_ hQ_=>?_;simp (disch:=first|omega|(simp only [List.length_cons,List.length_nil,List.length_append];omega)) only [bb,bp,zKx,↓reduceIte,reduceCtorEq,Nat.reduceEqDiff,Nat.reduceLT,Nat.reduceLeDiff,Nat.reduceAdd,Nat.reduceMul,Nat.reduceSub,Nat.reduceBEq,Int.reduceToNat,cond_true,cond_false,eq_self,beq_self_eq_true,e1,hix0,hix1,hlo0,hlo1,e2,e3,j1,j2,j3,j4,hld,zHz wf,zHx wf,zFz wf,zHy wf,zBx wf,zFy,tEvT7,zHw,zKw,zAw wf];first|(refine zCy (Q:=Q_) (fun hp_=>?_) (fun hp_=>?_) <;> first|(exfalso;omega)|(refine hQ_ _ _ ?_;clear hQ_ Q_))|(refine zBy (Q:=Q_) (fun hp_=>?_) (fun hp_=>?_) <;> first|(exfalso;omega)|(refine hQ_ _ _ ?_;clear hQ_ Q_))|(refine hQ_ _ _ ?_;clear hQ_ Q_)))
  | (refine zFv fun K_ hK_=>?_;simp (disch:=omega) only [zFx,zAz,zGz,↓reduceIte,reduceCtorEq,Nat.reduceEqDiff,Nat.reduceLT];refine hK_ _ ?_;clear hK_ K_)))
  (refine zJv _ _ rfl (ret1 (by decide)) ?_;simp only [zAz,↓reduceIte,reduceCtorEq,Nat.reduceEqDiff];refine zMw rfl (by omega) ?_)
  exact ⟨rfl,rfl⟩
end Go.Proofs.YtkmdidplmfdikaaDoor
end

section
namespace Go.Proofs.YtkmdidplmfdikaaDoor
open Go.Ev
set_option maxRecDepth 100000
set_option linter.unusedSimpArgs false
set_option linter.unusedVariables false
set_option maxHeartbeats 2000000

theorem tEvT8 :type_of% (And.intro (And.intro (And.intro (And.intro (And.intro (@zSv) (And.intro (@ia_2) (@sz_2))) (And.intro (@ze_2) (And.intro (@ia_3) (@sz_3)))) (And.intro (And.intro (@zSy) (And.intro (@zTx) (@zRx))) (And.intro (And.intro (@zOv) (@zVw)) (And.intro (@zUv) (@zVx))))) (And.intro (And.intro (And.intro (@zZv) (And.intro (@zZw) (@zSx))) (And.intro (@zSz) (And.intro (@zSw) (@zXv)))) (And.intro (And.intro (@zUz) (And.intro (@yOv) (@yOw))) (And.intro (And.intro (@yOx) (@yLy)) (And.intro (@yKz) (@yOz)))))) (And.intro (And.intro (And.intro (And.intro (@xGz) (And.intro (@ia_101) (@sz_101))) (And.intro (@ia_4) (And.intro (@sz_4) (@ze_4)))) (And.intro (And.intro (@zXy) (And.intro (@zXz) (@zOw))) (And.intro (And.intro (@zOx) (@zOy)) (And.intro (@zOz) (@zMy))))) (And.intro (And.intro (And.intro (@zMz) (And.intro (@zRz) (@zLw))) (And.intro (And.intro (@zLx) (@zOv)) (And.intro (@yBw) (@yAv)))) (And.intro (And.intro (@yEx) (And.intro (@yKw) (@pb_40))) (And.intro (And.intro (@yCy) (@xMy)) (And.intro (@xLv) (@yUw))))))):=And.intro (And.intro (And.intro (And.intro (And.intro (@zSv) (And.intro (@ia_2) (@sz_2))) (And.intro (@ze_2) (And.intro (@ia_3) (@sz_3)))) (And.intro (And.intro (@zSy) (And.intro (@zTx) (@zRx))) (And.intro (And.intro (@zOv) (@zVw)) (And.intro (@zUv) (@zVx))))) (And.intro (And.intro (And.intro (@zZv) (And.intro (@zZw) (@zSx))) (And.intro (@zSz) (And.intro (@zSw) (@zXv)))) (And.intro (And.intro (@zUz) (And.intro (@yOv) (@yOw))) (And.intro (And.intro (@yOx) (@yLy)) (And.intro (@yKz) (@yOz)))))) (And.intro (And.intro (And.intro (And.intro (@xGz) (And.intro (@ia_101) (@sz_101))) (And.intro (@ia_4) (And.intro (@sz_4) (@ze_4)))) (And.intro (And.intro (@zXy) (And.intro (@zXz) (@zOw))) (And.intro (And.intro (@zOx) (@zOy)) (And.intro (@zOz) (@zMy))))) (And.intro (And.intro (And.intro (@zMz) (And.intro (@zRz) (@zLw))) (And.intro (And.intro (@zLx) (@zOv)) (And.intro (@yBw) (@yAv)))) (And.intro (And.intro (@yEx) (And.intro (@yKw) (@pb_40))) (And.intro (And.intro (@yCy) (@xMy)) (And.intro (@xLv) (@yUw))))))
theorem put_ (sp:List (Int × Int)) (hsp:SpotsOK sp) (a:AV) (turn:Int) (Tb:List Int) (hTl:Tb.length=(sp.length - 1) * 75) (x:Stt) (hx:x.Ok sp) (v:Int) (h:H) (wf:Wf h) (hs:Sl h a 2 sp.length (zLy sp)) (L:List AO) (k w:Nat)
    (hk:L[k]? = some (.cells (zAy (Tb.map ii)) 112)) (hw:w≤h.clock+L.length) :
    ∃ b1 b2,(om Tryd.prog KK).call (.fn 66 [prv a turn (nx h k) (sp.length - 1),stv x,ii v]) (X h L w) = .ok (.tup []) (X h (L.set k (.cells (zAy ((Tb.set (x.ix sp) v).map ii)) 112)++[b1,b2]) (min w (h.clock+k))):=by
  have hix:=hx.lt hsp.narrow
  have hkl:=zHv hk
  obtain ⟨⟨h1,h2⟩,h3,h4,h5⟩:=hx
  have n24:=hsp.n24
  obtain ⟨a1,a2,a3,a4⟩:=hsp.at (i:=x.i - 1) (by omega)
  obtain ⟨b1,b2,b3,b4⟩:=hsp.at h2
  obtain ⟨id0,off0,hix0,hld0⟩:=hs.at wf (show x.i - 1<sp.length by omega) yLz
  obtain ⟨id1,off1,hix1,hld1⟩:=hs.at wf h2 yLz
  have hlo0 : ∀ l w,load1 id0 off0 (X h l w)=some (ii (spot sp (x.i - 1)).1):=fun l w=>by have:=(hld0 l w).1 0 (by decide);rw [Nat.add_zero,(zRy (by omega)).1,zQy] at this;exact this
  have hlo1 : ∀ l w,load1 id1 off1 (X h l w)=some (ii (spot sp x.i).1):=fun l w=>by have:=(hld1 l w).1 0 (by decide);rw [Nat.add_zero,(zRy h2).1,zQy] at this;exact this
  have e1:((x.i:Int) - 1)=((x.i - 1:Nat):Int):=by omega
  have e2:x.a - (spot sp (x.i - 1)).1=(((x.a - (spot sp (x.i - 1)).1).toNat:Nat):Int):=by omega
  have e3:x.b - (spot sp x.i).1=(((x.b - (spot sp x.i).1).toNat:Nat):Int):=by omega
  have ka:(x.a - (spot sp (x.i - 1)).1).toNat<5:=by omega
  have kb:(x.b - (spot sp x.i).1).toNat<5:=by omega
  have j1:=ix_65 (q:=nx h k) (show x.i - 1<sp.length - 1 by omega)
  have j2:=ix_112 (q:=nx h k) (off:=(x.i - 1) * 75) ka
  have j3:=ix_110 (q:=nx h k) (off:=(x.i - 1) * 75+(x.a - (spot sp (x.i - 1)).1).toNat * 15) kb
  have j4:=ix_109 (q:=nx h k) (off:=(x.i - 1) * 75+(x.a - (spot sp (x.i - 1)).1).toNat * 15+(x.b - (spot sp x.i).1).toNat * 3) h5
  rw [Nat.mul_one] at j4
  have hst : ∀ (G:List AO) w,store1 (nx h k) (x.ix sp) (ii v) (X h (L++G) w)=some (X h (L.set k (.cells (zAy ((Tb.set (x.ix sp) v).map ii)) 112)++G) (min (h.clock+k) w)):=fun G w=>by
    rw [zHy wf,List.getElem?_append_left hkl,hk,yEz,if_pos (by rw [List.length_map,hTl];exact hix.1),List.map_set]
    show some (X h ((L++G).set k _) _)=_
    rw [List.set_append_left _ _ hkl]
  unfold Stt.ix at hst ⊢
  generalize (x.a - (spot sp (x.i - 1)).1).toNat=u1 at *
  generalize (x.b - (spot sp x.i).1).toNat=u2 at *
  refine ⟨.cells (zAy [a,ii turn,.sl (nx h k) 0 (sp.length - 1) (some (sp.length - 1)) 75]) 67,.cells (zAy [ii (x.i:Int),ii x.a,ii x.b,ii (x.s:Int)]) 71,?_⟩
  refine zWv (zKv (fn:=Tryd.f66) Tryd.func66 rfl rfl rfl rfl rfl ?_)
  simp only [zKx]
  unfold stv prv
  (repeat' (first
  | (with_reducible first|refine zJz ?_|refine zGw ?_|refine zEw ?_|refine zEx ?_|refine zEv ?_|refine zJy ?_|refine zGv ?_|refine zBw ?_|refine zDx ?_|refine zBv ?_|refine zCx ?_|refine zEz ?_|refine zCw ?_|refine zCz ?_|refine zBz ?_|refine zDv ?_|refine zDy ?_|refine zAx ?_|refine zAv ?_)
  | refine zCv ?_|refine zEy rfl ?_|refine zIx ?_|refine zIv ?_
  | ((first|refine zGx rfl rfl rfl rfl rfl fun K_ hK_=>?_|refine zGy rfl rfl rfl rfl rfl fun K_ hK_=>?_);simp only [zAz,zDz,zFw,↓reduceIte,reduceCtorEq,Nat.reduceEqDiff,Bool.not_true,Bool.not_false];refine hK_ _ ?_;clear hK_ K_)
  | refine zDw (by decide) ?_
  | ((try first|refine zJx rfl rfl rfl ?_|refine zIy rfl rfl ?_|refine zJw rfl rfl rfl ?_|refine zIw rfl rfl ?_);(refine zIz fun Q_ hQ_=>?_;simp (disch:=first|omega|(simp only [List.length_cons,List.length_nil,List.length_append];omega)) only [bb,bp,zKx,↓reduceIte,reduceCtorEq,Nat.reduceEqDiff,Nat.reduceLT,Nat.reduceLeDiff,Nat.reduceAdd,Nat.reduceMul,Nat.reduceSub,Nat.reduceBEq,Int.reduceToNat,cond_true,cond_false,eq_self,beq_self_eq_true,X_X,zQz,zHz wf,zHx wf,zFz wf,tEvT8,zHw,zKw,zAw wf];first|(refine zCy (Q:=Q_) (fun hp_=>?_) (fun hp_=>?_) <;> first|(exfalso;omega)|(refine hQ_ _ _ ?_;clear hQ_ Q_))|(refine zBy (Q:=Q_) (fun hp_=>?_) (fun hp_=>?_) <;> first|(exfalso;omega)|(refine hQ_ _ _ ?_;clear hQ_ Q_))|(refine hQ_ _ _ ?_;clear hQ_ Q_)))
  | (refine zFv fun K_ hK_=>?_;simp (disch:=omega) only [zFx,zAz,zGz,↓reduceIte,reduceCtorEq,Nat.reduceEqDiff,Nat.reduceLT];refine hK_ _ ?_;clear hK_ K_)))
  refine zNw [.no,.no,.no,.no,.no,.no,.no,.no,.no,.no,.no,.no,.no,.no,.no,.no,.no,.no,.no,.no,.no,.no,.no,.no,.no,.no,.no,.no,.no,.no,.no,.no,.no,.no,.no,.no,.full,.full] (by kernel_rfl) ?_
  (repeat' (first
  | (with_reducible first|refine zJz ?_|refine zGw ?_|refine zEw ?_|refine zEx ?_|refine zEv ?_|refine zJy ?_|refine zGv ?_|refine zBw ?_|refine zDx ?_|refine zBv ?_|refine zCx ?_|refine zEz ?_|refine zCw ?_|refine zCz ?_|refine zBz ?_|refine zDv ?_|refine zDy ?_|refine zAx ?_|refine zAv ?_)
  | refine zCv ?_|refine zEy rfl ?_|refine zIx ?_|refine zIv ?_
  | ((first|refine zGx rfl rfl rfl rfl rfl fun K_ hK_=>?_|refine zGy rfl rfl rfl rfl rfl fun K_ hK_=>?_);simp only [zAz,zDz,zFw,↓reduceIte,reduceCtorEq,Nat.reduceEqDiff,Bool.not_true,Bool.not_false];refine hK_ _ ?_;clear hK_ K_)
  | refine zDw (by decide) ?_
  | ((try first|refine zJx rfl rfl rfl ?_|refine zIy rfl rfl ?_|refine zJw rfl rfl rfl ?_|refine zIw rfl rfl ?_);(refine zIz fun Q_ hQ_=>?_;simp (disch:=first|omega|(simp only [List.length_cons,List.length_nil,List.length_append];omega)) only [bb,bp,zKx,↓reduceIte,reduceCtorEq,Nat.reduceEqDiff,Nat.reduceLT,Nat.reduceLeDiff,Nat.reduceAdd,Nat.reduceMul,Nat.reduceSub,Nat.reduceBEq,Int.reduceToNat,cond_true,cond_false,eq_self,beq_self_eq_true,e1,hix0,hix1,hlo0,hlo1,e2,e3,j1,j2,j3,j4,hst,zHz wf,zHx wf,zFz wf,tEvT8,zHw,zKw,zAw wf];first|(refine zCy (Q:=Q_) (fun hp_=>?_) (fun hp_=>?_) <;> first|(exfalso;omega)|(refine hQ_ _ _ ?_;clear hQ_ Q_))|(refine zBy (Q:=Q_) (fun hp_=>?_) (fun hp_=>?_) <;> first|(exfalso;omega)|(refine hQ_ _ _ ?_;clear hQ_ Q_))|(refine hQ_ _ _ ?_;clear hQ_ Q_)))
  | (refine zFv fun K_ hK_=>?_;simp (disch:=omega) only [zFx,zAz,zGz,↓reduceIte,reduceCtorEq,Nat.reduceEqDiff,Nat.reduceLT];refine hK_ _ ?_;clear hK_ K_)))
  refine zJv _ (.tup []) rfl rfl (yOy (by show _<h.clock+L.length;omega) ⟨rfl,?_⟩)
  rw [X_w]
  congr 1
  omega
end Go.Proofs.YtkmdidplmfdikaaDoor
end

section
namespace Go.Proofs.YtkmdidplmfdikaaDoor
open Go.Ev
set_option maxRecDepth 100000
set_option linter.unusedSimpArgs false
set_option linter.unusedVariables false
set_option maxHeartbeats 2000000

theorem tEvT9 :type_of% (And.intro (And.intro (And.intro (And.intro (And.intro (@zSv) (And.intro (@ia_2) (@sz_2))) (And.intro (@ze_2) (And.intro (@ia_3) (@sz_3)))) (And.intro (And.intro (@zSy) (And.intro (@zTx) (@zRx))) (And.intro (And.intro (@zOv) (@zVw)) (And.intro (@zUv) (@zVx))))) (And.intro (And.intro (And.intro (@zZv) (And.intro (@zZw) (@zSx))) (And.intro (And.intro (@zSz) (@zSw)) (And.intro (@zXv) (@zUz)))) (And.intro (And.intro (@yOv) (And.intro (@yOw) (@yOx))) (And.intro (And.intro (@yLy) (@yKz)) (And.intro (@yOz) (@xGz)))))) (And.intro (And.intro (And.intro (And.intro (@ia_101) (And.intro (@sz_101) (@ia_4))) (And.intro (@sz_4) (And.intro (@ze_4) (@zXy)))) (And.intro (And.intro (@zXz) (And.intro (@zOw) (@zOx))) (And.intro (And.intro (@zOy) (@zOz)) (And.intro (@zMy) (@zMz))))) (And.intro (And.intro (And.intro (@zRz) (And.intro (@zLw) (@zLx))) (And.intro (And.intro (@zOv) (@yBw)) (And.intro (@yAv) (@yEx)))) (And.intro (And.intro (@yKw) (And.intro (@pb_40) (@yCy))) (And.intro (And.intro (@xMy) (@xLv)) (And.intro (@pb_71) (@yUw))))))):=And.intro (And.intro (And.intro (And.intro (And.intro (@zSv) (And.intro (@ia_2) (@sz_2))) (And.intro (@ze_2) (And.intro (@ia_3) (@sz_3)))) (And.intro (And.intro (@zSy) (And.intro (@zTx) (@zRx))) (And.intro (And.intro (@zOv) (@zVw)) (And.intro (@zUv) (@zVx))))) (And.intro (And.intro (And.intro (@zZv) (And.intro (@zZw) (@zSx))) (And.intro (And.intro (@zSz) (@zSw)) (And.intro (@zXv) (@zUz)))) (And.intro (And.intro (@yOv) (And.intro (@yOw) (@yOx))) (And.intro (And.intro (@yLy) (@yKz)) (And.intro (@yOz) (@xGz)))))) (And.intro (And.intro (And.intro (And.intro (@ia_101) (And.intro (@sz_101) (@ia_4))) (And.intro (@sz_4) (And.intro (@ze_4) (@zXy)))) (And.intro (And.intro (@zXz) (And.intro (@zOw) (@zOx))) (And.intro (And.intro (@zOy) (@zOz)) (And.intro (@zMy) (@zMz))))) (And.intro (And.intro (And.intro (@zRz) (And.intro (@zLw) (@zLx))) (And.intro (And.intro (@zOv) (@yBw)) (And.intro (@yAv) (@yEx)))) (And.intro (And.intro (@yKw) (And.intro (@pb_40) (@yCy))) (And.intro (And.intro (@xMy) (@xLv)) (And.intro (@pb_71) (@yUw))))))
theorem xIv {sp:List (Int × Int)} {x:Stt} {c:Int} (hx:x.Ok sp) (hi:x.i+1<sp.length) (hc:(spot sp (x.i+1)).1≤c∧c≤(spot sp (x.i+1)).2):(nxt x c).Ok sp:=by
  obtain ⟨⟨h1,h2⟩,h3,h4,h5⟩:=hx
  refine ⟨⟨by show 1≤x.i+1;omega,hi⟩,?_,hc,?_⟩
  · show (spot sp (x.i+1 - 1)).1≤x.b∧x.b≤(spot sp (x.i+1 - 1)).2
    rw [Nat.add_sub_cancel];exact h4
  · show (if 0<x.a - 2 * x.b+c then 1 else if x.a - 2 * x.b+c<0 then 2 else x.s)<3
    repeat' split
    all_goals omega

structure StepOK (byv:AV) (pf:Int→Int→Int→Int→Int):Prop where
  flat:AV.cells byv=[byv]∧oneB byv=true
  run : ∀ (x:Stt) (c:Int),x.i≤1000→Off x.a→Off x.b→Off c → ∀ h,Wf h→callV Tryd.prog (om Tryd.prog KK) byv [stv x,ii c] h = .ok (.tup [stv (nxt x c),ii (pf x.a x.b x.s c)]) h
  le : ∀ (a b s c:Int),Off a→Off b→Off c→0≤pf a b s c∧pf a b s c≤5000000

theorem onward1 {byv:AV} {pf:Int→Int→Int→Int→Int} (S:StepOK byv pf) (sp:List (Int × Int)) (hsp:SpotsOK sp) (a:AV) (turn:Int) (q:Pos) (Tb:List Int) (hTl:Tb.length=(sp.length - 1) * 75) (hTb : ∀ n,-1000000000000000≤Tb.getD n 0∧Tb.getD n 0≤1000000000000000)
    (x:Stt) (c:Int) (hx:x.Ok sp) (hi:x.i+1<sp.length) (hc:(spot sp (x.i+1)).1≤c∧c≤(spot sp (x.i+1)).2) (h:H) (wf:Wf h) (hs:Sl h a 2 sp.length (zLy sp)) (ht:TabIn h q Tb) (r1 r2 r3:Pos)
    (h1 : ∀ J w,load1 r1 0 (X h J w)=some byv) (h2 : ∀ J w,loadAgg r2 0 (some 4) (X h J w)=some (stv x)) (h3 : ∀ J w,loadAgg r3 0 (some 3) (X h J w)=some (prv a turn q (sp.length - 1))) :
    (om Tryd.prog KK).call (.fn 71 [ii c,.ptr r1 0,.ptr r2 0,.ptr r3 0]) h = .ok (ii (pf x.a x.b x.s c+Tb.getD ((nxt x c).ix sp) 0)) h:=by
  have hn:=xIv hx hi hc
  obtain ⟨⟨k1,k2⟩,k3,k4,k5⟩:=hx
  have n24:=hsp.n24
  obtain ⟨a1,a2,a3,a4⟩:=hsp.at (i:=x.i - 1) (by omega)
  obtain ⟨b1,b2,b3,b4⟩:=hsp.at k2
  obtain ⟨c1,c2,c3,c4⟩:=hsp.at hi
  have hrun : ∀ l w,w≤h.clock+l.length→callV Tryd.prog (om Tryd.prog KK) byv [stv x,ii c] (X h l w) = .ok (.tup [stv (nxt x c),ii (pf x.a x.b x.s c)]) (X h l w):=fun l w hw=>S.run x c (by omega) (by omega) (by omega) (by omega) _ (wf.X hw)
  have hat : ∀ l w,w≤h.clock+l.length→(om Tryd.prog KK).call (.fn 43 [prv a turn q (sp.length - 1),stv (nxt x c)]) (X h l w) = .ok (ii (Tb.getD ((nxt x c).ix sp) 0)) (X h l w):=fun l w hw=>at_ sp hsp a turn q Tb hTl (nxt x c) hn _ (wf.X hw) (hs.up wf _ _) (ht.up _ _)
  have hle:=S.le x.a x.b x.s c (by omega) (by omega) (by omega)
  have hTv:=hTb ((nxt x c).ix sp)
  generalize pf x.a x.b x.s c=pc at *
  generalize Tb.getD ((nxt x c).ix sp) 0=tb at *
  generalize hy:nxt x c=y at *
  have hsum : ∀ (o1:AO) (w:Nat),w≤h.clock+2→(om Tryd.prog KK).call (.fn 36 [.sl (nx h 1) 0 2 (some 2) 1]) (X h [o1,.cells (zAy [ii pc,ii tb]) 2] w) = .ok (ii (pc+tb)) (X h [o1,.cells (zAy [ii pc,ii tb]) 2] w):=
    fun o1 w hw=>sum2 wf rfl (by simp only [List.length_cons,List.length_nil];omega) (by omega) (by omega)
  unfold stv at hrun h2 hat
  unfold prv at h3 hat
  refine zWv (zKv (fn:=Tryd.f71) Tryd.func71 rfl rfl rfl rfl rfl ?_)
  simp only [zKx]
  (repeat' (first
  | (with_reducible first|refine zJz ?_|refine zGw ?_|refine zEw ?_|refine zEx ?_|refine zEv ?_|refine zJy ?_|refine zGv ?_|refine zBw ?_|refine zDx ?_|refine zBv ?_|refine zCx ?_|refine zEz ?_|refine zCw ?_|refine zCz ?_|refine zBz ?_|refine zDv ?_|refine zDy ?_|refine zAx ?_|refine zAv ?_)
  | refine zCv ?_|refine zEy rfl ?_|refine zIx ?_|refine zIv ?_
  | ((first|refine zGx rfl rfl rfl rfl rfl fun K_ hK_=>?_|refine zGy rfl rfl rfl rfl rfl fun K_ hK_=>?_);simp only [zAz,zDz,zFw,↓reduceIte,reduceCtorEq,Nat.reduceEqDiff,Bool.not_true,Bool.not_false];refine hK_ _ ?_;clear hK_ K_)
  | refine zDw (by decide) ?_
  | ((try first|refine zJx rfl rfl rfl ?_|refine zIy rfl rfl ?_|refine zJw rfl rfl rfl ?_|refine zIw rfl rfl ?_);(refine zIz fun Q_ hQ_=>?_;simp (disch:=first|omega|(simp only [List.length_cons,List.length_nil,List.length_append];omega)) only [bb,bp,zKx,↓reduceIte,reduceCtorEq,Nat.reduceEqDiff,Nat.reduceLT,Nat.reduceLeDiff,Nat.reduceAdd,Nat.reduceMul,Nat.reduceSub,Nat.reduceBEq,Int.reduceToNat,cond_true,cond_false,eq_self,beq_self_eq_true,h1,h2,h3,hrun,hat,hsum,zHz wf,zHx wf,zFz wf,zHy wf,zBx wf,zFy,tEvT9,zHw,zKw,zAw wf];first|(refine zCy (Q:=Q_) (fun hp_=>?_) (fun hp_=>?_) <;> first|(exfalso;omega)|(refine hQ_ _ _ ?_;clear hQ_ Q_))|(refine zBy (Q:=Q_) (fun hp_=>?_) (fun hp_=>?_) <;> first|(exfalso;omega)|(refine hQ_ _ _ ?_;clear hQ_ Q_))|(refine hQ_ _ _ ?_;clear hQ_ Q_)))
  | (refine zFv fun K_ hK_=>?_;simp (disch:=omega) only [zFx,zAz,zGz,↓reduceIte,reduceCtorEq,Nat.reduceEqDiff,Nat.reduceLT];refine hK_ _ ?_;clear hK_ K_)))
  (refine zJv _ _ rfl (ret1 (by decide)) ?_;simp only [zAz,↓reduceIte,reduceCtorEq,Nat.reduceEqDiff];refine zMw rfl (by omega) ?_)
  exact ⟨rfl,rfl⟩

structure LeastSt where
  best:Int
  low:Int
  found:Bool
def lst (o:Option (Int × Int)):LeastSt:=match o with|none=>⟨0,0,false⟩|some p=>⟨p.1,p.2,true⟩
theorem leastInt {B:H→Prop} {fv cv:AV} {ys:List Int} {f:Int→Int} (hd:HandsC Tryd.prog KK B fv (ys.map fun y=>[ii y])) (hcv:AV.cells cv=[cv]∧oneB cv=true) (hN0:0<ys.length) (h:H) (wf:Wf h) (hB : ∀ L w,w≤h.clock+L.length→B (X h L w))
    (hcost : ∀ y ∈ ys,∀ L w,w≤h.clock+L.length→callV Tryd.prog (om Tryd.prog KK) cv [ii y] (X h L w) = .ok (ii (f y)) (X h L w)) (p:Int × Int) (hp:bst f ys=some p) :
    (om Tryd.prog KK).call (.fn 69 [fv,cv]) h = .ok (.tup [ii p.1,ii p.2]) h:=by
  refine zWv (zKv (fn:=Tryd.f69) Tryd.func69 rfl rfl rfl rfl rfl ?_)
  simp only [zKx]
  (repeat' (first
  | (with_reducible first|refine zJz ?_|refine zGw ?_|refine zEw ?_|refine zEx ?_|refine zEv ?_|refine zJy ?_|refine zGv ?_|refine zBw ?_|refine zDx ?_|refine zBv ?_|refine zCx ?_|refine zEz ?_|refine zCw ?_|refine zCz ?_|refine zBz ?_|refine zDv ?_|refine zDy ?_|refine zAx ?_|refine zAv ?_)
  | refine zCv ?_|refine zEy rfl ?_|refine zIx ?_|refine zIv ?_
  | ((first|refine zGx rfl rfl rfl rfl rfl fun K_ hK_=>?_|refine zGy rfl rfl rfl rfl rfl fun K_ hK_=>?_);simp only [zAz,zDz,zFw,↓reduceIte,reduceCtorEq,Nat.reduceEqDiff,Bool.not_true,Bool.not_false];refine hK_ _ ?_;clear hK_ K_)
  | refine zDw (by decide) ?_
  | ((try first|refine zJx rfl rfl rfl ?_|refine zIy rfl rfl ?_|refine zJw rfl rfl rfl ?_|refine zIw rfl rfl ?_);(refine zIz fun Q_ hQ_=>?_;simp (disch:=first|omega|(simp only [List.length_cons,List.length_nil,List.length_append];omega)) only [bb,bp,zKx,↓reduceIte,reduceCtorEq,Nat.reduceEqDiff,Nat.reduceLT,Nat.reduceLeDiff,Nat.reduceAdd,Nat.reduceMul,Nat.reduceSub,Nat.reduceBEq,Int.reduceToNat,cond_true,cond_false,eq_self,beq_self_eq_true,hcv.1,hcv.2,zHz wf,zHx wf,zFz wf,zHy wf,zBx wf,zFy,tEvT9,zHw,zKw,zAw wf];first|(refine zCy (Q:=Q_) (fun hp_=>?_) (fun hp_=>?_) <;> first|(exfalso;omega)|(refine hQ_ _ _ ?_;clear hQ_ Q_))|(refine zBy (Q:=Q_) (fun hp_=>?_) (fun hp_=>?_) <;> first|(exfalso;omega)|(refine hQ_ _ _ ?_;clear hQ_ Q_))|(refine hQ_ _ _ ?_;clear hQ_ Q_)))
  | (refine zFv fun K_ hK_=>?_;simp (disch:=omega) only [zFx,zAz,zGz,↓reduceIte,reduceCtorEq,Nat.reduceEqDiff,Nat.reduceLT];refine hK_ _ ?_;clear hK_ K_)))
  refine yDx wf rfl (zFx (by decide)) fun o ho=>?_
  simp only [zAz,↓reduceIte,reduceCtorEq,Nat.reduceEqDiff,List.length_cons,List.length_nil,List.append_assoc,List.cons_append,List.nil_append,Nat.reduceAdd,List.length_append] at ho ⊢
  refine WV.mono (hd (nx h 5) _ (fun k hx=>∃ w0 st,bst f (ys.take k)=st∧hx=X h [.cells (zAy [cv]) 101,.cells (zAy [ii (lst st).best]) 2,.cells (zAy [ii (lst st).low]) 2,.cells (zAy [.bool (lst st).found]) 4,.dfr,o] w0∧w0≤h.clock+6) (fun _=>False) h.clock (fun _=>h.clock+6) (h.clock+6) (Nat.le_refl _) (Nat.le_add_right _ _) (fun _=>Nat.le_refl _) (Nat.le_refl _) ?_ (fun _ h=>h.elim) ?_ ⟨h.clock,none,rfl,rfl,by omega⟩) ?_
  · rintro k hx ⟨w0,st,hst,rfl,hw0⟩
    exact ⟨hB _ _ hw0,Same.X rfl⟩
  · rintro k x hx hbx J w ⟨w0,st,hst,rfl,hw0⟩ hlo hw
    rw [List.getElem?_map] at hx
    obtain ⟨y,hy1,rfl⟩:=Option.map_eq_some_iff.1 hx
    have hk:=zHv hy1
    have hyk:ys[k]=y:=by rw [List.getElem?_eq_getElem hk] at hy1;exact Option.some.inj hy1
    have hc:=hcost y (by rw [← hyk];exact List.getElem_mem hk)
    have hnew:=bst_take f ys k hk
    rw [hst,hyk] at hnew
    have hw':w≤h.clock+6+J.length:=hw
    rw [X_X]
    simp only [List.cons_append,List.nil_append]
    refine yJx wf (k:=5) rfl ho (setParams1 rfl) ?_
    (repeat' (first
  | (with_reducible first|refine zJz ?_|refine zGw ?_|refine zEw ?_|refine zEx ?_|refine zEv ?_|refine zJy ?_|refine zGv ?_|refine zBw ?_|refine zDx ?_|refine zBv ?_|refine zCx ?_|refine zEz ?_|refine zCw ?_|refine zCz ?_|refine zBz ?_|refine zDv ?_|refine zDy ?_|refine zAx ?_|refine zAv ?_)
  | refine zCv ?_|refine zEy rfl ?_|refine zIx ?_|refine zIv ?_
  | ((first|refine zGx rfl rfl rfl rfl rfl fun K_ hK_=>?_|refine zGy rfl rfl rfl rfl rfl fun K_ hK_=>?_);simp only [zAz,zDz,zFw,↓reduceIte,reduceCtorEq,Nat.reduceEqDiff,Bool.not_true,Bool.not_false];refine hK_ _ ?_;clear hK_ K_)
  | refine zDw (by decide) ?_
  | ((try first|refine zJx rfl rfl rfl ?_|refine zIy rfl rfl ?_|refine zJw rfl rfl rfl ?_|refine zIw rfl rfl ?_);(refine zIz fun Q_ hQ_=>?_;simp (disch:=first|omega|(simp only [List.length_cons,List.length_nil,List.length_append];omega)) only [bb,bp,zKx,↓reduceIte,reduceCtorEq,Nat.reduceEqDiff,Nat.reduceLT,Nat.reduceLeDiff,Nat.reduceAdd,Nat.reduceMul,Nat.reduceSub,Nat.reduceBEq,Int.reduceToNat,cond_true,cond_false,eq_self,beq_self_eq_true,zHz wf,zHx wf,zFz wf,zHy wf,zBx wf,zFy,tEvT9,zHw,zKw,zAw wf];first|(refine zCy (Q:=Q_) (fun hp_=>?_) (fun hp_=>?_) <;> first|(exfalso;omega)|(refine hQ_ _ _ ?_;clear hQ_ Q_))|(refine zBy (Q:=Q_) (fun hp_=>?_) (fun hp_=>?_) <;> first|(exfalso;omega)|(refine hQ_ _ _ ?_;clear hQ_ Q_))|(refine hQ_ _ _ ?_;clear hQ_ Q_)))
  | (refine zFv fun K_ hK_=>?_;simp (disch:=omega) only [zFx,zAz,zGz,↓reduceIte,reduceCtorEq,Nat.reduceEqDiff,Nat.reduceLT];refine hK_ _ ?_;clear hK_ K_)))
    refine yVz wf (k:=5) rfl ho fun o' ho'=>?_
    simp only [List.set_cons_succ,List.set_cons_zero]
    match st,hst,hnew with
    | none,hst,hnew=>
      have hnew:bst f (ys.take (k+1))=some (y,f y):=hnew
      unfold lst
      (repeat' (first
  | (with_reducible first|refine zJz ?_|refine zGw ?_|refine zEw ?_|refine zEx ?_|refine zEv ?_|refine zJy ?_|refine zGv ?_|refine zBw ?_|refine zDx ?_|refine zBv ?_|refine zCx ?_|refine zEz ?_|refine zCw ?_|refine zCz ?_|refine zBz ?_|refine zDv ?_|refine zDy ?_|refine zAx ?_|refine zAv ?_)
  | refine zCv ?_|refine zEy rfl ?_|refine zIx ?_|refine zIv ?_
  | ((first|refine zGx rfl rfl rfl rfl rfl fun K_ hK_=>?_|refine zGy rfl rfl rfl rfl rfl fun K_ hK_=>?_);simp only [zAz,zDz,zFw,↓reduceIte,reduceCtorEq,Nat.reduceEqDiff,Bool.not_true,Bool.not_false];refine hK_ _ ?_;clear hK_ K_)
  | refine zDw (by decide) ?_
  | ((try first|refine zJx rfl rfl rfl ?_|refine zIy rfl rfl ?_|refine zJw rfl rfl rfl ?_|refine zIw rfl rfl ?_);(refine zIz fun Q_ hQ_=>?_;simp (disch:=first|omega|(simp only [List.length_cons,List.length_nil,List.length_append];omega)) only [bb,bp,zKx,↓reduceIte,reduceCtorEq,Nat.reduceEqDiff,Nat.reduceLT,Nat.reduceLeDiff,Nat.reduceAdd,Nat.reduceMul,Nat.reduceSub,Nat.reduceBEq,Int.reduceToNat,cond_true,cond_false,eq_self,beq_self_eq_true,hc,zHz wf,zHx wf,zFz wf,zHy wf,zBx wf,zFy,tEvT9,zHw,zKw,zAw wf];first|(refine zCy (Q:=Q_) (fun hp_=>?_) (fun hp_=>?_) <;> first|(exfalso;omega)|(refine hQ_ _ _ ?_;clear hQ_ Q_))|(refine zBy (Q:=Q_) (fun hp_=>?_) (fun hp_=>?_) <;> first|(exfalso;omega)|(refine hQ_ _ _ ?_;clear hQ_ Q_))|(refine hQ_ _ _ ?_;clear hQ_ Q_)))
  | (refine zFv fun K_ hK_=>?_;simp (disch:=omega) only [zFx,zAz,zGz,↓reduceIte,reduceCtorEq,Nat.reduceEqDiff,Nat.reduceLT];refine hK_ _ ?_;clear hK_ K_)))
      refine yHv wf (k:=5) rfl ho' ?_
      simp only [List.set_cons_succ,List.set_cons_zero]
      rw [← ho]
      exact ⟨X h [.cells (zAy [cv]) 101,.cells (zAy [ii (lst (some (y,f y))).best]) 2,.cells (zAy [ii (lst (some (y,f y))).low]) 2,.cells (zAy [.bool (lst (some (y,f y))).found]) 4,.dfr,o] h.clock,[],_,by rw [X_X,List.append_nil];rfl,Same.X rfl,by omega,by omega,.inl ⟨rfl,by omega,h.clock,(some (y,f y)),hnew,rfl,by omega⟩⟩
    | some (b,m),hst,hnew=>
      have hnew:bst f (ys.take (k+1))=(if f y<m then some (y,f y) else some (b,m)):=hnew
      unfold lst
      (repeat' (first
  | (with_reducible first|refine zJz ?_|refine zGw ?_|refine zEw ?_|refine zEx ?_|refine zEv ?_|refine zJy ?_|refine zGv ?_|refine zBw ?_|refine zDx ?_|refine zBv ?_|refine zCx ?_|refine zEz ?_|refine zCw ?_|refine zCz ?_|refine zBz ?_|refine zDv ?_|refine zDy ?_|refine zAx ?_|refine zAv ?_)
  | refine zCv ?_|refine zEy rfl ?_|refine zIx ?_|refine zIv ?_
  | ((first|refine zGx rfl rfl rfl rfl rfl fun K_ hK_=>?_|refine zGy rfl rfl rfl rfl rfl fun K_ hK_=>?_);simp only [zAz,zDz,zFw,↓reduceIte,reduceCtorEq,Nat.reduceEqDiff,Bool.not_true,Bool.not_false];refine hK_ _ ?_;clear hK_ K_)
  | refine zDw (by decide) ?_
  | ((try first|refine zJx rfl rfl rfl ?_|refine zIy rfl rfl ?_|refine zJw rfl rfl rfl ?_|refine zIw rfl rfl ?_);(refine zIz fun Q_ hQ_=>?_;simp (disch:=first|omega|(simp only [List.length_cons,List.length_nil,List.length_append];omega)) only [bb,bp,zKx,↓reduceIte,reduceCtorEq,Nat.reduceEqDiff,Nat.reduceLT,Nat.reduceLeDiff,Nat.reduceAdd,Nat.reduceMul,Nat.reduceSub,Nat.reduceBEq,Int.reduceToNat,cond_true,cond_false,eq_self,beq_self_eq_true,hc,zHz wf,zHx wf,zFz wf,zHy wf,zBx wf,zFy,tEvT9,zHw,zKw,zAw wf];first|(refine zCy (Q:=Q_) (fun hp_=>?_) (fun hp_=>?_) <;> first|(exfalso;omega)|(refine hQ_ _ _ ?_;clear hQ_ Q_))|(refine zBy (Q:=Q_) (fun hp_=>?_) (fun hp_=>?_) <;> first|(exfalso;omega)|(refine hQ_ _ _ ?_;clear hQ_ Q_))|(refine hQ_ _ _ ?_;clear hQ_ Q_)))
  | (refine zFv fun K_ hK_=>?_;simp (disch:=omega) only [zFx,zAz,zGz,↓reduceIte,reduceCtorEq,Nat.reduceEqDiff,Nat.reduceLT];refine hK_ _ ?_;clear hK_ K_)))
      · have hlt:f y<m:=by omega
        rw [if_pos hlt] at hnew
        refine yHv wf (k:=5) rfl ho' ?_
        simp only [List.set_cons_succ,List.set_cons_zero]
        rw [← ho]
        exact ⟨X h [.cells (zAy [cv]) 101,.cells (zAy [ii (lst (some (y,f y))).best]) 2,.cells (zAy [ii (lst (some (y,f y))).low]) 2,.cells (zAy [.bool (lst (some (y,f y))).found]) 4,.dfr,o] h.clock,[],_,by rw [X_X,List.append_nil];rfl,Same.X rfl,by omega,by omega,.inl ⟨rfl,by omega,h.clock,(some (y,f y)),hnew,rfl,by omega⟩⟩
      · have hlt : ¬ f y<m:=by omega
        rw [if_neg hlt] at hnew
        refine yHv wf (k:=5) rfl ho' ?_
        simp only [List.set_cons_succ,List.set_cons_zero]
        rw [← ho]
        exact ⟨X h [.cells (zAy [cv]) 101,.cells (zAy [ii (lst (some (b,m))).best]) 2,.cells (zAy [ii (lst (some (b,m))).low]) 2,.cells (zAy [.bool (lst (some (b,m))).found]) 4,.dfr,o] h.clock,[],_,by rw [X_X,List.append_nil];rfl,Same.X rfl,by omega,by omega,.inl ⟨rfl,by omega,h.clock,(some (b,m)),hnew,rfl,by omega⟩⟩
  · rintro v h' ⟨hz,J3,w3,rfl,hsz,hlo3,hw3,⟨⟨w2,st,hst,rfl,hw2⟩,hc3⟩|⟨hF,_⟩⟩
    · rw [List.length_map,List.take_length,hp] at hst
      subst hst
      have hw3':w3≤h.clock+6:=by simp only [X_w] at hw3;omega
      rw [X_X]
      simp only [List.cons_append,List.nil_append]
      refine zYv wf (k:=5) rfl ho (by decide) fun o6 ho6=>?_
      simp only [List.set_cons_succ,List.set_cons_zero]
      unfold lst
      (repeat' (first
  | (with_reducible first|refine zJz ?_|refine zGw ?_|refine zEw ?_|refine zEx ?_|refine zEv ?_|refine zJy ?_|refine zGv ?_|refine zBw ?_|refine zDx ?_|refine zBv ?_|refine zCx ?_|refine zEz ?_|refine zCw ?_|refine zCz ?_|refine zBz ?_|refine zDv ?_|refine zDy ?_|refine zAx ?_|refine zAv ?_)
  | refine zCv ?_|refine zEy rfl ?_|refine zIx ?_|refine zIv ?_
  | ((first|refine zGx rfl rfl rfl rfl rfl fun K_ hK_=>?_|refine zGy rfl rfl rfl rfl rfl fun K_ hK_=>?_);simp only [zAz,zDz,zFw,↓reduceIte,reduceCtorEq,Nat.reduceEqDiff,Bool.not_true,Bool.not_false];refine hK_ _ ?_;clear hK_ K_)
  | refine zDw (by decide) ?_
  | ((try first|refine zJx rfl rfl rfl ?_|refine zIy rfl rfl ?_|refine zJw rfl rfl rfl ?_|refine zIw rfl rfl ?_);(refine zIz fun Q_ hQ_=>?_;simp (disch:=first|omega|(simp only [List.length_cons,List.length_nil,List.length_append];omega)) only [bb,bp,zKx,↓reduceIte,reduceCtorEq,Nat.reduceEqDiff,Nat.reduceLT,Nat.reduceLeDiff,Nat.reduceAdd,Nat.reduceMul,Nat.reduceSub,Nat.reduceBEq,Int.reduceToNat,cond_true,cond_false,eq_self,beq_self_eq_true,zHz wf,zHx wf,zFz wf,zHy wf,zBx wf,zFy,tEvT9,zHw,zKw,zAw wf];first|(refine zCy (Q:=Q_) (fun hp_=>?_) (fun hp_=>?_) <;> first|(exfalso;omega)|(refine hQ_ _ _ ?_;clear hQ_ Q_))|(refine zBy (Q:=Q_) (fun hp_=>?_) (fun hp_=>?_) <;> first|(exfalso;omega)|(refine hQ_ _ _ ?_;clear hQ_ Q_))|(refine hQ_ _ _ ?_;clear hQ_ Q_)))
  | (refine zFv fun K_ hK_=>?_;simp (disch:=omega) only [zFx,zAz,zGz,↓reduceIte,reduceCtorEq,Nat.reduceEqDiff,Nat.reduceLT];refine hK_ _ ?_;clear hK_ K_)))
      refine zNw [.no,.no,.no,.full] (by kernel_rfl) ?_
      (repeat' (first
  | (with_reducible first|refine zJz ?_|refine zGw ?_|refine zEw ?_|refine zEx ?_|refine zEv ?_|refine zJy ?_|refine zGv ?_|refine zBw ?_|refine zDx ?_|refine zBv ?_|refine zCx ?_|refine zEz ?_|refine zCw ?_|refine zCz ?_|refine zBz ?_|refine zDv ?_|refine zDy ?_|refine zAx ?_|refine zAv ?_)
  | refine zCv ?_|refine zEy rfl ?_|refine zIx ?_|refine zIv ?_
  | ((first|refine zGx rfl rfl rfl rfl rfl fun K_ hK_=>?_|refine zGy rfl rfl rfl rfl rfl fun K_ hK_=>?_);simp only [zAz,zDz,zFw,↓reduceIte,reduceCtorEq,Nat.reduceEqDiff,Bool.not_true,Bool.not_false];refine hK_ _ ?_;clear hK_ K_)
  | refine zDw (by decide) ?_
  | ((try first|refine zJx rfl rfl rfl ?_|refine zIy rfl rfl ?_|refine zJw rfl rfl rfl ?_|refine zIw rfl rfl ?_);(refine zIz fun Q_ hQ_=>?_;simp (disch:=first|omega|(simp only [List.length_cons,List.length_nil,List.length_append];omega)) only [bb,bp,zKx,↓reduceIte,reduceCtorEq,Nat.reduceEqDiff,Nat.reduceLT,Nat.reduceLeDiff,Nat.reduceAdd,Nat.reduceMul,Nat.reduceSub,Nat.reduceBEq,Int.reduceToNat,cond_true,cond_false,eq_self,beq_self_eq_true,zHz wf,zHx wf,zFz wf,zHy wf,zBx wf,zFy,tEvT9,zHw,zKw,zAw wf];first|(refine zCy (Q:=Q_) (fun hp_=>?_) (fun hp_=>?_) <;> first|(exfalso;omega)|(refine hQ_ _ _ ?_;clear hQ_ Q_))|(refine zBy (Q:=Q_) (fun hp_=>?_) (fun hp_=>?_) <;> first|(exfalso;omega)|(refine hQ_ _ _ ?_;clear hQ_ Q_))|(refine hQ_ _ _ ?_;clear hQ_ Q_)))
  | (refine zFv fun K_ hK_=>?_;simp (disch:=omega) only [zFx,zAz,zGz,↓reduceIte,reduceCtorEq,Nat.reduceEqDiff,Nat.reduceLT];refine hK_ _ ?_;clear hK_ K_)))
      refine zJv _ _ (yJv wf (k:=4) rfl) (ret2 (by decide) (by decide)) ?_
      simp only [zAz,↓reduceIte,reduceCtorEq,Nat.reduceEqDiff]
      refine zMw rfl (by omega) ?_
      exact ⟨rfl,rfl⟩
    · exact hF.elim
end Go.Proofs.YtkmdidplmfdikaaDoor
end

section
namespace Go.Proofs.YtkmdidplmfdikaaDoor
open Go.Ev
set_option maxRecDepth 100000
set_option linter.unusedSimpArgs false
set_option linter.unusedVariables false
set_option maxHeartbeats 2000000

theorem tEvT10 :type_of% (And.intro (And.intro (And.intro (And.intro (And.intro (@zSv) (And.intro (@ia_2) (@sz_2))) (And.intro (And.intro (@ze_2) (@ia_3)) (And.intro (@sz_3) (@zSy)))) (And.intro (And.intro (@zTx) (And.intro (@zRx) (@zOv))) (And.intro (And.intro (@zVw) (@zUv)) (And.intro (@zVx) (@zZv))))) (And.intro (And.intro (And.intro (@zZw) (And.intro (@zSx) (@zSz))) (And.intro (And.intro (@zSw) (@zXv)) (And.intro (@zUz) (@yOv)))) (And.intro (And.intro (@yOw) (And.intro (@yOx) (@yLy))) (And.intro (And.intro (@yKz) (@yOz)) (And.intro (@xGz) (@ia_101)))))) (And.intro (And.intro (And.intro (And.intro (@sz_101) (And.intro (@ia_4) (@sz_4))) (And.intro (And.intro (@ze_4) (@zXy)) (And.intro (@zXz) (@zOw)))) (And.intro (And.intro (@zOx) (And.intro (@zOy) (@zOz))) (And.intro (And.intro (@zMy) (@zMz)) (And.intro (@zRz) (@zLw))))) (And.intro (And.intro (And.intro (@zLx) (And.intro (@zOv) (@yBw))) (And.intro (And.intro (@yAv) (@yEx)) (And.intro (@yKw) (@pb_40)))) (And.intro (And.intro (And.intro (@yCy) (@xMy)) (And.intro (@xLv) (@pb_71))) (And.intro (And.intro (@xMz) (@pb_69)) (And.intro (@xLw) (@yUw))))))):=And.intro (And.intro (And.intro (And.intro (And.intro (@zSv) (And.intro (@ia_2) (@sz_2))) (And.intro (And.intro (@ze_2) (@ia_3)) (And.intro (@sz_3) (@zSy)))) (And.intro (And.intro (@zTx) (And.intro (@zRx) (@zOv))) (And.intro (And.intro (@zVw) (@zUv)) (And.intro (@zVx) (@zZv))))) (And.intro (And.intro (And.intro (@zZw) (And.intro (@zSx) (@zSz))) (And.intro (And.intro (@zSw) (@zXv)) (And.intro (@zUz) (@yOv)))) (And.intro (And.intro (@yOw) (And.intro (@yOx) (@yLy))) (And.intro (And.intro (@yKz) (@yOz)) (And.intro (@xGz) (@ia_101)))))) (And.intro (And.intro (And.intro (And.intro (@sz_101) (And.intro (@ia_4) (@sz_4))) (And.intro (And.intro (@ze_4) (@zXy)) (And.intro (@zXz) (@zOw)))) (And.intro (And.intro (@zOx) (And.intro (@zOy) (@zOz))) (And.intro (And.intro (@zMy) (@zMz)) (And.intro (@zRz) (@zLw))))) (And.intro (And.intro (And.intro (@zLx) (And.intro (@zOv) (@yBw))) (And.intro (And.intro (@yAv) (@yEx)) (And.intro (@yKw) (@pb_40)))) (And.intro (And.intro (And.intro (@yCy) (@xMy)) (And.intro (@xLv) (@pb_71))) (And.intro (And.intro (@xMz) (@pb_69)) (And.intro (@xLw) (@yUw))))))
def onwS (pf:Int→Int→Int→Int→Int) (sp:List (Int × Int)) (x:Stt):Int × Int:=onw pf (sp.drop (x.i+1)) x.a x.b x.s
def dueS (pf:Int→Int→Int→Int→Int) (sp:List (Int × Int)) (x:Stt):Int:=(onwS pf sp x).2
theorem drop_spot {sp:List (Int × Int)} {i:Nat} (hi:i<sp.length):sp.drop i=spot sp i :: sp.drop (i+1):=by rw [List.drop_eq_getElem_cons hi,zQy hi]
theorem onwS_step {pf:Int→Int→Int→Int→Int} {sp:List (Int × Int)} {x:Stt} (hi:x.i+1<sp.length) (hr:(spot sp (x.i+1)).1≤(spot sp (x.i+1)).2):bst (fun c=>pf x.a x.b x.s c+dueS pf sp (nxt x c)) (offs (spot sp (x.i+1)))=some (onwS pf sp x):=by
  obtain ⟨b,e,_⟩:=bst_spec (fun c=>pf x.a x.b x.s c+dueS pf sp (nxt x c)) (offs (spot sp (x.i+1))) (offs_ne hr)
  have e2:onwS pf sp x=(bst (fun c=>pf x.a x.b x.s c+dueS pf sp (nxt x c)) (offs (spot sp (x.i+1)))).getD (0,0):=by
    show onw pf (sp.drop (x.i+1)) x.a x.b x.s=_
    rw [drop_spot hi]
    show (bst (fun c=>pf x.a x.b x.s c+(onw pf (sp.drop (x.i+1+1)) x.b c (nsg x.s (x.a - 2 * x.b+c))).2) (offs (spot sp (x.i+1)))).getD (0,0)=_
    congr 1
    refine bst_congr fun c _=>?_
    show _=pf x.a x.b x.s c+(onw pf (sp.drop (x.i+1+1)) x.b c ((nxt x c).s:Int)).2
    rw [nxt_s];rfl
  rw [e2,e];rfl
theorem onwS_last {pf:Int→Int→Int→Int→Int} {sp:List (Int × Int)} {x:Stt} (hi:x.i+1=sp.length):onwS pf sp x=(0,0):=by
  show onw pf (sp.drop (x.i+1)) x.a x.b x.s=_
  rw [hi,List.drop_length];rfl

theorem onward {byv:AV} {pf:Int→Int→Int→Int→Int} (S:StepOK byv pf) (sp:List (Int × Int)) (hsp:SpotsOK sp) (a:AV) (turn:Int) (q:Pos) (Tb:List Int) (hTl:Tb.length=(sp.length - 1) * 75) (hTb : ∀ n,-1000000000000000≤Tb.getD n 0∧Tb.getD n 0≤1000000000000000)
    (x:Stt) (hx:x.Ok sp) (hgood : ∀ c,x.i+1<sp.length→(spot sp (x.i+1)).1≤c→c≤(spot sp (x.i+1)).2→Tb.getD ((nxt x c).ix sp) 0=dueS pf sp (nxt x c)) (h:H) (wf:Wf h) (hs:Sl h a 2 sp.length (zLy sp)) (ht:TabIn h q Tb) :
    (om Tryd.prog KK).call (.fn 45 [prv a turn q (sp.length - 1),stv x,byv]) h = .ok (.tup [ii (onwS pf sp x).1,ii (onwS pf sp x).2]) h:=by
  have hx':=hx
  obtain ⟨⟨k1,k2⟩,k3,k4,k5⟩:=hx'
  have n24:=hsp.n24
  have hla : ∀ l w,w≤h.clock+l.length→(om Tryd.prog KK).call (.fn 44 [.agg [a,ii turn]]) (X h l w) = .ok (ii ((sp.length - 1:Nat):Int)) (X h l w):=fun l w hw=>last a turn sp (by omega) _ (wf.X hw) (hs.up wf _ _)
  have hby:=S.flat
  by_cases hl:x.i+1=sp.length
  · rw [onwS_last hl]
    refine zWv (zKv (fn:=Tryd.f45) Tryd.func45 rfl rfl rfl rfl rfl ?_)
    simp only [zKx]
    unfold stv prv
    (repeat' (first
  | (with_reducible first|refine zJz ?_|refine zGw ?_|refine zEw ?_|refine zEx ?_|refine zEv ?_|refine zJy ?_|refine zGv ?_|refine zBw ?_|refine zDx ?_|refine zBv ?_|refine zCx ?_|refine zEz ?_|refine zCw ?_|refine zCz ?_|refine zBz ?_|refine zDv ?_|refine zDy ?_|refine zAx ?_|refine zAv ?_)
  | refine zCv ?_|refine zEy rfl ?_|refine zIx ?_|refine zIv ?_
  | ((first|refine zGx rfl rfl rfl rfl rfl fun K_ hK_=>?_|refine zGy rfl rfl rfl rfl rfl fun K_ hK_=>?_);simp only [zAz,zDz,zFw,↓reduceIte,reduceCtorEq,Nat.reduceEqDiff,Bool.not_true,Bool.not_false];refine hK_ _ ?_;clear hK_ K_)
  | refine zDw (by decide) ?_
  | ((try first|refine zJx rfl rfl rfl ?_|refine zIy rfl rfl ?_|refine zJw rfl rfl rfl ?_|refine zIw rfl rfl ?_);(refine zIz fun Q_ hQ_=>?_;simp (disch:=first|omega|(simp only [List.length_cons,List.length_nil,List.length_append];omega)) only [bb,bp,zKx,↓reduceIte,reduceCtorEq,Nat.reduceEqDiff,Nat.reduceLT,Nat.reduceLeDiff,Nat.reduceAdd,Nat.reduceMul,Nat.reduceSub,Nat.reduceBEq,Int.reduceToNat,cond_true,cond_false,eq_self,beq_self_eq_true,hby.1,hby.2,zHz wf,zHx wf,zFz wf,zHy wf,zBx wf,zFy,tEvT10,zHw,zKw,zAw wf];first|(refine zCy (Q:=Q_) (fun hp_=>?_) (fun hp_=>?_) <;> first|(exfalso;omega)|(refine hQ_ _ _ ?_;clear hQ_ Q_))|(refine zBy (Q:=Q_) (fun hp_=>?_) (fun hp_=>?_) <;> first|(exfalso;omega)|(refine hQ_ _ _ ?_;clear hQ_ Q_))|(refine hQ_ _ _ ?_;clear hQ_ Q_)))
  | (refine zFv fun K_ hK_=>?_;simp (disch:=omega) only [zFx,zAz,zGz,↓reduceIte,reduceCtorEq,Nat.reduceEqDiff,Nat.reduceLT];refine hK_ _ ?_;clear hK_ K_)))
    refine zNw [.no,.no,.no,.no,.no,.full] (by kernel_rfl) ?_
    (repeat' (first
  | (with_reducible first|refine zJz ?_|refine zGw ?_|refine zEw ?_|refine zEx ?_|refine zEv ?_|refine zJy ?_|refine zGv ?_|refine zBw ?_|refine zDx ?_|refine zBv ?_|refine zCx ?_|refine zEz ?_|refine zCw ?_|refine zCz ?_|refine zBz ?_|refine zDv ?_|refine zDy ?_|refine zAx ?_|refine zAv ?_)
  | refine zCv ?_|refine zEy rfl ?_|refine zIx ?_|refine zIv ?_
  | ((first|refine zGx rfl rfl rfl rfl rfl fun K_ hK_=>?_|refine zGy rfl rfl rfl rfl rfl fun K_ hK_=>?_);simp only [zAz,zDz,zFw,↓reduceIte,reduceCtorEq,Nat.reduceEqDiff,Bool.not_true,Bool.not_false];refine hK_ _ ?_;clear hK_ K_)
  | refine zDw (by decide) ?_
  | ((try first|refine zJx rfl rfl rfl ?_|refine zIy rfl rfl ?_|refine zJw rfl rfl rfl ?_|refine zIw rfl rfl ?_);(refine zIz fun Q_ hQ_=>?_;simp (disch:=first|omega|(simp only [List.length_cons,List.length_nil,List.length_append];omega)) only [bb,bp,zKx,↓reduceIte,reduceCtorEq,Nat.reduceEqDiff,Nat.reduceLT,Nat.reduceLeDiff,Nat.reduceAdd,Nat.reduceMul,Nat.reduceSub,Nat.reduceBEq,Int.reduceToNat,cond_true,cond_false,eq_self,beq_self_eq_true,hla,zHz wf,zHx wf,zFz wf,zHy wf,zBx wf,zFy,tEvT10,zHw,zKw,zAw wf];first|(refine zCy (Q:=Q_) (fun hp_=>?_) (fun hp_=>?_) <;> first|(exfalso;omega)|(refine hQ_ _ _ ?_;clear hQ_ Q_))|(refine zBy (Q:=Q_) (fun hp_=>?_) (fun hp_=>?_) <;> first|(exfalso;omega)|(refine hQ_ _ _ ?_;clear hQ_ Q_))|(refine hQ_ _ _ ?_;clear hQ_ Q_)))
  | (refine zFv fun K_ hK_=>?_;simp (disch:=omega) only [zFx,zAz,zGz,↓reduceIte,reduceCtorEq,Nat.reduceEqDiff,Nat.reduceLT];refine hK_ _ ?_;clear hK_ K_)))
    (refine zJv _ _ rfl (ret2 (by decide) (by decide)) ?_;simp only [zAz,↓reduceIte,reduceCtorEq,Nat.reduceEqDiff];refine zMw rfl (by omega) ?_)
    exact ⟨rfl,rfl⟩
  · have hi:x.i+1<sp.length:=by omega
    obtain ⟨c1,c2,c3,c4⟩:=hsp.at hi
    obtain ⟨id0,off0,hix0,hld0⟩:=hs.at wf hi yLz
    have hr0 : ∀ l w,loadAgg id0 off0 (some 2) (X h l w)=some (.agg [ii (spot sp (x.i+1)).1,ii (spot sp (x.i+1)).2]):=fun l w=>by rw [(hld0 l w).2,zXx hi,zQy hi]
    have e1:((x.i:Int)+1)=((x.i+1:Nat):Int):=by omega
    have hleast : ∀ w,w≤h.clock+4→(om Tryd.prog KK).call (.fn 69 [.fn 82 [] [.ptr (nx h 3) 0],.fn 71 [] [.ptr (nx h 2) 0,.ptr (nx h 1) 0,.ptr (nx h 0) 0]]) (X h [.cells (zAy [a,ii turn,.sl q 0 (sp.length - 1) (some (sp.length - 1)) 75]) 67,.cells (zAy [ii (x.i:Int),ii x.a,ii x.b,ii (x.s:Int)]) 71,.cells (zAy [byv]) 103,.cells (zAy [ii (spot sp (x.i+1)).1,ii (spot sp (x.i+1)).2]) 51] w) = .ok (.tup [ii (onwS pf sp x).1,ii (onwS pf sp x).2]) (X h [.cells (zAy [a,ii turn,.sl q 0 (sp.length - 1) (some (sp.length - 1)) 75]) 67,.cells (zAy [ii (x.i:Int),ii x.a,ii x.b,ii (x.s:Int)]) 71,.cells (zAy [byv]) 103,.cells (zAy [ii (spot sp (x.i+1)).1,ii (spot sp (x.i+1)).2]) 51] w):=fun w hw=>by
      refine leastInt (f:=fun c=>pf x.a x.b x.s c+dueS pf sp (nxt x c)) (ys:=offs (spot sp (x.i+1))) (offsets1 (t:=71) (nx h 3) (spot sp (x.i+1)) ⟨c1,c2,c3⟩).plain ⟨rfl,rfl⟩ (by rw [zMv];omega) _ (wf.X hw) (fun L w2 hw2=>?_) (fun y hy L w2 hw2=>?_) _ (onwS_step hi c3)
      · rw [X_X]
        have hw3:w2≤h.clock+4+L.length:=hw2
        exact RangeIn.of wf (k:=3) (by simp only [List.length_append,List.length_cons,List.length_nil];omega) rfl
      · obtain ⟨y1,y2⟩:=zWy.1 hy
        rw [yNw,pb_71]
        show (om Tryd.prog KK).call (.fn 71 [ii y,.ptr (nx h 2) 0,.ptr (nx h 1) 0,.ptr (nx h 0) 0]) _ = .ok (ii (pf x.a x.b x.s y+dueS pf sp (nxt x y))) _
        rw [← hgood y hi y1 y2,X_X]
        have hw3:w2≤h.clock+4+L.length:=hw2
        refine onward1 S sp hsp a turn q Tb hTl hTb x y hx hi ⟨y1,y2⟩ _ (wf.X (by simp only [List.length_append,List.length_cons,List.length_nil];omega)) (hs.up wf _ _) (ht.up _ _) _ _ _ (fun J w=>?_) (fun J w=>?_) (fun J w=>?_)
        · rw [X_X,zHx wf];rfl
        · rw [X_X,zFz wf]
          show aggAt (some (.cells (zAy [ii (x.i:Int),ii x.a,ii x.b,ii (x.s:Int)]) 71)) 0 4=_
          rw [zPv (by decide)];rfl
        · rw [X_X,zFz wf]
          show aggAt (some (.cells (zAy [a,ii turn,.sl q 0 (sp.length - 1) (some (sp.length - 1)) 75]) 67)) 0 3=_
          rw [zPv (by decide)];rfl
    refine zWv (zKv (fn:=Tryd.f45) Tryd.func45 rfl rfl rfl rfl rfl ?_)
    simp only [zKx]
    unfold stv prv
    (repeat' (first
  | (with_reducible first|refine zJz ?_|refine zGw ?_|refine zEw ?_|refine zEx ?_|refine zEv ?_|refine zJy ?_|refine zGv ?_|refine zBw ?_|refine zDx ?_|refine zBv ?_|refine zCx ?_|refine zEz ?_|refine zCw ?_|refine zCz ?_|refine zBz ?_|refine zDv ?_|refine zDy ?_|refine zAx ?_|refine zAv ?_)
  | refine zCv ?_|refine zEy rfl ?_|refine zIx ?_|refine zIv ?_
  | ((first|refine zGx rfl rfl rfl rfl rfl fun K_ hK_=>?_|refine zGy rfl rfl rfl rfl rfl fun K_ hK_=>?_);simp only [zAz,zDz,zFw,↓reduceIte,reduceCtorEq,Nat.reduceEqDiff,Bool.not_true,Bool.not_false];refine hK_ _ ?_;clear hK_ K_)
  | refine zDw (by decide) ?_
  | ((try first|refine zJx rfl rfl rfl ?_|refine zIy rfl rfl ?_|refine zJw rfl rfl rfl ?_|refine zIw rfl rfl ?_);(refine zIz fun Q_ hQ_=>?_;simp (disch:=first|omega|(simp only [List.length_cons,List.length_nil,List.length_append];omega)) only [bb,bp,zKx,↓reduceIte,reduceCtorEq,Nat.reduceEqDiff,Nat.reduceLT,Nat.reduceLeDiff,Nat.reduceAdd,Nat.reduceMul,Nat.reduceSub,Nat.reduceBEq,Int.reduceToNat,cond_true,cond_false,eq_self,beq_self_eq_true,hby.1,hby.2,zHz wf,zHx wf,zFz wf,zHy wf,zBx wf,zFy,tEvT10,zHw,zKw,zAw wf];first|(refine zCy (Q:=Q_) (fun hp_=>?_) (fun hp_=>?_) <;> first|(exfalso;omega)|(refine hQ_ _ _ ?_;clear hQ_ Q_))|(refine zBy (Q:=Q_) (fun hp_=>?_) (fun hp_=>?_) <;> first|(exfalso;omega)|(refine hQ_ _ _ ?_;clear hQ_ Q_))|(refine hQ_ _ _ ?_;clear hQ_ Q_)))
  | (refine zFv fun K_ hK_=>?_;simp (disch:=omega) only [zFx,zAz,zGz,↓reduceIte,reduceCtorEq,Nat.reduceEqDiff,Nat.reduceLT];refine hK_ _ ?_;clear hK_ K_)))
    refine zNw [.no,.no,.no,.no,.no,.full] (by kernel_rfl) ?_
    (repeat' (first
  | (with_reducible first|refine zJz ?_|refine zGw ?_|refine zEw ?_|refine zEx ?_|refine zEv ?_|refine zJy ?_|refine zGv ?_|refine zBw ?_|refine zDx ?_|refine zBv ?_|refine zCx ?_|refine zEz ?_|refine zCw ?_|refine zCz ?_|refine zBz ?_|refine zDv ?_|refine zDy ?_|refine zAx ?_|refine zAv ?_)
  | refine zCv ?_|refine zEy rfl ?_|refine zIx ?_|refine zIv ?_
  | ((first|refine zGx rfl rfl rfl rfl rfl fun K_ hK_=>?_|refine zGy rfl rfl rfl rfl rfl fun K_ hK_=>?_);simp only [zAz,zDz,zFw,↓reduceIte,reduceCtorEq,Nat.reduceEqDiff,Bool.not_true,Bool.not_false];refine hK_ _ ?_;clear hK_ K_)
  | refine zDw (by decide) ?_
  | ((try first|refine zJx rfl rfl rfl ?_|refine zIy rfl rfl ?_|refine zJw rfl rfl rfl ?_|refine zIw rfl rfl ?_);(refine zIz fun Q_ hQ_=>?_;simp (disch:=first|omega|(simp only [List.length_cons,List.length_nil,List.length_append];omega)) only [bb,bp,zKx,↓reduceIte,reduceCtorEq,Nat.reduceEqDiff,Nat.reduceLT,Nat.reduceLeDiff,Nat.reduceAdd,Nat.reduceMul,Nat.reduceSub,Nat.reduceBEq,Int.reduceToNat,cond_true,cond_false,eq_self,beq_self_eq_true,hla,e1,hix0,hr0,hleast,zHz wf,zHx wf,zFz wf,zHy wf,zBx wf,zFy,tEvT10,zHw,zKw,zAw wf];first|(refine zCy (Q:=Q_) (fun hp_=>?_) (fun hp_=>?_) <;> first|(exfalso;omega)|(refine hQ_ _ _ ?_;clear hQ_ Q_))|(refine zBy (Q:=Q_) (fun hp_=>?_) (fun hp_=>?_) <;> first|(exfalso;omega)|(refine hQ_ _ _ ?_;clear hQ_ Q_))|(refine hQ_ _ _ ?_;clear hQ_ Q_)|(refine xCz (offsets _ _ h wf _ _ (by simp only [List.length_append,List.length_cons,List.length_nil];omega)) ?_;refine hQ_ _ _ ?_;clear hQ_ Q_)))
  | (refine zFv fun K_ hK_=>?_;simp (disch:=omega) only [zFx,zAz,zGz,↓reduceIte,reduceCtorEq,Nat.reduceEqDiff,Nat.reduceLT];refine hK_ _ ?_;clear hK_ K_)))
    (refine zJv _ _ rfl (ret2 (by decide) (by decide)) ?_;simp only [zAz,↓reduceIte,reduceCtorEq,Nat.reduceEqDiff];refine zMw rfl (by omega) ?_)
    exact ⟨rfl,rfl⟩
end Go.Proofs.YtkmdidplmfdikaaDoor
end
