import Derived.Test.YtkmdidplmfdikaaDoorM5
set_option linter.all false
section
namespace Go.Proofs.YtkmdidplmfdikaaDoor
open Go.Ev
set_option maxRecDepth 100000
set_option linter.unusedSimpArgs false
set_option linter.unusedVariables false
set_option maxHeartbeats 2000000

theorem tEvT11 :type_of% (And.intro (And.intro (And.intro (And.intro (And.intro (@zSv) (@ia_2)) (And.intro (@sz_2) (And.intro (@ze_2) (@ia_3)))) (And.intro (And.intro (@sz_3) (@zSy)) (And.intro (@zTx) (And.intro (@zRx) (@zOv))))) (And.intro (And.intro (And.intro (@zVw) (@zUv)) (And.intro (@zVx) (And.intro (@zZv) (@zZw)))) (And.intro (And.intro (@zSx) (And.intro (@zSz) (@zSw))) (And.intro (@zXv) (And.intro (@zUz) (@yOv)))))) (And.intro (And.intro (And.intro (And.intro (@sz_65) (@xKz)) (And.intro (@yDv) (And.intro (@xKy) (@xFv)))) (And.intro (And.intro (@ia_123) (And.intro (@sz_123) (@ia_129))) (And.intro (@sz_129) (And.intro (@yLy) (@yKz))))) (And.intro (And.intro (And.intro (@wAy) (@zXy)) (And.intro (@zXz) (And.intro (@zRz) (@zLw)))) (And.intro (And.intro (@zLx) (And.intro (@pb_83) (@pb_85))) (And.intro (@pb_79) (And.intro (@xMz) (@ni_65))))))):=And.intro (And.intro (And.intro (And.intro (And.intro (@zSv) (@ia_2)) (And.intro (@sz_2) (And.intro (@ze_2) (@ia_3)))) (And.intro (And.intro (@sz_3) (@zSy)) (And.intro (@zTx) (And.intro (@zRx) (@zOv))))) (And.intro (And.intro (And.intro (@zVw) (@zUv)) (And.intro (@zVx) (And.intro (@zZv) (@zZw)))) (And.intro (And.intro (@zSx) (And.intro (@zSz) (@zSw))) (And.intro (@zXv) (And.intro (@zUz) (@yOv)))))) (And.intro (And.intro (And.intro (And.intro (@sz_65) (@xKz)) (And.intro (@yDv) (And.intro (@xKy) (@xFv)))) (And.intro (And.intro (@ia_123) (And.intro (@sz_123) (@ia_129))) (And.intro (@sz_129) (And.intro (@yLy) (@yKz))))) (And.intro (And.intro (And.intro (@wAy) (@zXy)) (And.intro (@zXz) (And.intro (@zRz) (@zLw)))) (And.intro (And.intro (@zLx) (And.intro (@pb_83) (@pb_85))) (And.intro (@pb_79) (And.intro (@xMz) (@ni_65))))))
abbrev u6 (n:Nat):AV:=.int .u64 (n:Int)
theorem c24 {p:Nat→Prop} {k:Nat} (hk:k<24) (h:p 0∧p 1∧p 2∧p 3∧p 4∧p 5∧p 6∧p 7∧p 8∧p 9∧p 10∧p 11∧p 12∧p 13∧p 14∧p 15∧p 16∧p 17∧p 18∧p 19∧p 20∧p 21∧p 22∧p 23):p k:=by
  obtain ⟨h0,h1,h2,h3,h4,h5,h6,h7,h8,h9,h10,h11,h12,h13,h14,h15,h16,h17,h18,h19,h20,h21,h22,h23⟩:=h
  have:k=0∨k=1∨k=2∨k=3∨k=4∨k=5∨k=6∨k=7∨k=8∨k=9∨k=10∨k=11∨k=12∨k=13∨k=14∨k=15∨k=16∨k=17∨k=18∨k=19∨k=20∨k=21∨k=22∨k=23:=by omega
  rcases this with rfl|rfl|rfl|rfl|rfl|rfl|rfl|rfl|rfl|rfl|rfl|rfl|rfl|rfl|rfl|rfl|rfl|rfl|rfl|rfl|rfl|rfl|rfl|rfl
  · exact h0
  · exact h1
  · exact h2
  · exact h3
  · exact h4
  · exact h5
  · exact h6
  · exact h7
  · exact h8
  · exact h9
  · exact h10
  · exact h11
  · exact h12
  · exact h13
  · exact h14
  · exact h15
  · exact h16
  · exact h17
  · exact h18
  · exact h19
  · exact h20
  · exact h21
  · exact h22
  · exact h23
theorem m_and {k:Nat} (hk:k<24) {x y:Operand} : binE Tryd.prog .and 129 x y (u6 k) (.int .u64 4294967295)=some (u6 k):=c24 (p:=fun k=>binE Tryd.prog .and 129 x y (u6 k) (.int .u64 4294967295)=some (u6 k)) hk ⟨rfl,rfl,rfl,rfl,rfl,rfl,rfl,rfl,rfl,rfl,rfl,rfl,rfl,rfl,rfl,rfl,rfl,rfl,rfl,rfl,rfl,rfl,rfl,rfl⟩
theorem m_shr {k:Nat} (hk:k<24) {x y:Operand} : binE Tryd.prog .shr 129 x y (u6 k) (.int .u64 32)=some (.int .u64 0):=c24 (p:=fun k=>binE Tryd.prog .shr 129 x y (u6 k) (.int .u64 32)=some (.int .u64 0)) hk ⟨rfl,rfl,rfl,rfl,rfl,rfl,rfl,rfl,rfl,rfl,rfl,rfl,rfl,rfl,rfl,rfl,rfl,rfl,rfl,rfl,rfl,rfl,rfl,rfl⟩
theorem m_mul1 {k:Nat} (hk:k<24) {x y:Operand} : binE Tryd.prog .mul 129 x y (.int .u64 1) (u6 k)=some (u6 k):=c24 (p:=fun k=>binE Tryd.prog .mul 129 x y (.int .u64 1) (u6 k)=some (u6 k)) hk ⟨rfl,rfl,rfl,rfl,rfl,rfl,rfl,rfl,rfl,rfl,rfl,rfl,rfl,rfl,rfl,rfl,rfl,rfl,rfl,rfl,rfl,rfl,rfl,rfl⟩
theorem m_mul0 {k:Nat} (hk:k<24) {x y:Operand} : binE Tryd.prog .mul 129 x y (.int .u64 0) (u6 k)=some (.int .u64 0):=c24 (p:=fun k=>binE Tryd.prog .mul 129 x y (.int .u64 0) (u6 k)=some (.int .u64 0)) hk ⟨rfl,rfl,rfl,rfl,rfl,rfl,rfl,rfl,rfl,rfl,rfl,rfl,rfl,rfl,rfl,rfl,rfl,rfl,rfl,rfl,rfl,rfl,rfl,rfl⟩
theorem m_gtr {k:Nat} (hk:k<24) {x y:Operand} : binE Tryd.prog .gtr 123 x y (u6 k) (.int .u64 9223372036854775807)=some (.bool false):=c24 (p:=fun k=>binE Tryd.prog .gtr 123 x y (u6 k) (.int .u64 9223372036854775807)=some (.bool false)) hk ⟨rfl,rfl,rfl,rfl,rfl,rfl,rfl,rfl,rfl,rfl,rfl,rfl,rfl,rfl,rfl,rfl,rfl,rfl,rfl,rfl,rfl,rfl,rfl,rfl⟩
theorem k_and1 {x y:Operand} : binE Tryd.prog .and 129 x y (.int .u64 1) (.int .u64 4294967295)=some (.int .u64 1):=rfl
theorem k_and0 {x y:Operand} : binE Tryd.prog .and 129 x y (.int .u64 0) (.int .u64 4294967295)=some (.int .u64 0):=rfl
theorem k_shr1 {x y:Operand} : binE Tryd.prog .shr 129 x y (.int .u64 1) (.int .u64 32)=some (.int .u64 0):=rfl
theorem k_shr0 {x y:Operand} : binE Tryd.prog .shr 129 x y (.int .u64 0) (.int .u64 32)=some (.int .u64 0):=rfl
theorem k_mul00 {x y:Operand} : binE Tryd.prog .mul 129 x y (.int .u64 0) (.int .u64 0)=some (.int .u64 0):=rfl
theorem k_mul10 {x y:Operand} : binE Tryd.prog .mul 129 x y (.int .u64 1) (.int .u64 0)=some (.int .u64 0):=rfl
theorem k_add00 {x y:Operand} : binE Tryd.prog .add 129 x y (.int .u64 0) (.int .u64 0)=some (.int .u64 0):=rfl
theorem k_gtr0 {x y:Operand} : binE Tryd.prog .gtr 123 x y (.int .u64 0) (.int .u64 0)=some (.bool false):=rfl
theorem cv_in {k:Nat} (hk:k<24):convE Tryd.prog 3 123 (.int .i64 (k:Int))=some (u6 k):=c24 (p:=fun k=>convE Tryd.prog 3 123 (.int .i64 (k:Int))=some (u6 k)) hk ⟨rfl,rfl,rfl,rfl,rfl,rfl,rfl,rfl,rfl,rfl,rfl,rfl,rfl,rfl,rfl,rfl,rfl,rfl,rfl,rfl,rfl,rfl,rfl,rfl⟩
theorem cv_in1 :convE Tryd.prog 3 123 (.int .i64 1)=some (.int .u64 1):=rfl
theorem cv_out {k:Nat} (hk:k<24):convE Tryd.prog 123 3 (u6 k)=some (ii (k:Int)):=c24 (p:=fun k=>convE Tryd.prog 123 3 (u6 k)=some (ii (k:Int))) hk ⟨rfl,rfl,rfl,rfl,rfl,rfl,rfl,rfl,rfl,rfl,rfl,rfl,rfl,rfl,rfl,rfl,rfl,rfl,rfl,rfl,rfl,rfl,rfl,rfl⟩

theorem mul64 {k:Nat} (hk:k<24) (h:H) (wf:Wf h):(om Tryd.prog KK).call (.fn 85 [.int .u64 1,u6 k]) h = .ok (.tup [.int .u64 0,u6 k]) h:=by
  refine zWv (zKv (fn:=Tryd.f85) Tryd.func85 rfl rfl rfl rfl rfl ?_)
  simp only [zKx]
  have q1:=fun x y=>m_and hk (x:=x) (y:=y)
  have q2:=fun x y=>m_shr hk (x:=x) (y:=y)
  have q3:=fun x y=>m_mul1 hk (x:=x) (y:=y)
  have q4:=fun x y=>m_mul0 hk (x:=x) (y:=y)
  (repeat' (first
  | (with_reducible first|refine zJz ?_|refine zGw ?_|refine zEw ?_|refine zEx ?_|refine zEv ?_|refine zJy ?_|refine zGv ?_|refine zBw ?_|refine zDx ?_|refine zBv ?_|refine zCx ?_|refine zEz ?_|refine zCw ?_|refine zCz ?_|refine zBz ?_|refine zDv ?_|refine zDy ?_|refine zAx ?_|refine zAv ?_)
  | refine zCv ?_|refine zEy rfl ?_|refine zIx ?_|refine zIv ?_
  | ((first|refine zGx rfl rfl rfl rfl rfl fun K_ hK_=>?_|refine zGy rfl rfl rfl rfl rfl fun K_ hK_=>?_);simp only [zAz,zDz,zFw,↓reduceIte,reduceCtorEq,Nat.reduceEqDiff,Bool.not_true,Bool.not_false];refine hK_ _ ?_;clear hK_ K_)
  | refine zDw (by decide) ?_
  | ((try first|refine zJx rfl rfl rfl ?_|refine zIy rfl rfl ?_|refine zJw rfl rfl rfl ?_|refine zIw rfl rfl ?_);(refine zIz fun Q_ hQ_=>?_;simp (disch:=first|omega|(simp only [List.length_cons,List.length_nil,List.length_append];omega)) only [bb,bp,zKx,↓reduceIte,reduceCtorEq,Nat.reduceEqDiff,Nat.reduceLT,Nat.reduceLeDiff,Nat.reduceAdd,Nat.reduceMul,Nat.reduceSub,Nat.reduceBEq,Int.reduceToNat,cond_true,cond_false,eq_self,beq_self_eq_true,q1,q2,q3,q4,k_and1,k_and0,k_shr1,k_shr0,k_mul00,k_mul10,k_add00,tEvT11,zHw,zKw,zAw wf];first|(refine zCy (Q:=Q_) (fun hp_=>?_) (fun hp_=>?_) <;> first|(exfalso;omega)|(refine hQ_ _ _ ?_;clear hQ_ Q_))|(refine zBy (Q:=Q_) (fun hp_=>?_) (fun hp_=>?_) <;> first|(exfalso;omega)|(refine hQ_ _ _ ?_;clear hQ_ Q_))|(refine hQ_ _ _ ?_;clear hQ_ Q_)))
  | (refine zFv fun K_ hK_=>?_;simp (disch:=omega) only [zFx,zAz,zGz,↓reduceIte,reduceCtorEq,Nat.reduceEqDiff,Nat.reduceLT];refine hK_ _ ?_;clear hK_ K_)))
  (refine zJv _ _ rfl (ret2 (by decide) (by decide)) ?_;simp only [zAz,↓reduceIte,reduceCtorEq,Nat.reduceEqDiff];refine zMw rfl (by omega) ?_)
  exact ⟨rfl,rfl⟩
theorem mul {k:Nat} (hk:k<24) (h:H) (wf:Wf h):(om Tryd.prog KK).call (.fn 83 [.int .u64 1,u6 k]) h = .ok (.tup [.int .u64 0,u6 k]) h:=by
  refine zWv (zKv (fn:=Tryd.f83) Tryd.func83 rfl rfl rfl rfl rfl ?_)
  simp only [zKx]
  (repeat' (first
  | (with_reducible first|refine zJz ?_|refine zGw ?_|refine zEw ?_|refine zEx ?_|refine zEv ?_|refine zJy ?_|refine zGv ?_|refine zBw ?_|refine zDx ?_|refine zBv ?_|refine zCx ?_|refine zEz ?_|refine zCw ?_|refine zCz ?_|refine zBz ?_|refine zDv ?_|refine zDy ?_|refine zAx ?_|refine zAv ?_)
  | refine zCv ?_|refine zEy rfl ?_|refine zIx ?_|refine zIv ?_
  | ((first|refine zGx rfl rfl rfl rfl rfl fun K_ hK_=>?_|refine zGy rfl rfl rfl rfl rfl fun K_ hK_=>?_);simp only [zAz,zDz,zFw,↓reduceIte,reduceCtorEq,Nat.reduceEqDiff,Bool.not_true,Bool.not_false];refine hK_ _ ?_;clear hK_ K_)
  | refine zDw (by decide) ?_
  | ((try first|refine zJx rfl rfl rfl ?_|refine zIy rfl rfl ?_|refine zJw rfl rfl rfl ?_|refine zIw rfl rfl ?_);(refine zIz fun Q_ hQ_=>?_;simp (disch:=first|omega|(simp only [List.length_cons,List.length_nil,List.length_append];omega)) only [bb,bp,zKx,↓reduceIte,reduceCtorEq,Nat.reduceEqDiff,Nat.reduceLT,Nat.reduceLeDiff,Nat.reduceAdd,Nat.reduceMul,Nat.reduceSub,Nat.reduceBEq,Int.reduceToNat,cond_true,cond_false,eq_self,beq_self_eq_true,tEvT11,zHw,zKw,zAw wf];first|(refine zCy (Q:=Q_) (fun hp_=>?_) (fun hp_=>?_) <;> first|(exfalso;omega)|(refine hQ_ _ _ ?_;clear hQ_ Q_))|(refine zBy (Q:=Q_) (fun hp_=>?_) (fun hp_=>?_) <;> first|(exfalso;omega)|(refine hQ_ _ _ ?_;clear hQ_ Q_))|(refine hQ_ _ _ ?_;clear hQ_ Q_)))
  | (refine zFv fun K_ hK_=>?_;simp (disch:=omega) only [zFx,zAz,zGz,↓reduceIte,reduceCtorEq,Nat.reduceEqDiff,Nat.reduceLT];refine hK_ _ ?_;clear hK_ K_)))
  refine zFv fun K_ hK_=>?_
  simp only [evT_bool,zGz]
  refine hK_ _ (zDy ?_)
  clear hK_ K_
  (repeat' (first
  | (with_reducible first|refine zJz ?_|refine zGw ?_|refine zEw ?_|refine zEx ?_|refine zEv ?_|refine zJy ?_|refine zGv ?_|refine zBw ?_|refine zDx ?_|refine zBv ?_|refine zCx ?_|refine zEz ?_|refine zCw ?_|refine zCz ?_|refine zBz ?_|refine zDv ?_|refine zDy ?_|refine zAx ?_|refine zAv ?_)
  | refine zCv ?_|refine zEy rfl ?_|refine zIx ?_|refine zIv ?_
  | ((first|refine zGx rfl rfl rfl rfl rfl fun K_ hK_=>?_|refine zGy rfl rfl rfl rfl rfl fun K_ hK_=>?_);simp only [zAz,zDz,zFw,↓reduceIte,reduceCtorEq,Nat.reduceEqDiff,Bool.not_true,Bool.not_false];refine hK_ _ ?_;clear hK_ K_)
  | refine zDw (by decide) ?_
  | ((try first|refine zJx rfl rfl rfl ?_|refine zIy rfl rfl ?_|refine zJw rfl rfl rfl ?_|refine zIw rfl rfl ?_);(refine zIz fun Q_ hQ_=>?_;simp (disch:=first|omega|(simp only [List.length_cons,List.length_nil,List.length_append];omega)) only [bb,bp,zKx,↓reduceIte,reduceCtorEq,Nat.reduceEqDiff,Nat.reduceLT,Nat.reduceLeDiff,Nat.reduceAdd,Nat.reduceMul,Nat.reduceSub,Nat.reduceBEq,Int.reduceToNat,cond_true,cond_false,eq_self,beq_self_eq_true,tEvT11,zHw,zKw,zAw wf];first|(refine zCy (Q:=Q_) (fun hp_=>?_) (fun hp_=>?_) <;> first|(exfalso;omega)|(refine hQ_ _ _ ?_;clear hQ_ Q_))|(refine zBy (Q:=Q_) (fun hp_=>?_) (fun hp_=>?_) <;> first|(exfalso;omega)|(refine hQ_ _ _ ?_;clear hQ_ Q_))|(refine hQ_ _ _ ?_;clear hQ_ Q_)|(refine xCz (mul64 hk _ (wf.X (by first|omega|(simp only [List.length_append,List.length_cons,List.length_nil];omega)))) ?_;refine hQ_ _ _ ?_;clear hQ_ Q_)))
  | (refine zFv fun K_ hK_=>?_;simp (disch:=omega) only [zFx,zAz,zGz,↓reduceIte,reduceCtorEq,Nat.reduceEqDiff,Nat.reduceLT];refine hK_ _ ?_;clear hK_ K_)))
  (refine zJv _ _ rfl (ret2 (by decide) (by decide)) ?_;simp only [zAz,↓reduceIte,reduceCtorEq,Nat.reduceEqDiff];refine zMw rfl (by omega) ?_)
  exact ⟨rfl,rfl⟩

def FF :AV:=.int .i64 1099511627776
def fz (n m:Nat):List AV:=List.replicate (m * 75) FF++List.replicate ((n - m) * 75) (.int .i64 0)
theorem fz_len {n m:Nat} (hm:m≤n):(fz n m).length=n * 75:=by unfold fz;rw [List.length_append,List.length_replicate,List.length_replicate,← Nat.add_mul];congr 1;omega
theorem xWy {n m j:Nat} (hj:m+j≤n):splice (fz n m) (m * 75) (List.replicate (j * 75) FF)=fz n (m+j):=by
  unfold splice fz
  rw [List.length_replicate,List.take_append_of_le_length (by rw [List.length_replicate];exact Nat.le_refl _),List.take_of_length_le (by rw [List.length_replicate];exact Nat.le_refl _),List.replicate_append_replicate,List.drop_append,List.length_replicate,
    List.drop_of_length_le (by rw [List.length_replicate];omega),List.nil_append,List.drop_replicate,← Nat.add_mul,show (n - m) * 75 - ((m+j) * 75 - m * 75)=(n - (m+j)) * 75 from by omega]
theorem fz_done (n:Nat):fz n n=List.replicate (n * 75) FF:=by unfold fz;rw [Nat.sub_self,Nat.zero_mul];simp
theorem xFy (k:Nat):allOne (List.replicate k FF)=true:=by
  have:=yUy (f:=fun (_:Unit)=>FF) (fun _=>rfl) (List.replicate k ())
  rwa [List.map_replicate] at this
theorem rs_65 (id:Pos) (off len c esz:Nat):reszT Tryd.prog 65 (.sl id off len (some c) esz) = .sl id off len (some c) 75:=yBy Tryd.underlying65 yDv
theorem len_65 {q:Pos} {h':H} {n c:Nat} : lenE Tryd.prog 65 (.sl q 0 n (some c) 75) h'=some (.int .i64 (n:Int)):=by
  unfold lenE;rw [Tryd.underlying65];rfl
theorem zero_112 :AV.cells (.agg (List.replicate 75 (.int .i64 0)))=List.replicate 75 (.int .i64 0):=rfl
theorem el112 :El Tryd.prog 112 75 600 (.agg (List.replicate 75 (.int .i64 0))):=el_112
theorem repeat_ {n:Nat} (hn:1≤n∧n<24) (h:H) (wf:Wf h) (L:List AO) (k w:Nat) (hk:L[k]? = some (.cells (zAy (List.replicate 75 FF)) 112)) (hw:w≤h.clock+L.length) :
    (om Tryd.prog KK).call (.fn 79 [.sl (nx h k) 0 1 (some 1) 75,ii (n:Int)]) (X h L w) = .ok (.sl (nx h L.length) 0 n (some n) 75) (X h (L++[.cells (zAy (List.replicate (n * 75) FF)) 112]) w):=by
  have hmk:=wBy (P:=Tryd.prog) (n:=n) (l:=L) (w:=h.clock+L.length) wf Tryd.underlying65 yDv el112 (by omega) (by decide) zero_112
  have hf0:fz n 0=List.replicate (n * 75) (.int .i64 0):=by unfold fz;simp
  rw [← hf0] at hmk
  have hcp:copyE Tryd.prog 65 (.sl (nx h L.length) 0 n (some n) 75) (.sl (nx h k) 0 1 (some 1) 75) (X h (L++[.cells (zAy (fz n 0)) 112]) (h.clock+L.length)) = .ok (.int .i64 1) (X h (L++[.cells (zAy (fz n 1)) 112]) (h.clock+L.length)):=by
    have:=copyE_X (P:=Tryd.prog) (n:=1) (off:=0) (len:=n) (esz:=75) (cap:=some n) (k:=L.length) (old:=fz n 0) (ee:=112) (l:=L++[.cells (zAy (fz n 0)) 112]) (w:=h.clock+L.length) wf Tryd.underlying65 yDv (yPv (e:=112) (cap:=some 1) wf (by rw [List.getElem?_append_left (zHv hk)];exact hk) (by rw [List.length_replicate])) (by decide) hn.1 (by rw [List.length_replicate]) (by rw [zPx];rfl) (by rw [fz_len (Nat.zero_le n),List.length_replicate];omega) (xFy _)
    rw [yBz,List.set_cons_zero,Nat.min_self] at this
    rw [this]
    have e:=xWy (n:=n) (m:=0) (j:=1) (by omega)
    rw [Nat.zero_mul,Nat.one_mul,Nat.zero_add] at e
    rw [e];rfl
  have hmul : ∀ l w,w≤h.clock+l.length→(om Tryd.prog KK).call (.fn 83 [.int .u64 1,u6 n]) (X h l w) = .ok (.tup [.int .u64 0,u6 n]) (X h l w):=fun l w hw=>mul (by omega) _ (wf.X hw)
  have hlen1 : ∀ h',lenE Tryd.prog 65 (.sl (nx h k) 0 1 (some 1) 75) h'=some (ii 1):=fun h'=>len_65
  have hlen2 : ∀ h',lenE Tryd.prog 65 (.sl (nx h L.length) 0 n (some n) 75) h'=some (ii (n:Int)):=fun h'=>len_65
  have q1:=cv_in hn.2
  have q2:=cv_out hn.2
  have q3:=fun x y=>m_gtr hn.2 (x:=x) (y:=y)
  refine zWv (zKv (fn:=Tryd.f79) Tryd.func79 rfl rfl rfl rfl rfl ?_)
  simp only [zKx]
  (repeat' (first
  | (with_reducible first|refine zJz ?_|refine zGw ?_|refine zEw ?_|refine zEx ?_|refine zEv ?_|refine zJy ?_|refine zGv ?_|refine zBw ?_|refine zDx ?_|refine zBv ?_|refine zCx ?_|refine zEz ?_|refine zCw ?_|refine zCz ?_|refine zBz ?_|refine zDv ?_|refine zDy ?_|refine zAx ?_|refine zAv ?_)
  | refine zCv ?_|refine zEy rfl ?_|refine zIx ?_|refine zIv ?_
  | ((first|refine zGx rfl rfl rfl rfl rfl fun K_ hK_=>?_|refine zGy rfl rfl rfl rfl rfl fun K_ hK_=>?_);simp only [zAz,zDz,zFw,↓reduceIte,reduceCtorEq,Nat.reduceEqDiff,Bool.not_true,Bool.not_false];refine hK_ _ ?_;clear hK_ K_)
  | refine zDw (by decide) ?_
  | ((try first|refine zJx rfl rfl rfl ?_|refine zIy rfl rfl ?_|refine zJw rfl rfl rfl ?_|refine zIw rfl rfl ?_);(refine zIz fun Q_ hQ_=>?_;simp (disch:=first|omega|(simp only [List.length_cons,List.length_nil,List.length_append];omega)) only [bb,bp,zKx,↓reduceIte,reduceCtorEq,Nat.reduceEqDiff,Nat.reduceLT,Nat.reduceLeDiff,Nat.reduceAdd,Nat.reduceMul,Nat.reduceSub,Nat.reduceBEq,Int.reduceToNat,cond_true,cond_false,eq_self,beq_self_eq_true,X_X,zQz,hlen1,hlen2,q1,q2,q3,cv_in1,k_gtr0,hmul,hmk,hcp,rs_65,zHz wf,zHx wf,zFz wf,zHy wf,zBx wf,zFy,tEvT11,zHw,zKw,zAw wf];first|(refine zCy (Q:=Q_) (fun hp_=>?_) (fun hp_=>?_) <;> first|(exfalso;omega)|(refine hQ_ _ _ ?_;clear hQ_ Q_))|(refine zBy (Q:=Q_) (fun hp_=>?_) (fun hp_=>?_) <;> first|(exfalso;omega)|(refine hQ_ _ _ ?_;clear hQ_ Q_))|(refine hQ_ _ _ ?_;clear hQ_ Q_)))
  | (refine zFv fun K_ hK_=>?_;simp (disch:=omega) only [zFx,zAz,zGz,↓reduceIte,reduceCtorEq,Nat.reduceEqDiff,Nat.reduceLT];refine hK_ _ ?_;clear hK_ K_)))
  refine zTv (fun (m:Nat) f d h'=>1≤m∧m≤n∧f 7 = .sl (nx h L.length) 0 n (some n) 75∧f 8=ii (m:Int)∧d=[]∧h'=X h (L++[.cells (zAy (fz n m)) 112]) (h.clock+L.length)) (fun m=>n - m) ?_ (n+1) 1 (by omega) ?_
  · rintro m f d h' ⟨m1,mn,g7,g8,rfl,rfl⟩
    by_cases hlt:m<n
    · have s1:=slice_from (P:=Tryd.prog) (id:=nx h L.length) (len:=n) (m:=m) Tryd.underlying65 yDv hlt
      have s2:=slice_to (P:=Tryd.prog) (id:=nx h L.length) (len:=n) (m:=m) Tryd.underlying65 yDv mn (by omega)
      have hsrc:srcCells (X h (L++[.cells (zAy (fz n m)) 112]) (h.clock+(L.length+1))) 75 (.sl (nx h L.length) 0 m (some n) 75)=some (m,List.replicate (m * 75) FF):=by
        refine src_sl (o:=.cells (zAy (fz n m)) 112) (by rw [zQx wf,zPx];rfl) rfl ?_ rfl
        rw [yGw _ _ _ (by rw [fz_len mn,Nat.zero_add];exact Nat.mul_le_mul_right _ mn),List.drop_zero]
        unfold fz
        rw [List.take_append_of_le_length (by rw [List.length_replicate];exact Nat.le_refl _),List.take_of_length_le (by rw [List.length_replicate];exact Nat.le_refl _)]
      have hcopy : ∃ j:Nat,1≤j∧m+j≤n∧copyE Tryd.prog 65 (.sl (nx h L.length) (m * 75) (n - m) (some (n - m)) 75) (.sl (nx h L.length) 0 m (some n) 75) (X h (L++[.cells (zAy (fz n m)) 112]) (h.clock+(L.length+1))) = .ok (ii (j:Int)) (X h (L++[.cells (zAy (fz n (m+j))) 112]) (h.clock+L.length)):=by
        by_cases hm2:m≤n - m
        · refine ⟨m,m1,by omega,?_⟩
          rw [copyE_X (P:=Tryd.prog) (old:=fz n m) (ee:=112) wf Tryd.underlying65 yDv hsrc (by omega) hm2 (by rw [List.length_replicate]) (by rw [zPx];rfl) (by rw [fz_len mn,List.length_replicate,← Nat.add_mul];exact Nat.mul_le_mul_right _ (by omega)) (xFy _),yBz,List.set_cons_zero,xWy (by omega),Nat.min_eq_left (by omega)]
        · have ht:(List.replicate (m * 75) FF).take ((n - m) * 75)=List.replicate ((n - m) * 75) FF:=by rw [List.take_replicate,Nat.min_eq_left (Nat.mul_le_mul_right _ (by omega))]
          refine ⟨n - m,by omega,by omega,?_⟩
          rw [copyE_min (P:=Tryd.prog) (old:=fz n m) (ee:=112) wf Tryd.underlying65 yDv hsrc (by omega) (by omega) (by rw [List.length_replicate]) (by rw [zPx];rfl) (by rw [fz_len mn,← Nat.add_mul];exact Nat.mul_le_mul_right _ (by omega)) (by rw [ht];exact xFy _),ht,yBz,List.set_cons_zero,xWy (by omega),Nat.min_eq_left (by omega)]
      obtain ⟨j,j1,j2,hcopy⟩:=hcopy
      have e5:(m:Int)+(j:Int)=((m+j:Nat):Int):=by omega
      (repeat' (first
  | (with_reducible first|refine zJz ?_|refine zGw ?_|refine zEw ?_|refine zEx ?_|refine zEv ?_|refine zJy ?_|refine zGv ?_|refine zBw ?_|refine zDx ?_|refine zBv ?_|refine zCx ?_|refine zEz ?_|refine zCw ?_|refine zCz ?_|refine zBz ?_|refine zDv ?_|refine zDy ?_|refine zAx ?_|refine zAv ?_)
  | refine zCv ?_|refine zEy rfl ?_|refine zIx ?_|refine zIv ?_
  | ((first|refine zGx rfl rfl rfl rfl rfl fun K_ hK_=>?_|refine zGy rfl rfl rfl rfl rfl fun K_ hK_=>?_);simp only [zAz,zDz,zFw,↓reduceIte,reduceCtorEq,Nat.reduceEqDiff,Bool.not_true,Bool.not_false];refine hK_ _ ?_;clear hK_ K_)
  | refine zDw (by decide) ?_
  | ((try first|refine zJx rfl rfl rfl ?_|refine zIy rfl rfl ?_|refine zJw rfl rfl rfl ?_|refine zIw rfl rfl ?_);(refine zIz fun Q_ hQ_=>?_;simp (disch:=first|omega|(simp only [List.length_cons,List.length_nil,List.length_append];omega)) only [bb,bp,zKx,↓reduceIte,reduceCtorEq,Nat.reduceEqDiff,Nat.reduceLT,Nat.reduceLeDiff,Nat.reduceAdd,Nat.reduceMul,Nat.reduceSub,Nat.reduceBEq,Int.reduceToNat,cond_true,cond_false,eq_self,beq_self_eq_true,g7,g8,hlen2,rs_65,zHz wf,zHx wf,zFz wf,zHy wf,zBx wf,zFy,tEvT11,zHw,zKw,zAw wf];first|(refine zCy (Q:=Q_) (fun hp_=>?_) (fun hp_=>?_) <;> first|(exfalso;omega)|(refine hQ_ _ _ ?_;clear hQ_ Q_))|(refine zBy (Q:=Q_) (fun hp_=>?_) (fun hp_=>?_) <;> first|(exfalso;omega)|(refine hQ_ _ _ ?_;clear hQ_ Q_))|(refine hQ_ _ _ ?_;clear hQ_ Q_)))
  | (refine zFv fun K_ hK_=>?_;simp (disch:=omega) only [zFx,zAz,zGz,↓reduceIte,reduceCtorEq,Nat.reduceEqDiff,Nat.reduceLT];refine hK_ _ ?_;clear hK_ K_)))
      refine zNw [.no,.full,.full,.full,.full,.full,.full,.full,.full,.full] (by kernel_rfl) ?_
      (repeat' (first
  | (with_reducible first|refine zJz ?_|refine zGw ?_|refine zEw ?_|refine zEx ?_|refine zEv ?_|refine zJy ?_|refine zGv ?_|refine zBw ?_|refine zDx ?_|refine zBv ?_|refine zCx ?_|refine zEz ?_|refine zCw ?_|refine zCz ?_|refine zBz ?_|refine zDv ?_|refine zDy ?_|refine zAx ?_|refine zAv ?_)
  | refine zCv ?_|refine zEy rfl ?_|refine zIx ?_|refine zIv ?_
  | ((first|refine zGx rfl rfl rfl rfl rfl fun K_ hK_=>?_|refine zGy rfl rfl rfl rfl rfl fun K_ hK_=>?_);simp only [zAz,zDz,zFw,↓reduceIte,reduceCtorEq,Nat.reduceEqDiff,Bool.not_true,Bool.not_false];refine hK_ _ ?_;clear hK_ K_)
  | refine zDw (by decide) ?_
  | ((try first|refine zJx rfl rfl rfl ?_|refine zIy rfl rfl ?_|refine zJw rfl rfl rfl ?_|refine zIw rfl rfl ?_);(refine zIz fun Q_ hQ_=>?_;simp (disch:=first|omega|(simp only [List.length_cons,List.length_nil,List.length_append];omega)) only [bb,bp,zKx,↓reduceIte,reduceCtorEq,Nat.reduceEqDiff,Nat.reduceLT,Nat.reduceLeDiff,Nat.reduceAdd,Nat.reduceMul,Nat.reduceSub,Nat.reduceBEq,Int.reduceToNat,cond_true,cond_false,eq_self,beq_self_eq_true,g7,g8,hlen2,rs_65,s1,s2,hcopy,e5,zHz wf,zHx wf,zFz wf,zHy wf,zBx wf,zFy,tEvT11,zHw,zKw,zAw wf];first|(refine zCy (Q:=Q_) (fun hp_=>?_) (fun hp_=>?_) <;> first|(exfalso;omega)|(refine hQ_ _ _ ?_;clear hQ_ Q_))|(refine zBy (Q:=Q_) (fun hp_=>?_) (fun hp_=>?_) <;> first|(exfalso;omega)|(refine hQ_ _ _ ?_;clear hQ_ Q_))|(refine hQ_ _ _ ?_;clear hQ_ Q_)))
  | (refine zFv fun K_ hK_=>?_;simp (disch:=omega) only [zFx,zAz,zGz,↓reduceIte,reduceCtorEq,Nat.reduceEqDiff,Nat.reduceLT];refine hK_ _ ?_;clear hK_ K_)))
      exact zKy (m+j) (by omega) ⟨by omega,j2,by simp only [zAz,↓reduceIte,reduceCtorEq,Nat.reduceEqDiff];exact g7,by simp only [zAz,↓reduceIte,reduceCtorEq,Nat.reduceEqDiff],rfl,rfl⟩
    · have hme:m=n:=by omega
      subst hme
      (repeat' (first
  | (with_reducible first|refine zJz ?_|refine zGw ?_|refine zEw ?_|refine zEx ?_|refine zEv ?_|refine zJy ?_|refine zGv ?_|refine zBw ?_|refine zDx ?_|refine zBv ?_|refine zCx ?_|refine zEz ?_|refine zCw ?_|refine zCz ?_|refine zBz ?_|refine zDv ?_|refine zDy ?_|refine zAx ?_|refine zAv ?_)
  | refine zCv ?_|refine zEy rfl ?_|refine zIx ?_|refine zIv ?_
  | ((first|refine zGx rfl rfl rfl rfl rfl fun K_ hK_=>?_|refine zGy rfl rfl rfl rfl rfl fun K_ hK_=>?_);simp only [zAz,zDz,zFw,↓reduceIte,reduceCtorEq,Nat.reduceEqDiff,Bool.not_true,Bool.not_false];refine hK_ _ ?_;clear hK_ K_)
  | refine zDw (by decide) ?_
  | ((try first|refine zJx rfl rfl rfl ?_|refine zIy rfl rfl ?_|refine zJw rfl rfl rfl ?_|refine zIw rfl rfl ?_);(refine zIz fun Q_ hQ_=>?_;simp (disch:=first|omega|(simp only [List.length_cons,List.length_nil,List.length_append];omega)) only [bb,bp,zKx,↓reduceIte,reduceCtorEq,Nat.reduceEqDiff,Nat.reduceLT,Nat.reduceLeDiff,Nat.reduceAdd,Nat.reduceMul,Nat.reduceSub,Nat.reduceBEq,Int.reduceToNat,cond_true,cond_false,eq_self,beq_self_eq_true,g7,g8,hlen2,rs_65,zHz wf,zHx wf,zFz wf,zHy wf,zBx wf,zFy,tEvT11,zHw,zKw,zAw wf];first|(refine zCy (Q:=Q_) (fun hp_=>?_) (fun hp_=>?_) <;> first|(exfalso;omega)|(refine hQ_ _ _ ?_;clear hQ_ Q_))|(refine zBy (Q:=Q_) (fun hp_=>?_) (fun hp_=>?_) <;> first|(exfalso;omega)|(refine hQ_ _ _ ?_;clear hQ_ Q_))|(refine hQ_ _ _ ?_;clear hQ_ Q_)))
  | (refine zFv fun K_ hK_=>?_;simp (disch:=omega) only [zFx,zAz,zGz,↓reduceIte,reduceCtorEq,Nat.reduceEqDiff,Nat.reduceLT];refine hK_ _ ?_;clear hK_ K_)))
      refine zJv _ _ rfl (ret1 (by decide)) ?_
      simp only [zAz,↓reduceIte,reduceCtorEq,Nat.reduceEqDiff,fz_done]
      have e:X h (L++[.cells (zAy (List.replicate (m * 75) FF)) 112]) (h.clock+L.length)=X (X h L w) [.cells (zAy (List.replicate (m * 75) FF)) 112] (h.clock+L.length):=by rw [X_X]
      rw [e]
      refine yCz (by
        show (_ && flat (.sl _ 0 _ _ 75))=false
        exact Bool.and_false _) ⟨rfl,?_⟩
      rw [X_X,X_w,Nat.min_eq_left hw]
  · exact ⟨Nat.le_refl _,hn.1,by simp only [zAz,↓reduceIte,reduceCtorEq,Nat.reduceEqDiff],by simp only [zAz,↓reduceIte,reduceCtorEq,Nat.reduceEqDiff];rfl,rfl,rfl⟩
end Go.Proofs.YtkmdidplmfdikaaDoor
end

section
namespace Go.Proofs.YtkmdidplmfdikaaDoor
open Go.Ev
set_option maxRecDepth 100000
set_option linter.unusedSimpArgs false
set_option linter.unusedVariables false
set_option maxHeartbeats 2000000

theorem tEvT12 :type_of% (And.intro (And.intro (And.intro (And.intro (And.intro (@zSv) (@bs_64)) (And.intro (@bs_67) (And.intro (@ia_2) (@sz_2)))) (And.intro (And.intro (@ze_2) (And.intro (@ia_3) (@sz_3))) (And.intro (@zSy) (And.intro (@zTx) (@zRx))))) (And.intro (And.intro (And.intro (@zOv) (And.intro (@zVw) (@zUv))) (And.intro (@zVx) (And.intro (@zZv) (@zZw)))) (And.intro (And.intro (@zSx) (And.intro (@zSz) (@zSw))) (And.intro (@zXv) (And.intro (@zUz) (@yOv)))))) (And.intro (And.intro (And.intro (And.intro (@sz_65) (@xKz)) (And.intro (@yDv) (And.intro (@ze_112) (@xKy)))) (And.intro (And.intro (@xFv) (And.intro (@ia_123) (@sz_123))) (And.intro (@ia_129) (And.intro (@sz_129) (@yLy))))) (And.intro (And.intro (And.intro (@yKz) (And.intro (@wAy) (@zXy))) (And.intro (@zXz) (And.intro (@zRz) (@zLw)))) (And.intro (And.intro (@zLx) (And.intro (@pb_83) (@pb_85))) (And.intro (@pb_79) (And.intro (@xMz) (@ni_65))))))):=And.intro (And.intro (And.intro (And.intro (And.intro (@zSv) (@bs_64)) (And.intro (@bs_67) (And.intro (@ia_2) (@sz_2)))) (And.intro (And.intro (@ze_2) (And.intro (@ia_3) (@sz_3))) (And.intro (@zSy) (And.intro (@zTx) (@zRx))))) (And.intro (And.intro (And.intro (@zOv) (And.intro (@zVw) (@zUv))) (And.intro (@zVx) (And.intro (@zZv) (@zZw)))) (And.intro (And.intro (@zSx) (And.intro (@zSz) (@zSw))) (And.intro (@zXv) (And.intro (@zUz) (@yOv)))))) (And.intro (And.intro (And.intro (And.intro (@sz_65) (@xKz)) (And.intro (@yDv) (And.intro (@ze_112) (@xKy)))) (And.intro (And.intro (@xFv) (And.intro (@ia_123) (@sz_123))) (And.intro (@ia_129) (And.intro (@sz_129) (@yLy))))) (And.intro (And.intro (And.intro (@yKz) (And.intro (@wAy) (@zXy))) (And.intro (@zXz) (And.intro (@zRz) (@zLw)))) (And.intro (And.intro (@zLx) (And.intro (@pb_83) (@pb_85))) (And.intro (@pb_79) (And.intro (@xMz) (@ni_65))))))
def TabF (h:H):Prop:=∃ f,Ev.getObj (posN 0) h=some (AO.ro f)∧f 0=some FF∧f 1=some FF∧f 2=some FF
theorem TabF.up {h:H} (wf:Wf h) (t:TabF h) (l:List AO) (w:Nat):TabF (X h l w):=let ⟨f,h1,h2⟩:=t;⟨f,yLx wf h1 l w,h2⟩
theorem TabF.load {h:H} (t:TabF h):loadAgg (posN 0) 0 (some 3) h=some (.agg [FF,FF,FF]):=by
  obtain ⟨f,t1,t2,t3,t4⟩:=t
  unfold loadAgg readCells
  dsimp only
  rw [t1]
  have e:readM f 3 0=some [FF,FF,FF]:=by
    simp only [readM,Nat.succ_eq_add_one,Nat.zero_add,Nat.reduceAdd,t2,t3,t4]
  dsimp only [cellsOf]
  rw [e]
def gz (q:Nat):List AV:=List.replicate q FF++List.replicate (75 - q) (.int .i64 0)
theorem gz_len {q:Nat} (hq:q≤75):(gz q).length=75:=by unfold gz;rw [List.length_append,List.length_replicate,List.length_replicate];omega
theorem gz_splice {q:Nat} (hq:q+3≤75):splice (gz q) q [FF,FF,FF]=gz (q+3):=by
  unfold splice gz
  show List.take q _++List.replicate 3 FF++List.drop (q+3) _=_
  rw [List.take_append_of_le_length (by rw [List.length_replicate];exact Nat.le_refl _),List.take_of_length_le (by rw [List.length_replicate];exact Nat.le_refl _),List.replicate_append_replicate,List.drop_append,List.length_replicate,
    List.drop_of_length_le (by rw [List.length_replicate];omega),List.nil_append,List.drop_replicate,show 75 - q - (q+3 - q)=75 - (q+3) from by omega]
theorem bs_65 {h:H} (wf:Wf h) (l:List AO) (w:Nat):buildSliceE Tryd.prog 65 1 [(0,.agg (List.replicate 75 FF))] (X h l w) = .ok (.sl (nx h l.length) 0 1 (some 1) 75) (X h (l++[.cells (zAy (List.replicate 75 FF)) 112]) w):=by
  show newSlice 112 (List.replicate 75 FF) 1 1 75 (X h l w)=_
  exact zAw wf

theorem flat_prv {h:H} {a:AV} {m len:Nat} {cells:List AV} (hs:Sl h a m len cells) (turn:Int) (q:Pos) (n:Nat):flat (prv a turn q n)=false:=by
  obtain ⟨_,⟨rfl,_⟩|⟨_,_,_,_,_,_,rfl,_⟩⟩:=hs <;> rfl
theorem zPz {tm:M AV} : evT tm (.global 0)=some (.ptr (posN 0) 0):=rfl
theorem ix_arr {h:H} {k a b:Nat} (ha:a<5) (hb:b<5):indexAddrE Tryd.prog 112 (.ptr (nx h k) 0) (.int .i64 (a:Int))=some (.ptr (nx h k) (0+a * 15))∧indexAddrE Tryd.prog 110 (.ptr (nx h k) (0+a * 15)) (.int .i64 (b:Int))=some (.ptr (nx h k) (a * 15+b * 3)):=by
  refine ⟨ix_112 ha,?_⟩
  rw [ix_110 hb,Nat.zero_add]
theorem unpriced (sp:List (Int × Int)) (hsp:SpotsOK sp) (a:AV) (turn:Int) (h:H) (wf:Wf h) (ht:TabF h) (hs:Sl h a 2 sp.length (zLy sp)) :
    WV ((om Tryd.prog KK).call (.fn 64 [.agg [a,ii turn]]) h) fun v h'=>∃ M,v=prv a turn (nx h 4) (sp.length - 1)∧h'=X h M h.w∧M[4]? = some (.cells (zAy (List.replicate ((sp.length - 1) * 75) FF)) 112):=by
  have n2:=hsp.n2
  have n24:=hsp.n24
  have hG : ∀ l w,loadAgg (posN 0) 0 (some 3) (X h l w)=some (.agg [FF,FF,FF]):=fun l w=>(ht.up wf l w).load
  have ha1:oneB a=true∧AV.cells a=[a]:=by obtain ⟨_,⟨rfl,_⟩|⟨_,_,_,_,_,_,rfl,_⟩⟩:=hs <;> exact ⟨rfl,rfl⟩
  have hst : ∀ (o1 o2:AO) (q w:Nat),q+3≤75→writeCells (nx h 2) q [FF,FF,FF] (X h [o1,o2,.cells (zAy (gz q)) 112] w)=some (X h [o1,o2,.cells (zAy (gz (q+3))) 112] (min (h.clock+2) w)):=fun o1 o2 q w hq=>by
    rw [zBx wf]
    show (match writeAt (some (.cells (zAy (gz q)) 112)) q [FF,FF,FF] with|some o=>some (X h ([o1,o2,.cells (zAy (gz q)) 112].set 2 o) (min (h.clock+2) w))|none=>none)=_
    rw [zUx,if_pos (by rw [gz_len (by omega)];exact hq),gz_splice hq]
    rfl
  have hg0:gz 0=AV.cells (.agg (List.replicate 75 (.int .i64 0))):=rfl
  refine zKv (fn:=Tryd.f64) Tryd.func64 rfl rfl rfl rfl rfl ?_
  simp only [zKx]
  (repeat' (first
  | (with_reducible first|refine zJz ?_|refine zGw ?_|refine zEw ?_|refine zEx ?_|refine zEv ?_|refine zJy ?_|refine zGv ?_|refine zBw ?_|refine zDx ?_|refine zBv ?_|refine zCx ?_|refine zEz ?_|refine zCw ?_|refine zCz ?_|refine zBz ?_|refine zDv ?_|refine zDy ?_|refine zAx ?_|refine zAv ?_)
  | refine zCv ?_|refine zEy rfl ?_|refine zIx ?_|refine zIv ?_
  | ((first|refine zGx rfl rfl rfl rfl rfl fun K_ hK_=>?_|refine zGy rfl rfl rfl rfl rfl fun K_ hK_=>?_);simp only [zAz,zDz,zFw,↓reduceIte,reduceCtorEq,Nat.reduceEqDiff,Bool.not_true,Bool.not_false];refine hK_ _ ?_;clear hK_ K_)
  | refine zDw (by decide) ?_
  | ((try first|refine zJx rfl rfl rfl ?_|refine zIy rfl rfl ?_|refine zJw rfl rfl rfl ?_|refine zIw rfl rfl ?_);(refine zIz fun Q_ hQ_=>?_;simp (disch:=first|omega|(simp only [List.length_cons,List.length_nil,List.length_append];omega)) only [bb,bp,zKx,↓reduceIte,reduceCtorEq,Nat.reduceEqDiff,Nat.reduceLT,Nat.reduceLeDiff,Nat.reduceAdd,Nat.reduceMul,Nat.reduceSub,Nat.reduceBEq,Int.reduceToNat,cond_true,cond_false,eq_self,beq_self_eq_true,ha1.1,ha1.2,zHz wf,zHx wf,zFz wf,zHy wf,zBx wf,zFy,tEvT12,zHw,zKw,zAw wf];first|(refine zCy (Q:=Q_) (fun hp_=>?_) (fun hp_=>?_) <;> first|(exfalso;omega)|(refine hQ_ _ _ ?_;clear hQ_ Q_))|(refine zBy (Q:=Q_) (fun hp_=>?_) (fun hp_=>?_) <;> first|(exfalso;omega)|(refine hQ_ _ _ ?_;clear hQ_ Q_))|(refine hQ_ _ _ ?_;clear hQ_ Q_)))
  | (refine zFv fun K_ hK_=>?_;simp (disch:=omega) only [zFx,zAz,zGz,↓reduceIte,reduceCtorEq,Nat.reduceEqDiff,Nat.reduceLT];refine hK_ _ ?_;clear hK_ K_)))
  refine zTv (fun (u:Nat) f d h'=>u≤5∧f 1 = .ptr (nx h 0) 0∧f 2 = .ptr (nx h 1) 0∧f 3 = .ptr (nx h 2) 0∧f 6=ii (u:Int)∧d=[] ∧ ∃ w,h'=X h [.cells (zAy [a,ii turn]) 64,.cells (zAy [.nils,.int .i64 0,.nils]) 67,.cells (zAy (gz (u * 15))) 112] w∧h.clock≤w∧w≤h.clock+3) (fun u=>5 - u) ?_ (5+1) 0 (by omega) ?_
  · rintro u f d h' ⟨hu,g1,g2,g3,g6,rfl,w,rfl,hw1,hw2⟩
    by_cases hlt:u<5
    · (repeat' (first
  | (with_reducible first|refine zJz ?_|refine zGw ?_|refine zEw ?_|refine zEx ?_|refine zEv ?_|refine zJy ?_|refine zGv ?_|refine zBw ?_|refine zDx ?_|refine zBv ?_|refine zCx ?_|refine zEz ?_|refine zCw ?_|refine zCz ?_|refine zBz ?_|refine zDv ?_|refine zDy ?_|refine zAx ?_|refine zAv ?_)
  | refine zCv ?_|refine zEy rfl ?_|refine zIx ?_|refine zIv ?_
  | ((first|refine zGx rfl rfl rfl rfl rfl fun K_ hK_=>?_|refine zGy rfl rfl rfl rfl rfl fun K_ hK_=>?_);simp only [zAz,zDz,zFw,↓reduceIte,reduceCtorEq,Nat.reduceEqDiff,Bool.not_true,Bool.not_false];refine hK_ _ ?_;clear hK_ K_)
  | refine zDw (by decide) ?_
  | ((try first|refine zJx rfl rfl rfl ?_|refine zIy rfl rfl ?_|refine zJw rfl rfl rfl ?_|refine zIw rfl rfl ?_);(refine zIz fun Q_ hQ_=>?_;simp (disch:=first|omega|(simp only [List.length_cons,List.length_nil,List.length_append];omega)) only [bb,bp,zKx,↓reduceIte,reduceCtorEq,Nat.reduceEqDiff,Nat.reduceLT,Nat.reduceLeDiff,Nat.reduceAdd,Nat.reduceMul,Nat.reduceSub,Nat.reduceBEq,Int.reduceToNat,cond_true,cond_false,eq_self,beq_self_eq_true,g1,g2,g3,g6,zHz wf,zHx wf,zFz wf,zHy wf,zBx wf,zFy,tEvT12,zHw,zKw,zAw wf];first|(refine zCy (Q:=Q_) (fun hp_=>?_) (fun hp_=>?_) <;> first|(exfalso;omega)|(refine hQ_ _ _ ?_;clear hQ_ Q_))|(refine zBy (Q:=Q_) (fun hp_=>?_) (fun hp_=>?_) <;> first|(exfalso;omega)|(refine hQ_ _ _ ?_;clear hQ_ Q_))|(refine hQ_ _ _ ?_;clear hQ_ Q_)))
  | (refine zFv fun K_ hK_=>?_;simp (disch:=omega) only [zFx,zAz,zGz,↓reduceIte,reduceCtorEq,Nat.reduceEqDiff,Nat.reduceLT];refine hK_ _ ?_;clear hK_ K_)))
      refine zTv (fun (v:Nat) f d h'=>v≤5∧f 1 = .ptr (nx h 0) 0∧f 2 = .ptr (nx h 1) 0∧f 3 = .ptr (nx h 2) 0∧f 6=ii (u:Int)∧f 4=ii (u:Int)∧f 9=ii (v:Int)∧d=[] ∧ ∃ w,h'=X h [.cells (zAy [a,ii turn]) 64,.cells (zAy [.nils,.int .i64 0,.nils]) 67,.cells (zAy (gz (u * 15+v * 3))) 112] w∧h.clock≤w∧w≤h.clock+3) (fun v=>5 - v) ?_ (5+1) 0 (by omega) ?_
      · clear g1 g2 g3 g6 hw1 hw2
        rintro v f d h' ⟨hv,g1,g2,g3,g6,g4,g9,rfl,w,rfl,hw1,hw2⟩
        by_cases hlv:v<5
        · obtain ⟨j1,j2⟩:=ix_arr (h:=h) (k:=2) hlt hlv
          have hs1:=hst (.cells (zAy [a,ii turn]) 64) (.cells (zAy [.nils,.int .i64 0,.nils]) 67) (u * 15+v * 3)
          rw [Nat.zero_add] at j1 j2
          have hs1':=fun w=>hs1 w (by omega)
          (repeat' (first
  | (with_reducible first|refine zJz ?_|refine zGw ?_|refine zEw ?_|refine zEx ?_|refine zEv ?_|refine zJy ?_|refine zGv ?_|refine zBw ?_|refine zDx ?_|refine zBv ?_|refine zCx ?_|refine zEz ?_|refine zCw ?_|refine zCz ?_|refine zBz ?_|refine zDv ?_|refine zDy ?_|refine zAx ?_|refine zAv ?_)
  | refine zCv ?_|refine zEy rfl ?_|refine zIx ?_|refine zIv ?_
  | ((first|refine zGx rfl rfl rfl rfl rfl fun K_ hK_=>?_|refine zGy rfl rfl rfl rfl rfl fun K_ hK_=>?_);simp only [zAz,zDz,zFw,↓reduceIte,reduceCtorEq,Nat.reduceEqDiff,Bool.not_true,Bool.not_false];refine hK_ _ ?_;clear hK_ K_)
  | refine zDw (by decide) ?_
  | ((try first|refine zJx rfl rfl rfl ?_|refine zIy rfl rfl ?_|refine zJw rfl rfl rfl ?_|refine zIw rfl rfl ?_);(refine zIz fun Q_ hQ_=>?_;simp (disch:=first|omega|(simp only [List.length_cons,List.length_nil,List.length_append];omega)) only [bb,bp,zKx,↓reduceIte,reduceCtorEq,Nat.reduceEqDiff,Nat.reduceLT,Nat.reduceLeDiff,Nat.reduceAdd,Nat.reduceMul,Nat.reduceSub,Nat.reduceBEq,Int.reduceToNat,cond_true,cond_false,eq_self,beq_self_eq_true,g1,g2,g3,g6,g4,g9,zHz wf,zHx wf,zFz wf,zHy wf,zBx wf,zFy,tEvT12,zHw,zKw,zAw wf];first|(refine zCy (Q:=Q_) (fun hp_=>?_) (fun hp_=>?_) <;> first|(exfalso;omega)|(refine hQ_ _ _ ?_;clear hQ_ Q_))|(refine zBy (Q:=Q_) (fun hp_=>?_) (fun hp_=>?_) <;> first|(exfalso;omega)|(refine hQ_ _ _ ?_;clear hQ_ Q_))|(refine hQ_ _ _ ?_;clear hQ_ Q_)))
  | (refine zFv fun K_ hK_=>?_;simp (disch:=omega) only [zFx,zAz,zGz,↓reduceIte,reduceCtorEq,Nat.reduceEqDiff,Nat.reduceLT];refine hK_ _ ?_;clear hK_ K_)))
          refine zNw [.no,.no,.full,.no,.full,.full] (by kernel_rfl) ?_
          (repeat' (first
  | (with_reducible first|refine zJz ?_|refine zGw ?_|refine zEw ?_|refine zEx ?_|refine zEv ?_|refine zJy ?_|refine zGv ?_|refine zBw ?_|refine zDx ?_|refine zBv ?_|refine zCx ?_|refine zEz ?_|refine zCw ?_|refine zCz ?_|refine zBz ?_|refine zDv ?_|refine zDy ?_|refine zAx ?_|refine zAv ?_)
  | refine zCv ?_|refine zEy rfl ?_|refine zIx ?_|refine zIv ?_
  | ((first|refine zGx rfl rfl rfl rfl rfl fun K_ hK_=>?_|refine zGy rfl rfl rfl rfl rfl fun K_ hK_=>?_);simp only [zAz,zDz,zFw,↓reduceIte,reduceCtorEq,Nat.reduceEqDiff,Bool.not_true,Bool.not_false];refine hK_ _ ?_;clear hK_ K_)
  | refine zDw (by decide) ?_
  | ((try first|refine zJx rfl rfl rfl ?_|refine zIy rfl rfl ?_|refine zJw rfl rfl rfl ?_|refine zIw rfl rfl ?_);(refine zIz fun Q_ hQ_=>?_;simp (disch:=first|omega|(simp only [List.length_cons,List.length_nil,List.length_append];omega)) only [bb,bp,zKx,↓reduceIte,reduceCtorEq,Nat.reduceEqDiff,Nat.reduceLT,Nat.reduceLeDiff,Nat.reduceAdd,Nat.reduceMul,Nat.reduceSub,Nat.reduceBEq,Int.reduceToNat,cond_true,cond_false,eq_self,beq_self_eq_true,g1,g2,g3,g6,g4,g9,zPz,hG,j1,j2,hs1',zHz wf,zHx wf,zFz wf,zHy wf,zBx wf,zFy,tEvT12,zHw,zKw,zAw wf];first|(refine zCy (Q:=Q_) (fun hp_=>?_) (fun hp_=>?_) <;> first|(exfalso;omega)|(refine hQ_ _ _ ?_;clear hQ_ Q_))|(refine zBy (Q:=Q_) (fun hp_=>?_) (fun hp_=>?_) <;> first|(exfalso;omega)|(refine hQ_ _ _ ?_;clear hQ_ Q_))|(refine hQ_ _ _ ?_;clear hQ_ Q_)))
  | (refine zFv fun K_ hK_=>?_;simp (disch:=omega) only [zFx,zAz,zGz,↓reduceIte,reduceCtorEq,Nat.reduceEqDiff,Nat.reduceLT];refine hK_ _ ?_;clear hK_ K_)))
          exact zKy (v+1) (by omega) ⟨hlv,by simp only [zAz,↓reduceIte,reduceCtorEq,Nat.reduceEqDiff];exact g1,by simp only [zAz,↓reduceIte,reduceCtorEq,Nat.reduceEqDiff];exact g2,by simp only [zAz,↓reduceIte,reduceCtorEq,Nat.reduceEqDiff];exact g3,by simp only [zAz,↓reduceIte,reduceCtorEq,Nat.reduceEqDiff];exact g6,by simp only [zAz,↓reduceIte,reduceCtorEq,Nat.reduceEqDiff];exact g4,by simp only [zAz,↓reduceIte,reduceCtorEq,Nat.reduceEqDiff];rfl,rfl,_,by rw [show u * 15+(v+1) * 3=u * 15+v * 3+3 from by omega],by omega,by omega⟩
        · have hve:v=5:=by omega
          subst hve
          (repeat' (first
  | (with_reducible first|refine zJz ?_|refine zGw ?_|refine zEw ?_|refine zEx ?_|refine zEv ?_|refine zJy ?_|refine zGv ?_|refine zBw ?_|refine zDx ?_|refine zBv ?_|refine zCx ?_|refine zEz ?_|refine zCw ?_|refine zCz ?_|refine zBz ?_|refine zDv ?_|refine zDy ?_|refine zAx ?_|refine zAv ?_)
  | refine zCv ?_|refine zEy rfl ?_|refine zIx ?_|refine zIv ?_
  | ((first|refine zGx rfl rfl rfl rfl rfl fun K_ hK_=>?_|refine zGy rfl rfl rfl rfl rfl fun K_ hK_=>?_);simp only [zAz,zDz,zFw,↓reduceIte,reduceCtorEq,Nat.reduceEqDiff,Bool.not_true,Bool.not_false];refine hK_ _ ?_;clear hK_ K_)
  | refine zDw (by decide) ?_
  | ((try first|refine zJx rfl rfl rfl ?_|refine zIy rfl rfl ?_|refine zJw rfl rfl rfl ?_|refine zIw rfl rfl ?_);(refine zIz fun Q_ hQ_=>?_;simp (disch:=first|omega|(simp only [List.length_cons,List.length_nil,List.length_append];omega)) only [bb,bp,zKx,↓reduceIte,reduceCtorEq,Nat.reduceEqDiff,Nat.reduceLT,Nat.reduceLeDiff,Nat.reduceAdd,Nat.reduceMul,Nat.reduceSub,Nat.reduceBEq,Int.reduceToNat,cond_true,cond_false,eq_self,beq_self_eq_true,g1,g2,g3,g6,g4,g9,zHz wf,zHx wf,zFz wf,zHy wf,zBx wf,zFy,tEvT12,zHw,zKw,zAw wf];first|(refine zCy (Q:=Q_) (fun hp_=>?_) (fun hp_=>?_) <;> first|(exfalso;omega)|(refine hQ_ _ _ ?_;clear hQ_ Q_))|(refine zBy (Q:=Q_) (fun hp_=>?_) (fun hp_=>?_) <;> first|(exfalso;omega)|(refine hQ_ _ _ ?_;clear hQ_ Q_))|(refine hQ_ _ _ ?_;clear hQ_ Q_)))
  | (refine zFv fun K_ hK_=>?_;simp (disch:=omega) only [zFx,zAz,zGz,↓reduceIte,reduceCtorEq,Nat.reduceEqDiff,Nat.reduceLT];refine hK_ _ ?_;clear hK_ K_)))
          exact zKy (u+1) (by omega) ⟨hlt,by simp only [zAz,↓reduceIte,reduceCtorEq,Nat.reduceEqDiff];exact g1,by simp only [zAz,↓reduceIte,reduceCtorEq,Nat.reduceEqDiff];exact g2,by simp only [zAz,↓reduceIte,reduceCtorEq,Nat.reduceEqDiff];exact g3,by simp only [zAz,↓reduceIte,reduceCtorEq,Nat.reduceEqDiff];rfl,rfl,_,by rw [show (u+1) * 15=u * 15+5 * 3 from by omega],hw1,hw2⟩
      · exact ⟨Nat.zero_le _,by simp only [zAz,↓reduceIte,reduceCtorEq,Nat.reduceEqDiff];exact g1,by simp only [zAz,↓reduceIte,reduceCtorEq,Nat.reduceEqDiff];exact g2,by simp only [zAz,↓reduceIte,reduceCtorEq,Nat.reduceEqDiff];exact g3,by simp only [zAz,↓reduceIte,reduceCtorEq,Nat.reduceEqDiff];exact g6,by simp only [zAz,↓reduceIte,reduceCtorEq,Nat.reduceEqDiff],by simp only [zAz,↓reduceIte,reduceCtorEq,Nat.reduceEqDiff];rfl,rfl,_,rfl,hw1,hw2⟩
    · have hue:u=5:=by omega
      subst hue
      have hgz:gz (5 * 15)=List.replicate 75 FF:=by unfold gz;simp
      rw [hgz]
      have hld : ∀ (o1 o2:AO) (l:List AO) w,loadAgg (nx h 2) 0 (some 75) (X h (o1 :: o2 :: .cells (zAy (List.replicate 75 FF)) 112 :: l) w)=some (.agg (List.replicate 75 FF)):=fun o1 o2 l w=>by
        rw [zFz wf]
        show aggAt (some (.cells (zAy (List.replicate 75 FF)) 112)) 0 75=_
        rw [zPv (by decide)];rfl
      have hla : ∀ l w,w≤h.clock+l.length→(om Tryd.prog KK).call (.fn 44 [.agg [a,ii turn]]) (X h l w) = .ok (ii ((sp.length - 1:Nat):Int)) (X h l w):=fun l w hw=>last a turn sp (by omega) _ (wf.X hw) (hs.up wf _ _)
      have hrep : ∀ (o1 o2 o3:AO) w,w≤h.clock+4→(om Tryd.prog KK).call (.fn 79 [.sl (nx h 3) 0 1 (some 1) 75,ii ((sp.length - 1:Nat):Int)]) (X h [o1,o2,o3,.cells (zAy (List.replicate 75 FF)) 112] w) = .ok (.sl (nx h 4) 0 (sp.length - 1) (some (sp.length - 1)) 75) (X h [o1,o2,o3,.cells (zAy (List.replicate 75 FF)) 112,.cells (zAy (List.replicate ((sp.length - 1) * 75) FF)) 112] w):=fun o1 o2 o3 w hw=>repeat_ (by omega) h wf [o1,o2,o3,.cells (zAy (List.replicate 75 FF)) 112] 3 w rfl hw
      have hbs:=fun l w=>bs_65 wf l w
      have hl64 : ∀ (l:List AO) w,loadAgg (nx h 0) 0 (some 2) (X h (.cells (zAy [a,ii turn]) 64 :: l) w)=some (.agg [a,ii turn]):=fun l w=>by
        rw [zFz wf]
        show aggAt (some (.cells (zAy [a,ii turn]) 64)) 0 2=_
        rw [zPv (by decide)];rfl
      (repeat' (first
  | (with_reducible first|refine zJz ?_|refine zGw ?_|refine zEw ?_|refine zEx ?_|refine zEv ?_|refine zJy ?_|refine zGv ?_|refine zBw ?_|refine zDx ?_|refine zBv ?_|refine zCx ?_|refine zEz ?_|refine zCw ?_|refine zCz ?_|refine zBz ?_|refine zDv ?_|refine zDy ?_|refine zAx ?_|refine zAv ?_)
  | refine zCv ?_|refine zEy rfl ?_|refine zIx ?_|refine zIv ?_
  | ((first|refine zGx rfl rfl rfl rfl rfl fun K_ hK_=>?_|refine zGy rfl rfl rfl rfl rfl fun K_ hK_=>?_);simp only [zAz,zDz,zFw,↓reduceIte,reduceCtorEq,Nat.reduceEqDiff,Bool.not_true,Bool.not_false];refine hK_ _ ?_;clear hK_ K_)
  | refine zDw (by decide) ?_
  | ((try first|refine zJx rfl rfl rfl ?_|refine zIy rfl rfl ?_|refine zJw rfl rfl rfl ?_|refine zIw rfl rfl ?_);(refine zIz fun Q_ hQ_=>?_;simp (disch:=first|omega|(simp only [List.length_cons,List.length_nil,List.length_append];omega)) only [bb,bp,zKx,↓reduceIte,reduceCtorEq,Nat.reduceEqDiff,Nat.reduceLT,Nat.reduceLeDiff,Nat.reduceAdd,Nat.reduceMul,Nat.reduceSub,Nat.reduceBEq,Int.reduceToNat,cond_true,cond_false,eq_self,beq_self_eq_true,g1,g2,g3,g6,zHz wf,zHx wf,zFz wf,zHy wf,zBx wf,zFy,tEvT12,zHw,zKw,zAw wf];first|(refine zCy (Q:=Q_) (fun hp_=>?_) (fun hp_=>?_) <;> first|(exfalso;omega)|(refine hQ_ _ _ ?_;clear hQ_ Q_))|(refine zBy (Q:=Q_) (fun hp_=>?_) (fun hp_=>?_) <;> first|(exfalso;omega)|(refine hQ_ _ _ ?_;clear hQ_ Q_))|(refine hQ_ _ _ ?_;clear hQ_ Q_)))
  | (refine zFv fun K_ hK_=>?_;simp (disch:=omega) only [zFx,zAz,zGz,↓reduceIte,reduceCtorEq,Nat.reduceEqDiff,Nat.reduceLT];refine hK_ _ ?_;clear hK_ K_)))
      refine zNw [.no,.no,.no,.no,.no,.no,.full,.full] (by kernel_rfl) ?_
      (repeat' (first
  | (with_reducible first|refine zJz ?_|refine zGw ?_|refine zEw ?_|refine zEx ?_|refine zEv ?_|refine zJy ?_|refine zGv ?_|refine zBw ?_|refine zDx ?_|refine zBv ?_|refine zCx ?_|refine zEz ?_|refine zCw ?_|refine zCz ?_|refine zBz ?_|refine zDv ?_|refine zDy ?_|refine zAx ?_|refine zAv ?_)
  | refine zCv ?_|refine zEy rfl ?_|refine zIx ?_|refine zIv ?_
  | ((first|refine zGx rfl rfl rfl rfl rfl fun K_ hK_=>?_|refine zGy rfl rfl rfl rfl rfl fun K_ hK_=>?_);simp only [zAz,zDz,zFw,↓reduceIte,reduceCtorEq,Nat.reduceEqDiff,Bool.not_true,Bool.not_false];refine hK_ _ ?_;clear hK_ K_)
  | refine zDw (by decide) ?_
  | ((try first|refine zJx rfl rfl rfl ?_|refine zIy rfl rfl ?_|refine zJw rfl rfl rfl ?_|refine zIw rfl rfl ?_);(refine zIz fun Q_ hQ_=>?_;simp (disch:=first|omega|(simp only [List.length_cons,List.length_nil,List.length_append];omega)) only [bb,bp,zKx,↓reduceIte,reduceCtorEq,Nat.reduceEqDiff,Nat.reduceLT,Nat.reduceLeDiff,Nat.reduceAdd,Nat.reduceMul,Nat.reduceSub,Nat.reduceBEq,Int.reduceToNat,cond_true,cond_false,eq_self,beq_self_eq_true,g1,g2,g3,g6,hld,hl64,hla,hrep,hbs,ha1.1,ha1.2,zHz wf,zHx wf,zHy wf,zBx wf,tEvT12,zHw,zKw,zAw wf];first|(refine zCy (Q:=Q_) (fun hp_=>?_) (fun hp_=>?_) <;> first|(exfalso;omega)|(refine hQ_ _ _ ?_;clear hQ_ Q_))|(refine zBy (Q:=Q_) (fun hp_=>?_) (fun hp_=>?_) <;> first|(exfalso;omega)|(refine hQ_ _ _ ?_;clear hQ_ Q_))|(refine hQ_ _ _ ?_;clear hQ_ Q_)))
  | (refine zFv fun K_ hK_=>?_;simp (disch:=omega) only [zFx,zAz,zGz,↓reduceIte,reduceCtorEq,Nat.reduceEqDiff,Nat.reduceLT];refine hK_ _ ?_;clear hK_ K_)))
      refine zJv _ _ rfl (retc0 (by decide) (by simp (disch:=first|omega|(simp only [List.length_cons,List.length_nil,List.length_append];omega)) only [bb,bp,zKx,↓reduceIte,reduceCtorEq,Nat.reduceEqDiff,Nat.reduceLT,Nat.reduceLeDiff,Nat.reduceAdd,Nat.reduceMul,Nat.reduceSub,Nat.reduceBEq,Int.reduceToNat,cond_true,cond_false,eq_self,beq_self_eq_true,g2,zFz wf,tEvT12,zHw,zKw,zAw wf];rfl)) ?_
      refine yCz (by
        show (_ && flat (prv a turn _ _))=false
        rw [flat_prv hs];exact Bool.and_false _) ?_
      have hmin : ∀ w',h.clock≤w'→min h.w w'=h.w:=fun w' h'=>by have:=wf.wle;omega
      rw [hmin _ (by omega)]
      exact ⟨_,rfl,rfl,rfl⟩
  · exact ⟨Nat.zero_le _,by simp only [zAz,↓reduceIte,reduceCtorEq,Nat.reduceEqDiff],by simp only [zAz,↓reduceIte,reduceCtorEq,Nat.reduceEqDiff],by simp only [zAz,↓reduceIte,reduceCtorEq,Nat.reduceEqDiff],by simp only [zAz,↓reduceIte,reduceCtorEq,Nat.reduceEqDiff];rfl,rfl,_,by rw [hg0];rfl,Nat.le_refl _ ,by omega⟩
end Go.Proofs.YtkmdidplmfdikaaDoor
end

section
namespace Go.Proofs.YtkmdidplmfdikaaDoor
open Go.Ev
set_option maxRecDepth 100000
set_option linter.unusedSimpArgs false
set_option linter.unusedVariables false
set_option maxHeartbeats 2000000

theorem tEvT13 :type_of% (And.intro (And.intro (And.intro (And.intro (And.intro (@zSv) (@bs_64)) (And.intro (@bs_67) (And.intro (@ia_2) (@sz_2)))) (And.intro (And.intro (@ze_2) (@ia_3)) (And.intro (@sz_3) (And.intro (@zSy) (@zTx))))) (And.intro (And.intro (And.intro (@zRx) (@zOv)) (And.intro (@zVw) (And.intro (@zUv) (@zVx)))) (And.intro (And.intro (@zZv) (And.intro (@zZw) (@zSx))) (And.intro (@zSz) (And.intro (@zSw) (@zXv)))))) (And.intro (And.intro (And.intro (And.intro (@zUz) (@yOv)) (And.intro (@sz_65) (And.intro (@yOw) (@yOx)))) (And.intro (And.intro (@yOz) (@yLy)) (And.intro (@yKz) (And.intro (@wAy) (@zXy))))) (And.intro (And.intro (And.intro (@zXz) (@zRz)) (And.intro (@zLw) (And.intro (@zLx) (@pb_64)))) (And.intro (And.intro (@pb_48) (And.intro (@pb_47) (@pb_65))) (And.intro (@pb_45) (And.intro (@xLv) (@ni_65))))))):=And.intro (And.intro (And.intro (And.intro (And.intro (@zSv) (@bs_64)) (And.intro (@bs_67) (And.intro (@ia_2) (@sz_2)))) (And.intro (And.intro (@ze_2) (@ia_3)) (And.intro (@sz_3) (And.intro (@zSy) (@zTx))))) (And.intro (And.intro (And.intro (@zRx) (@zOv)) (And.intro (@zVw) (And.intro (@zUv) (@zVx)))) (And.intro (And.intro (@zZv) (And.intro (@zZw) (@zSx))) (And.intro (@zSz) (And.intro (@zSw) (@zXv)))))) (And.intro (And.intro (And.intro (And.intro (@zUz) (@yOv)) (And.intro (@sz_65) (And.intro (@yOw) (@yOx)))) (And.intro (And.intro (@yOz) (@yLy)) (And.intro (@yKz) (And.intro (@wAy) (@zXy))))) (And.intro (And.intro (And.intro (@zXz) (@zRz)) (And.intro (@zLw) (And.intro (@zLx) (@pb_64)))) (And.intro (And.intro (@pb_48) (And.intro (@pb_47) (@pb_65))) (And.intro (@pb_45) (And.intro (@xLv) (@ni_65))))))
theorem due_in {pf:Int→Int→Int→Int→Int} (hpf : ∀ (a b s c:Int),Off a→Off b→Off c→0≤pf a b s c∧pf a b s c≤5000000) : ∀ (R:List (Int × Int)) (a b s:Int),(∀ r ∈ R,SpotOK r)→Off a→Off b→0≤dueI pf R a b s∧dueI pf R a b s≤5000000 * (R.length:Int)
  | [],a,b,s,_,_,_=>by rw [dueI_nil];simp
  | r :: R,a,b,s,hR,ha,hb=>by
    obtain ⟨r1,r2,r3,r4⟩:=hR r (by simp)
    obtain ⟨c,e,hf⟩:=xNv (turn:=pf) (R:=R) r3 a b s
    have hc:=zWy.1 hf.mem
    have h1:=hpf a b s c ha hb (by omega)
    have h2:=due_in hpf R b c (nsg s (a - 2 * b+c)) (fun r hr=>hR r (by simp [hr])) hb (by omega)
    have e2:dueI pf (r :: R) a b s=pf a b s c+dueI pf R b c (nsg s (a - 2 * b+c)):=by show (onw pf (r :: R) a b s).2=_;rw [e]
    rw [e2,List.length_cons]
    push_cast
    omega
theorem dueS_in {byv:AV} {pf:Int→Int→Int→Int→Int} (S:StepOK byv pf) {sp:List (Int × Int)} (hsp:SpotsOK sp) {x:Stt} (hx:x.Ok sp):0≤dueS pf sp x∧dueS pf sp x≤1000000000:=by
  obtain ⟨⟨h1,h2⟩,h3,h4,h5⟩:=hx
  obtain ⟨a1,a2,a3,a4⟩:=hsp.at (i:=x.i - 1) (by omega)
  obtain ⟨b1,b2,b3,b4⟩:=hsp.at h2
  have:=due_in S.le (sp.drop (x.i+1)) x.a x.b x.s (fun r hr=>hsp.ok r (List.mem_of_mem_drop hr)) (by omega) (by omega)
  have n24:=hsp.n24
  rw [List.length_drop] at this
  have e:dueS pf sp x=dueI pf (sp.drop (x.i+1)) x.a x.b x.s:=rfl
  rw [e]
  omega
def GoodT (pf:Int→Int→Int→Int→Int) (sp:List (Int × Int)) (Tb:List Int) (j:Nat):Prop:=∀ (i:Nat) (x:Stt),i<j→(sts sp).reverse[i]? = some x→Tb.getD (x.ix sp) 0=dueS pf sp x
theorem rs_ok {sp:List (Int × Int)} {j:Nat} {x:Stt} (hx:(sts sp).reverse[j]? = some x):x.Ok sp:=mem_sts.1 (List.mem_reverse.1 (List.mem_of_getElem? hx))
theorem rs_lt {sp:List (Int × Int)} (hn:Narrow sp) {i j:Nat} {x y:Stt} (hij:i<j) (hx:(sts sp).reverse[i]? = some x) (hy:(sts sp).reverse[j]? = some y):y.ix sp<x.ix sp:=by
  have hp:(sts sp).reverse.Pairwise fun x y=>y.ix sp<x.ix sp:=List.pairwise_reverse.2 (sts_sorted hn)
  obtain ⟨hi,rfl⟩:=List.getElem?_eq_some_iff.1 hx
  obtain ⟨hj,rfl⟩:=List.getElem?_eq_some_iff.1 hy
  exact List.pairwise_iff_getElem.1 hp i j hi hj hij
theorem good_next {pf:Int→Int→Int→Int→Int} {sp:List (Int × Int)} (hsp:SpotsOK sp) {Tb:List Int} {j:Nat} (hg:GoodT pf sp Tb j) {x:Stt} (hx:(sts sp).reverse[j]? = some x) (c:Int) (hi:x.i+1<sp.length) (h1:(spot sp (x.i+1)).1≤c) (h2:c≤(spot sp (x.i+1)).2) :
    Tb.getD ((nxt x c).ix sp) 0=dueS pf sp (nxt x c):=by
  have hok:=rs_ok hx
  have hy:=xIv hok hi ⟨h1,h2⟩
  have lx:=hok.lt hsp.narrow
  have ly:=hy.lt hsp.narrow
  have hyi:(nxt x c).i=x.i+1:=rfl
  rw [hyi] at ly
  obtain ⟨i,hi2⟩:=List.getElem?_of_mem (List.mem_reverse.2 (mem_sts.2 hy))
  refine hg i _ ?_ hi2
  rcases Nat.lt_trichotomy i j with h|h|h
  · exact h
  · subst h;rw [hx] at hi2;have e:=Option.some.inj hi2;rw [← e] at ly;omega
  · have:=rs_lt hsp.narrow h hx hi2;omega
theorem good_set {pf:Int→Int→Int→Int→Int} {sp:List (Int × Int)} (hsp:SpotsOK sp) {Tb:List Int} (hTl:Tb.length=(sp.length - 1) * 75) {j:Nat} (hg:GoodT pf sp Tb j) {x:Stt} (hx:(sts sp).reverse[j]? = some x):GoodT pf sp (Tb.set (x.ix sp) (dueS pf sp x)) (j+1):=by
  have lx:=(rs_ok hx).lt hsp.narrow
  intro i y hi hy
  by_cases e:i=j
  · subst e
    rw [hx] at hy;cases hy
    simp [List.getD,List.getElem?_set,hTl,lx.1]
  · have h1:=rs_lt hsp.narrow (show i<j by omega) hy hx
    have h2:=hg i y (by omega) hy
    simp only [List.getD] at h2 ⊢
    rw [List.getElem?_set_ne (by omega)]
    exact h2
theorem bound_set {Tb:List Int} {n:Nat} {v:Int} (hb : ∀ m,-1000000000000000≤Tb.getD m 0∧Tb.getD m 0≤1000000000000000) (hv : -1000000000000000≤v∧v≤1000000000000000) : ∀ m,-1000000000000000≤(Tb.set n v).getD m 0∧(Tb.set n v).getD m 0≤1000000000000000:=fun m=>by
  by_cases e:n=m
  · subst e
    by_cases hl:n<Tb.length
    · simp only [List.getD,List.getElem?_set,if_pos hl,↓reduceIte,Option.getD_some];exact hv
    · simp only [List.getD,List.getElem?_set,if_neg hl,↓reduceIte,Option.getD_none];omega
  · simp only [List.getD]
    rw [List.getElem?_set_ne e]
    exact hb m

theorem stsTo_le {sp:List (Int × Int)} (hsp:SpotsOK sp) : ∀ k,k<sp.length→(stsTo sp k).length≤75 * k
  | 0,_=>by rw [show stsTo sp 0=[] from rfl];simp
  | k+1,hk=>by
    have ih:=stsTo_le hsp k (by omega)
    obtain ⟨_,_,_,h0⟩:=hsp.at (i:=k) (by omega)
    obtain ⟨_,_,_,h1⟩:=hsp.at hk
    have m1:=Nat.mul_le_mul (show (offs (spot sp k)).length≤5 by rw [zMv];omega) (show (offs (spot sp (k+1))).length * 3≤15 by rw [zMv];omega)
    rw [yCx,List.length_append,yYw,Nat.add_sub_cancel]
    omega
theorem xCw {sp:List (Int × Int)} (hsp:SpotsOK sp):(sts sp).length≤1725:=by
  have n2:=hsp.n2
  have n24:=hsp.n24
  have:=stsTo_le hsp (sp.length - 1) (by omega)
  unfold sts
  omega
theorem sts_two {sp:List (Int × Int)} (hsp:SpotsOK sp):3≤(sts sp).length:=by
  have n2:=hsp.n2
  obtain ⟨post,e⟩:=yPy sp (k:=1) (m:=sp.length - 1) (by omega)
  obtain ⟨_,_,h0,_⟩:=hsp.at (i:=0) (by omega)
  obtain ⟨_,_,h1,_⟩:=hsp.at (i:=1) (by omega)
  have m1:=Nat.mul_le_mul (show 1≤(offs (spot sp 0)).length by rw [zMv];omega) (show 1 * 3≤(offs (spot sp 1)).length * 3 by rw [zMv];omega)
  have e2:(stsTo sp 1).length=(offs (spot sp 0)).length * ((offs (spot sp 1)).length * 3):=by rw [yCx,List.length_append,yYw];rw [show stsTo sp 0=[] from rfl];simp
  unfold sts
  rw [e,List.length_append]
  omega
theorem sts_pos {sp:List (Int × Int)} (hsp:SpotsOK sp):0<(sts sp).length:=by have:=sts_two hsp;omega

theorem due {byv:AV} {pf:Int→Int→Int→Int→Int} (S:StepOK byv pf) (sp:List (Int × Int)) (hsp:SpotsOK sp) (a:AV) (turn:Int) (h:H) (wf:Wf h) (ht:TabF h) (hs:Sl h a 2 sp.length (zLy sp)) :
    WV ((om Tryd.prog KK).call (.fn 39 [.agg [a,ii turn],byv]) h) fun v h'=>∃ (L:List AO) (k:Nat) (Tb:List Int),v=prv a turn (nx h k) (sp.length - 1)∧h'=X h L h.w∧L[k]? = some (.cells (zAy (Tb.map ii)) 112)∧Tb.length=(sp.length - 1) * 75 ∧
      (∀ m,-1000000000000000≤Tb.getD m 0∧Tb.getD m 0≤1000000000000000) ∧ ∀ x:Stt,x.Ok sp→Tb.getD (x.ix sp) 0=dueS pf sp x:=by
  have n2:=hsp.n2
  have n24:=hsp.n24
  have hby:=S.flat
  have ha1:oneB a=true∧AV.cells a=[a]:=by obtain ⟨_,⟨rfl,_⟩|⟨_,_,_,_,_,_,rfl,_⟩⟩:=hs <;> exact ⟨rfl,rfl⟩
  refine zKv (fn:=Tryd.f39) Tryd.func39 rfl rfl rfl rfl rfl ?_
  simp only [zKx]
  generalize ho0:(AO.cells (zAy [a,ii turn]) 64)=o0
  generalize ho1:(AO.cells (zAy [.nils,.int .i64 0,.nils]) 67)=o1
  obtain ⟨v,h',e1,M,rfl,rfl,hM⟩:=unpriced sp hsp a turn (X h [o0,o1] h.clock) (wf.X (by omega)) (ht.up wf _ _) (hs.up wf _ _)
  have hML:=zHv hM
  rw [X_X,nx_X,X_w] at e1
  simp only [List.length_cons,List.length_nil,Nat.reduceAdd,List.cons_append,List.nil_append] at e1
  subst ho0
  subst ho1
  unfold prv at e1
  have e2:=states a turn h wf (.cells (zAy [a,ii turn]) 64 :: .cells (zAy [.nils,.int .i64 0,.nils]) 67 :: (M++[.cells (zAy [a,ii turn,.sl (nx h 6) 0 (sp.length - 1) (some (sp.length - 1)) 75]) 67])) h.clock (by omega)
  simp only [List.length_cons,List.length_append,List.length_nil,List.cons_append,List.append_assoc,List.nil_append,Nat.zero_add] at e2
  have hwl:h.clock≤h.clock+(.cells (zAy [a,ii turn]) 64 :: .cells (zAy [.nils,.int .i64 0,.nils]) 67 :: (M++[.cells (zAy [a,ii turn,.sl (nx h 6) 0 (sp.length - 1) (some (sp.length - 1)) 75]) 67,.cells (zAy [a,ii turn]) 64]):List AO).length:=by omega
  obtain ⟨M2,k2,e3,hk2⟩:=collect (ys:=sts sp) (states1 (t:=71) (by decide) (nx h (M.length+1+1+1)) a turn sp (by omega) hsp.ok) (by
      have hle:=xCw hsp;omega) (sts_pos hsp) (X h (.cells (zAy [a,ii turn]) 64 :: .cells (zAy [.nils,.int .i64 0,.nils]) 67 :: (M++[.cells (zAy [a,ii turn,.sl (nx h 6) 0 (sp.length - 1) (some (sp.length - 1)) 75]) 67,.cells (zAy [a,ii turn]) 64])) h.clock) (wf.X hwl) (fun L w hw=>by
    rw [X_X]
    refine DrIn.of wf (k:=M.length+1+1+1) ?_ ?_ hs
    · simp only [zQz,List.length_cons,List.length_append,List.length_nil] at hw ⊢;omega
    · simp only [List.cons_append,List.append_assoc,List.nil_append,List.getElem?_cons_succ,zLv,List.getElem?_cons_zero])
  rw [X_X,nx_X,X_w] at e3
  simp only [List.length_cons,List.length_append,List.length_nil,List.cons_append,List.append_assoc,List.nil_append,Nat.zero_add] at e3
  have hk2l:=zHv hk2
  have e4:=turned (sts sp) ⟨by have:=sts_two hsp;omega,by have:=xCw hsp;omega⟩ h wf (.cells (zAy [a,ii turn]) 64 :: .cells (zAy [.nils,.int .i64 0,.nils]) 67 :: (M ++ .cells (zAy [a,ii turn,.sl (nx h 6) 0 (sp.length - 1) (some (sp.length - 1)) 75]) 67 :: .cells (zAy [a,ii turn]) 64 :: M2)) (M.length+2+1+1+k2) h.clock (by
    rw [show M.length+2+1+1+k2=M.length+(k2+1+1)+1+1 from by omega]
    simp only [List.getElem?_cons_succ,zLv,hk2]) (by omega)
  simp only [List.length_cons,List.length_append,List.length_nil,List.cons_append,List.append_assoc,List.nil_append,Nat.zero_add] at e4
  (repeat' (first
  | (with_reducible first|refine zJz ?_|refine zGw ?_|refine zEw ?_|refine zEx ?_|refine zEv ?_|refine zJy ?_|refine zGv ?_|refine zBw ?_|refine zDx ?_|refine zBv ?_|refine zCx ?_|refine zEz ?_|refine zCw ?_|refine zCz ?_|refine zBz ?_|refine zDv ?_|refine zDy ?_|refine zAx ?_|refine zAv ?_)
  | refine zCv ?_|refine zEy rfl ?_|refine zIx ?_|refine zIv ?_
  | ((first|refine zGx rfl rfl rfl rfl rfl fun K_ hK_=>?_|refine zGy rfl rfl rfl rfl rfl fun K_ hK_=>?_);simp only [zAz,zDz,zFw,↓reduceIte,reduceCtorEq,Nat.reduceEqDiff,Bool.not_true,Bool.not_false];refine hK_ _ ?_;clear hK_ K_)
  | refine zDw (by decide) ?_
  | ((try first|refine zJx rfl rfl rfl ?_|refine zIy rfl rfl ?_|refine zJw rfl rfl rfl ?_|refine zIw rfl rfl ?_);(refine zIz fun Q_ hQ_=>?_;simp (disch:=first|omega|(simp only [List.length_cons,List.length_nil,List.length_append];omega)) only [bb,bp,zKx,↓reduceIte,reduceCtorEq,Nat.reduceEqDiff,Nat.reduceLT,Nat.reduceLeDiff,Nat.reduceAdd,Nat.reduceMul,Nat.reduceSub,Nat.reduceBEq,Int.reduceToNat,cond_true,cond_false,eq_self,beq_self_eq_true,e1,e2,e3,e4,len_81,ha1.1,ha1.2,zHz wf,zHx wf,zFz wf,zHy wf,zBx wf,zFy,tEvT13,zHw,zKw,zAw wf];first|(refine zCy (Q:=Q_) (fun hp_=>?_) (fun hp_=>?_) <;> first|(exfalso;omega)|(refine hQ_ _ _ ?_;clear hQ_ Q_))|(refine zBy (Q:=Q_) (fun hp_=>?_) (fun hp_=>?_) <;> first|(exfalso;omega)|(refine hQ_ _ _ ?_;clear hQ_ Q_))|(refine hQ_ _ _ ?_;clear hQ_ Q_)))
  | (refine zFv fun K_ hK_=>?_;simp (disch:=omega) only [zFx,zAz,zGz,↓reduceIte,reduceCtorEq,Nat.reduceEqDiff,Nat.reduceLT];refine hK_ _ ?_;clear hK_ K_)))
  have hNb:=xCw hsp
  generalize hN:(sts sp).length=N at *
  have hNr:(sts sp).reverse.length=N:=by rw [List.length_reverse,hN]
  refine zTv (fun (j:Nat) f d h'=>j≤N∧f 1=byv∧f 4 = .ptr (nx h 1) 0∧f 5 = .ptr (nx h (M.length+1+1)) 0∧f 15 = .sl (nx h (M.length+(M2.length+1+1)+1+1)) 0 N none 4∧f 16=ii (N:Int)∧f 17=ii (j:Int)∧d=[] ∧
    ∃ (L:List AO) (Tb:List Int) (w:Nat),h'=X h L w∧L[1]? = some (.cells (zAy [.nils,.int .i64 0,.nils]) 67)∧L[6]? = some (.cells (zAy (Tb.map ii)) 112)∧L[M.length+1+1]? = some (.cells (zAy [a,ii turn,.sl (nx h 6) 0 (sp.length - 1) (some (sp.length - 1)) 75]) 67)∧L[M.length+(M2.length+1+1)+1+1]? = some (.cells (zAy (cellsL (sts sp).reverse)) 71)∧Tb.length=(sp.length - 1) * 75 ∧
      (∀ m,-1000000000000000≤Tb.getD m 0∧Tb.getD m 0≤1000000000000000)∧GoodT pf sp Tb j∧h.clock≤w∧w≤h.clock+L.length) (fun j=>N - j) ?_ (N+1) 0 (by omega) ?_
  · clear e1 e2 e3 e4 hM hwl hk2
    rintro j f d h' ⟨hj,g1,g4,g5,g15,g16,g17,rfl,L,Tb,w,rfl,hL1,hL6,hL5,hLt,hTl,hTb,hgd,hw1,hw2⟩
    by_cases hlt:j<N
    · obtain ⟨x,hx⟩ : ∃ x,(sts sp).reverse[j]? = some x:=⟨_,List.getElem?_eq_getElem (by omega)⟩
      have hok:=rs_ok hx
      have hix:=ix_81 (h:=h) (k:=M.length+(M2.length+1+1)+1+1) (c:=none) hlt
      have hldx : ∀ (G:List AO) w,loadAgg (nx h (M.length+(M2.length+1+1)+1+1)) (j * 4) (some 4) (X h (L++G) w)=some (.agg (cellsS x)):=fun G w=>by
        rw [zFz wf,List.getElem?_append_left (zHv hLt),hLt,zPv (by decide),if_pos (by rw [yLw,hNr];omega)]
        unfold cellsL
        rw [yQw (m:=4) _ (fun _ _=>rfl) j x hx]
      have hldx0:=fun w=>hldx [] w
      simp only [List.append_nil] at hldx0
      have hld5 : ∀ (G:List AO) w,loadAgg (nx h (M.length+1+1)) 0 (some 3) (X h (L++G) w)=some (.agg [a,ii turn,.sl (nx h 6) 0 (sp.length - 1) (some (sp.length - 1)) 75]):=fun G w=>by
        rw [zFz wf,List.getElem?_append_left (zHv hL5),hL5]
        rw [zPv (by decide)];rfl
      have hon : ∀ (o:AO) w,w≤h.clock+(L.length+1)→(om Tryd.prog KK).call (.fn 45 [prv a turn (nx h 6) (sp.length - 1),stv x,byv]) (X h (L++[o]) w) = .ok (.tup [ii (onwS pf sp x).1,ii (onwS pf sp x).2]) (X h (L++[o]) w):=fun o w hw=>
        onward S sp hsp a turn (nx h 6) Tb hTl hTb x hok (fun c hi h1 h2=>good_next hsp hgd hx c hi h1 h2) _ (wf.X (by simp only [List.length_append,List.length_cons,List.length_nil];omega)) (hs.up wf _ _) (TabIn.of wf (by rw [List.getElem?_append_left (zHv hL6)];exact hL6))
      have hdx:=dueS_in S hsp hok
      have hput : ∀ (o:AO) w,w≤h.clock+(L.length+1) → ∃ b1 b2,(om Tryd.prog KK).call (.fn 66 [prv a turn (nx h 6) (sp.length - 1),stv x,ii (onwS pf sp x).2]) (X h (L++[o]) w) = .ok (.tup []) (X h (L.set 6 (.cells (zAy ((Tb.set (x.ix sp) (dueS pf sp x)).map ii)) 112)++[o,b1,b2]) (min w (h.clock+6))):=fun o w hw=>by
        obtain ⟨b1,b2,e⟩:=put_ sp hsp a turn Tb hTl x hok (onwS pf sp x).2 h wf hs (L++[o]) 6 w (by rw [List.getElem?_append_left (zHv hL6)];exact hL6) (by simp only [List.length_append,List.length_cons,List.length_nil];omega)
        refine ⟨b1,b2,?_⟩
        rw [e,List.set_append_left _ _ (zHv hL6),List.append_assoc];rfl
      obtain ⟨b1,b2,hpt⟩:=hput (.cells (zAy (cellsS x)) 71) w (by omega)
      unfold prv stv at hon hpt
      unfold cellsS at hldx hldx0 hpt
      have hmw:min (h.clock+L.length) w=w:=by omega
      (repeat' (first
  | (with_reducible first|refine zJz ?_|refine zGw ?_|refine zEw ?_|refine zEx ?_|refine zEv ?_|refine zJy ?_|refine zGv ?_|refine zBw ?_|refine zDx ?_|refine zBv ?_|refine zCx ?_|refine zEz ?_|refine zCw ?_|refine zCz ?_|refine zBz ?_|refine zDv ?_|refine zDy ?_|refine zAx ?_|refine zAv ?_)
  | refine zCv ?_|refine zEy rfl ?_|refine zIx ?_|refine zIv ?_
  | ((first|refine zGx rfl rfl rfl rfl rfl fun K_ hK_=>?_|refine zGy rfl rfl rfl rfl rfl fun K_ hK_=>?_);simp only [zAz,zDz,zFw,↓reduceIte,reduceCtorEq,Nat.reduceEqDiff,Bool.not_true,Bool.not_false];refine hK_ _ ?_;clear hK_ K_)
  | refine zDw (by decide) ?_
  | ((try first|refine zJx rfl rfl rfl ?_|refine zIy rfl rfl ?_|refine zJw rfl rfl rfl ?_|refine zIw rfl rfl ?_);(refine zIz fun Q_ hQ_=>?_;simp (disch:=first|omega|(simp only [List.length_cons,List.length_nil,List.length_append];omega)) only [bb,bp,zKx,↓reduceIte,reduceCtorEq,Nat.reduceEqDiff,Nat.reduceLT,Nat.reduceLeDiff,Nat.reduceAdd,Nat.reduceMul,Nat.reduceSub,Nat.reduceBEq,Int.reduceToNat,cond_true,cond_false,eq_self,beq_self_eq_true,g1,g4,g5,g15,g16,g17,hix,hldx,hldx0,hld5,hon,hmw,hpt,zHz wf,zHx wf,zFz wf,zHy wf,zBx wf,zFy,tEvT13,zHw,zKw,zAw wf];first|(refine zCy (Q:=Q_) (fun hp_=>?_) (fun hp_=>?_) <;> first|(exfalso;omega)|(refine hQ_ _ _ ?_;clear hQ_ Q_))|(refine zBy (Q:=Q_) (fun hp_=>?_) (fun hp_=>?_) <;> first|(exfalso;omega)|(refine hQ_ _ _ ?_;clear hQ_ Q_))|(refine hQ_ _ _ ?_;clear hQ_ Q_)))
  | (refine zFv fun K_ hK_=>?_;simp (disch:=omega) only [zFx,zAz,zGz,↓reduceIte,reduceCtorEq,Nat.reduceEqDiff,Nat.reduceLT];refine hK_ _ ?_;clear hK_ K_)))
      refine zKy (j+1) (by omega) ⟨hlt,by simp only [zAz,↓reduceIte,reduceCtorEq,Nat.reduceEqDiff];exact g1,by simp only [zAz,↓reduceIte,reduceCtorEq,Nat.reduceEqDiff];exact g4,by simp only [zAz,↓reduceIte,reduceCtorEq,Nat.reduceEqDiff];exact g5,by simp only [zAz,↓reduceIte,reduceCtorEq,Nat.reduceEqDiff];exact g15,by simp only [zAz,↓reduceIte,reduceCtorEq,Nat.reduceEqDiff];exact g16,by simp only [zAz,↓reduceIte,reduceCtorEq,Nat.reduceEqDiff];rfl,rfl,_,Tb.set (x.ix sp) (dueS pf sp x),_,rfl,?_,?_,?_,?_,?_,?_,good_set hsp hTl hgd hx,by omega,by simp only [List.length_append,List.length_set,List.length_cons,List.length_nil];omega⟩
      · rw [List.getElem?_append_left (by rw [List.length_set];exact zHv hL1),List.getElem?_set_ne (by decide),hL1]
      · rw [List.getElem?_append_left (by rw [List.length_set];exact zHv hL6),List.getElem?_set_self (zHv hL6)]
      · rw [List.getElem?_append_left (by rw [List.length_set];exact zHv hL5),List.getElem?_set_ne (by omega),hL5]
      · rw [List.getElem?_append_left (by rw [List.length_set];exact zHv hLt),List.getElem?_set_ne (by omega),hLt]
      · rw [List.length_set,hTl]
      · exact bound_set hTb ⟨by omega,by omega⟩
    · have hje:j=N:=by omega
      subst hje
      have hld5 : ∀ w,loadAgg (nx h (M.length+1+1)) 0 (some 3) (X h L w)=some (.agg [a,ii turn,.sl (nx h 6) 0 (sp.length - 1) (some (sp.length - 1)) 75]):=fun w=>by
        rw [zFz wf,hL5]
        rw [zPv (by decide)];rfl
      have hst : ∀ w,writeCells (nx h 1) 0 [a,ii turn,.sl (nx h 6) 0 (sp.length - 1) (some (sp.length - 1)) 75] (X h L w)=some (X h (L.set 1 (.cells (zAy [a,ii turn,.sl (nx h 6) 0 (sp.length - 1) (some (sp.length - 1)) 75]) 67)) (min (h.clock+1) w)):=fun w=>by
        rw [zBx wf,hL1,zUx]
        simp only [zZy,yUz,ha1.1,xOz,oneB_sl]
        rfl
      (repeat' (first
  | (with_reducible first|refine zJz ?_|refine zGw ?_|refine zEw ?_|refine zEx ?_|refine zEv ?_|refine zJy ?_|refine zGv ?_|refine zBw ?_|refine zDx ?_|refine zBv ?_|refine zCx ?_|refine zEz ?_|refine zCw ?_|refine zCz ?_|refine zBz ?_|refine zDv ?_|refine zDy ?_|refine zAx ?_|refine zAv ?_)
  | refine zCv ?_|refine zEy rfl ?_|refine zIx ?_|refine zIv ?_
  | ((first|refine zGx rfl rfl rfl rfl rfl fun K_ hK_=>?_|refine zGy rfl rfl rfl rfl rfl fun K_ hK_=>?_);simp only [zAz,zDz,zFw,↓reduceIte,reduceCtorEq,Nat.reduceEqDiff,Bool.not_true,Bool.not_false];refine hK_ _ ?_;clear hK_ K_)
  | refine zDw (by decide) ?_
  | ((try first|refine zJx rfl rfl rfl ?_|refine zIy rfl rfl ?_|refine zJw rfl rfl rfl ?_|refine zIw rfl rfl ?_);(refine zIz fun Q_ hQ_=>?_;simp (disch:=first|omega|(simp only [List.length_cons,List.length_nil,List.length_append];omega)) only [bb,bp,zKx,↓reduceIte,reduceCtorEq,Nat.reduceEqDiff,Nat.reduceLT,Nat.reduceLeDiff,Nat.reduceAdd,Nat.reduceMul,Nat.reduceSub,Nat.reduceBEq,Int.reduceToNat,cond_true,cond_false,eq_self,beq_self_eq_true,g1,g4,g5,g15,g16,g17,hld5,hst,ha1.1,ha1.2,zHz wf,tEvT13,zHw,zKw,zAw wf];first|(refine zCy (Q:=Q_) (fun hp_=>?_) (fun hp_=>?_) <;> first|(exfalso;omega)|(refine hQ_ _ _ ?_;clear hQ_ Q_))|(refine zBy (Q:=Q_) (fun hp_=>?_) (fun hp_=>?_) <;> first|(exfalso;omega)|(refine hQ_ _ _ ?_;clear hQ_ Q_))|(refine hQ_ _ _ ?_;clear hQ_ Q_)))
  | (refine zFv fun K_ hK_=>?_;simp (disch:=omega) only [zFx,zAz,zGz,↓reduceIte,reduceCtorEq,Nat.reduceEqDiff,Nat.reduceLT];refine hK_ _ ?_;clear hK_ K_)))
      have hld1 : ∀ w,loadAgg (nx h 1) 0 (some 3) (X h (L.set 1 (.cells (zAy [a,ii turn,.sl (nx h 6) 0 (sp.length - 1) (some (sp.length - 1)) 75]) 67)) w)=some (.agg [a,ii turn,.sl (nx h 6) 0 (sp.length - 1) (some (sp.length - 1)) 75]):=fun w=>by
        rw [zFz wf,List.getElem?_set_self (zHv hL1)]
        rw [zPv (by decide)];rfl
      refine zJv _ _ rfl (retc0 (by decide) (by simp (disch:=first|omega|(simp only [List.length_cons,List.length_nil,List.length_append];omega)) only [bb,bp,zKx,↓reduceIte,reduceCtorEq,Nat.reduceEqDiff,Nat.reduceLT,Nat.reduceLeDiff,Nat.reduceAdd,Nat.reduceMul,Nat.reduceSub,Nat.reduceBEq,Int.reduceToNat,cond_true,cond_false,eq_self,beq_self_eq_true,g4,hld1,tEvT13,zHw,zKw,zAw wf];rfl)) ?_
      refine yCz (by
        show (_ && flat (prv a turn _ _))=false
        rw [flat_prv hs];exact Bool.and_false _) ?_
      have hmin : ∀ w',h.clock≤w'→min h.w w'=h.w:=fun w' h'=>by have:=wf.wle;omega
      rw [hmin _ (by omega)]
      refine ⟨_,6,Tb,rfl,rfl,?_,hTl,hTb,fun x hx=>?_⟩
      · rw [List.getElem?_set_ne (by decide),hL6]
      · obtain ⟨i,hi⟩:=List.getElem?_of_mem (List.mem_reverse.2 (mem_sts.2 hx))
        exact hgd i x (by have:=zHv hi;omega) hi
  · have hFF : ∀ m,-1000000000000000≤(List.replicate ((sp.length - 1) * 75) (1099511627776:Int)).getD m 0∧(List.replicate ((sp.length - 1) * 75) (1099511627776:Int)).getD m 0≤1000000000000000:=fun m=>by
      simp only [List.getD,List.getElem?_replicate]
      split <;> simp
    refine ⟨Nat.zero_le _,by simp only [zAz,↓reduceIte,reduceCtorEq,Nat.reduceEqDiff],by simp only [zAz,↓reduceIte,reduceCtorEq,Nat.reduceEqDiff],by simp only [zAz,↓reduceIte,reduceCtorEq,Nat.reduceEqDiff],by simp only [zAz,↓reduceIte,reduceCtorEq,Nat.reduceEqDiff],by simp only [zAz,↓reduceIte,reduceCtorEq,Nat.reduceEqDiff],by simp only [zAz,↓reduceIte,reduceCtorEq,Nat.reduceEqDiff];rfl,rfl,_,List.replicate ((sp.length - 1) * 75) 1099511627776,_,rfl,rfl,?_,?_,?_,by rw [List.length_replicate],hFF,fun i x hi=>absurd hi (Nat.not_lt_zero _),Nat.le_refl _,by omega⟩
    · rw [List.map_replicate]
      simp only [List.getElem?_cons_succ]
      rw [List.getElem?_append_left hML,hM]
      rfl
    · simp only [List.getElem?_cons_succ,zPx,List.getElem?_cons_zero]
    · simp only [List.getElem?_cons_succ,zLv,zPx,List.getElem?_cons_zero]
end Go.Proofs.YtkmdidplmfdikaaDoor
end

section
namespace Go.Proofs.YtkmdidplmfdikaaDoor
open Go.Ev
set_option maxRecDepth 100000
set_option linter.unusedSimpArgs false
set_option linter.unusedVariables false
set_option maxHeartbeats 2000000

def bestC (o:Option (Stt × Int)):List AV:=match o with|none=>[.int .i64 0,.int .i64 0,.int .i64 0,.int .i64 0]|some p=>cellsS p.1
def lowC (o:Option (Stt × Int)):Int:=match o with|none=>0|some p=>p.2
end Go.Proofs.YtkmdidplmfdikaaDoor
end

section
namespace Go.Ev
section
variable {P:Program}
def LineV (h:H) (L:List AO) (e:TypeId) (lv:AV) (cs:List AV):Prop:=∃ idx c,lv = .sl (nx h idx) 0 cs.length c 1∧L[idx]? = some (.cells (zAy cs) e)∧(c=none∨c=some cs.length)
theorem LineV.flat {h:H} {L:List AO} {e:TypeId} {lv:AV} {cs:List AV} (x:LineV h L e lv cs):AV.cells lv=[lv]∧oneB lv=true:=by obtain ⟨_,_,rfl,_⟩:=x;exact ⟨rfl,rfl⟩
theorem LineV.resz {h:H} {L:List AO} {e:TypeId} {lv:AV} {cs:List AV} (x:LineV h L e lv cs) {t:TypeId} (hu:P.underlying t=some (.slice e)) (hz:sizeE P e=some 1):reszT P t lv=lv:=by
  obtain ⟨_,c,rfl,_,hc⟩:=x
  cases c with
  | none=>exact yFy
  | some c=>exact yBy hu hz
theorem LineV.sl {h:H} (wf:Wf h) {L:List AO} {e:TypeId} {lv:AV} {cs:List AV} (x:LineV h L e lv cs) (w:Nat):Sl (X h L w) lv 1 cs.length cs:=by
  obtain ⟨idx,c,rfl,hk,hc⟩:=x
  exact Sl.new wf (by rw [Nat.mul_one]) hk
end
end Go.Ev
namespace Go.Ev
theorem LineV.keep {h:H} {L L':List AO} {e:TypeId} {lv:AV} {cs:List AV} (x:LineV h L e lv cs) (k:Keep e L L'):LineV h L' e lv cs:=by
  obtain ⟨idx,c,rfl,hk,hc⟩:=x
  exact ⟨idx,c,rfl,k _ _ hk,hc⟩
end Go.Ev
namespace Go.Ev
theorem LineV.chg {h:H} {L L':List AO} {e t:TypeId} {lv:AV} {cs:List AV} (x:LineV h L e lv cs) (k:Chg t L L') (hne:e≠t):LineV h L' e lv cs:=by
  obtain ⟨idx,c,rfl,hk,hc⟩:=x
  exact ⟨idx,c,rfl,k.2 _ _ hk (zUy hne),hc⟩
theorem LineV.down {h:H} {G M:List AO} {w:Nat} {e:TypeId} {lv:AV} {cs:List AV} (x:LineV (X h G w) M e lv cs):LineV h (G++M) e lv cs:=by
  obtain ⟨idx,c,rfl,hk,hc⟩:=x
  exact ⟨G.length+idx,c,by rw [nx_X],by rw [List.getElem?_append_right (by omega),Nat.add_sub_cancel_left];exact hk,hc⟩
theorem LineV.src {h:H} (wf:Wf h) {L:List AO} {e:TypeId} {lv:AV} {cs:List AV} (x:LineV h L e lv cs) (w:Nat):srcCells (X h L w) 1 lv=some (cs.length,cs):=by
  obtain ⟨idx,c,rfl,hk,hc⟩:=x
  exact yPv (e:=e) wf hk (by rw [Nat.mul_one])
def LV (h:H) (G:List AO) (vs:List AV) (ls:List (List Int)):Prop:=vs.length=ls.length ∧ ∀ (i:Nat) (u:AV) (l:List Int),vs[i]? = some u→ls[i]? = some l→LineV h G 2 u (l.map fun n=>.int .i64 n)
theorem LV.nil (h:H) (G:List AO):LV h G [] []:=⟨rfl,fun i u l h1 _=>by simp at h1⟩
theorem LV.append {h:H} {G:List AO} {vs us:List AV} {ls ms:List (List Int)} (x:LV h G vs ls) (y:LV h G us ms):LV h G (vs++us) (ls++ms):=by
  refine ⟨by rw [List.length_append,List.length_append,x.1,y.1],fun i u l h1 h2=>?_⟩
  rcases Nat.lt_or_ge i vs.length with hi|hi
  · rw [List.getElem?_append_left hi] at h1
    rw [List.getElem?_append_left (by rw [← x.1];exact hi)] at h2
    exact x.2 i u l h1 h2
  · rw [List.getElem?_append_right hi] at h1
    rw [List.getElem?_append_right (by rw [← x.1];exact hi),← x.1] at h2
    exact y.2 _ u l h1 h2
theorem LV.all {h:H} {G:List AO} {vs:List AV} {ls:List (List Int)} (x:LV h G vs ls):allOne vs=true:=by
  have key : ∀ vs:List AV,(∀ u ∈ vs,oneB u=true)→allOne vs=true:=by
    intro vs
    induction vs with
    | nil=>intro _;rfl
    | cons u vs ih=>intro hu;rw [zZy,hu u (by simp),ih fun w hw=>hu w (by simp [hw])];rfl
  refine key vs fun u hu=>?_
  obtain ⟨i,hi⟩:=List.getElem?_of_mem hu
  have hl:=zHv hi
  exact (x.2 i u _ hi (List.getElem?_eq_getElem (by rw [← x.1];exact hl))).flat.2
theorem LV.mono {h:H} {G G':List AO} {vs:List AV} {ls:List (List Int)} (x:LV h G vs ls) (k : ∀ u cs,LineV h G 2 u cs→LineV h G' 2 u cs):LV h G' vs ls:=⟨x.1,fun i u l h1 h2=>k _ _ (x.2 i u l h1 h2)⟩
theorem LineV.more {h:H} {L:List AO} {e:TypeId} {lv:AV} {cs:List AV} (x:LineV h L e lv cs) (M:List AO):LineV h (L++M) e lv cs:=x.keep (Keep.more _ _)
end Go.Ev
namespace Go.Ev
theorem barOk_app1 {f:TF} {a b t:Nat} {ats:Array TypeId} {p q:Pos} {off len esz off':Nat} {cap:Option Nat} (ha:f a = .sl p off len cap esz) (ht:f t = .ptr q off') (hne:q≠p) (ha':a<384) (hb':b<384) (ht':t<384) :
    barOk (.soft [t]) (mkM f) (.call ⟨.builtin .append,#[.tmp a,.tmp b],ats⟩)=true:=by
  show (match evL (mkM f) [.tmp a,.tmp b] with|some [.sl id _ _ _ _,_]=>apartFrom (mkM f) id [t]|_=>false)=true
  rw [xAv,zFx ha',xAv,zFx hb',evL_nil,ha]
  show (match (mkM f).get t with|some u=>(match asPtr u with|some (id',_)=>bif decide (id'=p) then false else true|none=>false)|none=>false)=true
  rw [get_tmp ht',ht]
  show (bif decide (q=p) then false else true)=true
  rw [decide_eq_false hne];rfl
end Go.Ev
end

section
namespace Go.Proofs.YtkmdidplmfdikaaDoor
open Go.Ev
set_option maxRecDepth 100000
set_option linter.unusedSimpArgs false
set_option linter.unusedVariables false
set_option maxHeartbeats 2000000

theorem xRv {sp:List (Int × Int)} (hsp:SpotsOK sp) {y:Stt} (hy:y ∈ startsL sp):y.Ok sp:=by
  have n2:=hsp.n2
  unfold startsL at hy
  obtain ⟨p,hp,rfl⟩:=List.mem_map.1 hy
  obtain ⟨h1,h2⟩:=mem_pairs2.1 hp
  exact ⟨⟨Nat.le_refl _,by show 1<sp.length;omega⟩,h1,h2,by show 0<3;decide⟩
end Go.Proofs.YtkmdidplmfdikaaDoor
end

section
namespace Go.Ev
def linesR :List (Int × Int)→List Int→List (List Int)
  | [],bs=>[bs]
  | r :: R,bs=>(offs r).flatMap fun y=>linesR R (bs++[y])
theorem yDz : ∀ {R:List (Int × Int)} {bs l:List Int},l ∈ linesR R bs ↔ ∃ cs,InR R cs∧l=bs++cs
  | [],bs,l=>by
    unfold linesR InR
    simp
  | r :: R,bs,l=>by
    unfold linesR
    rw [List.mem_flatMap]
    constructor
    · rintro ⟨y,hy,hl⟩
      obtain ⟨cs,h1,h2⟩:=yDz.1 hl
      obtain ⟨y1,y2⟩:=zWy.1 hy
      exact ⟨y :: cs,⟨y,cs,rfl,y1,y2,h1⟩,by rw [h2,List.append_assoc];rfl⟩
    · rintro ⟨_,⟨y,cs,rfl,y1,y2,h1⟩,h2⟩
      exact ⟨y,zWy.2 ⟨y1,y2⟩,yDz.2 ⟨cs,h1,by rw [h2,List.append_assoc];rfl⟩⟩
def manyL :List (Int × Int)→Nat
  | []=>1
  | r :: R=>(offs r).length * manyL R
theorem yFv : ∀ (R:List (Int × Int)) (bs:List Int),(linesR R bs).length=manyL R
  | [],_=>rfl
  | r :: R,bs=>by
    unfold linesR manyL
    exact zXw _ fun y _=>yFv R _
theorem xUv : ∀ {R:List (Int × Int)},Spots R→0<manyL R
  | [],_=>by decide
  | r :: R,h=>Nat.mul_pos (by rw [zMv];have:=h r (by simp);omega) (xUv fun r hr=>h r (by simp [hr]))
end Go.Ev
end

section
namespace Go.Proofs.YtkmdidplmfdikaaDoor
open Go.Ev
set_option maxRecDepth 100000
set_option linter.unusedSimpArgs false
set_option linter.unusedVariables false
set_option maxHeartbeats 4000000

theorem tEvU1 :type_of% (And.intro (And.intro (And.intro (And.intro (@zSv) (And.intro (@ia_2) (@sz_2))) (And.intro (@ia_3) (And.intro (@sz_3) (@zSy)))) (And.intro (And.intro (@zTx) (And.intro (@zRx) (@zSx))) (And.intro (@zSz) (And.intro (@zSw) (@zUz))))) (And.intro (And.intro (And.intro (@wBw) (And.intro (@zMy) (@zMz))) (And.intro (@zLw) (And.intro (@zLx) (@zOv)))) (And.intro (And.intro (@yUx) (And.intro (@pb_38) (@pb_46))) (And.intro (@yZw) (And.intro (@yUv) (@ni_52)))))):=And.intro (And.intro (And.intro (And.intro (@zSv) (And.intro (@ia_2) (@sz_2))) (And.intro (@ia_3) (And.intro (@sz_3) (@zSy)))) (And.intro (And.intro (@zTx) (And.intro (@zRx) (@zSx))) (And.intro (@zSz) (And.intro (@zSw) (@zUz))))) (And.intro (And.intro (And.intro (@wBw) (And.intro (@zMy) (@zMz))) (And.intro (@zLw) (And.intro (@zLx) (@zOv)))) (And.intro (And.intro (@yUx) (And.intro (@pb_38) (@pb_46))) (And.intro (@yZw) (And.intro (@yUv) (@ni_52)))))
def manyS (n:Int) (r:Int × Int):Int:=min 1000000 (n * (r.2 - r.1+1))
def manyM (sp:List (Int × Int)):Int:=sp.foldl manyS 1
theorem xOy {n:Int} {r:Int × Int} (hn:1≤n∧n≤1000000) (hr:SpotOK r):1≤manyS n r∧manyS n r≤1000000∧n * (r.2 - r.1+1)≤5000000∧n≤n * (r.2 - r.1+1):=by
  obtain ⟨_,_,h3,h4⟩:=hr
  have h1:n * 1≤n * (r.2 - r.1+1):=Int.mul_le_mul_of_nonneg_left (by omega) (by omega)
  have h2:n * (r.2 - r.1+1)≤1000000 * 5:=Int.mul_le_mul hn.2 (by omega) (by omega) (by omega)
  unfold manyS
  omega
theorem many_ge : ∀ (R:List (Int × Int)) (n:Int),(∀ r ∈ R,SpotOK r)→1≤n∧n≤1000000→n≤R.foldl manyS n
  | [],n,_,_=>Int.le_refl _
  | r :: R,n,hR,hn=>by
    have h1:=xOy hn (hR r (by simp))
    have h2:=many_ge R (manyS n r) (fun r hr=>hR r (by simp [hr])) ⟨h1.1,h1.2.1⟩
    rw [List.foldl_cons]
    have:n≤manyS n r:=by unfold manyS;omega
    omega
theorem many_eq : ∀ (R:List (Int × Int)) (n:Int),(∀ r ∈ R,SpotOK r)→1≤n∧n≤1000000→R.foldl manyS n≤1500→R.foldl manyS n=n * (manyL R:Int)
  | [],n,_,_,_=>by show n=n * 1;omega
  | r :: R,n,hR,hn,hle=>by
    have h1:=xOy hn (hR r (by simp))
    have h2:=many_ge R (manyS n r) (fun r hr=>hR r (by simp [hr])) ⟨h1.1,h1.2.1⟩
    rw [List.foldl_cons] at hle ⊢
    have hu:manyS n r=min 1000000 (n * (r.2 - r.1+1)):=rfl
    have e:manyS n r=n * (r.2 - r.1+1):=by omega
    rw [many_eq R _ (fun r hr=>hR r (by simp [hr])) ⟨h1.1,h1.2.1⟩ hle,e]
    obtain ⟨_,_,h3,_⟩:=hR r (by simp)
    have e2:((manyL (r :: R):Nat):Int)=(r.2 - r.1+1) * (manyL R:Int):=by
      show (((offs r).length * manyL R:Nat):Int)=_
      rw [Int.natCast_mul,zMv,Int.toNat_of_nonneg (by omega)]
    rw [e2,Int.mul_assoc]
theorem manyM_take (sp:List (Int × Int)) (k:Nat) (hk:k<sp.length):manyM (sp.take (k+1))=manyS (manyM (sp.take k)) sp[k]:=by
  unfold manyM
  rw [List.take_succ_eq_append_getElem hk,List.foldl_append];rfl
theorem manyM_in (sp:List (Int × Int)) (hok : ∀ r ∈ sp,SpotOK r) : ∀ k,k≤sp.length→1≤manyM (sp.take k)∧manyM (sp.take k)≤1000000
  | 0,_=>by rw [List.take_zero];show (1:Int)≤1∧(1:Int)≤1000000;omega
  | k+1,hk=>by
    rw [manyM_take sp k (by omega)]
    have:=xOy (manyM_in sp hok k (by omega)) (hok _ (List.getElem_mem (show k<sp.length by omega)))
    exact ⟨this.1,this.2.1⟩
theorem many (sp:List (Int × Int)) (hn:sp.length≤1000000) (hok : ∀ r ∈ sp,SpotOK r) (turn:Int) (a:AV) (h:H) (wf:Wf h) (hs:Sl h a 2 sp.length (zLy sp)) :
    (om Tryd.prog KK).call (.fn 38 [.agg [a,ii turn]]) h = .ok (ii (manyM sp)) h:=by
  refine zWv (zKv (fn:=Tryd.f38) Tryd.func38 rfl rfl rfl rfl rfl ?_)
  simp only [zKx]
  have hlen : ∀ h',lenE Tryd.prog 22 a h'=some (ii (sp.length:Int)):=fun h'=>hs.len yWv
  have ha1:oneB a=true∧AV.cells a=[a]:=by obtain ⟨_,⟨rfl,_⟩|⟨_,_,_,_,_,_,rfl,_⟩⟩:=hs <;> exact ⟨rfl,rfl⟩
  (repeat' (first
  | (with_reducible first|refine zJz ?_|refine zGw ?_|refine zEw ?_|refine zEx ?_|refine zEv ?_|refine zJy ?_|refine zGv ?_|refine zBw ?_|refine zDx ?_|refine zBv ?_|refine zCx ?_|refine zEz ?_|refine zCw ?_|refine zCz ?_|refine zBz ?_|refine zDv ?_|refine zDy ?_|refine zAx ?_|refine zAv ?_)
  | refine zCv ?_|refine zEy rfl ?_|refine zIx ?_|refine zIv ?_
  | ((first|refine zGx rfl rfl rfl rfl rfl fun K_ hK_=>?_|refine zGy rfl rfl rfl rfl rfl fun K_ hK_=>?_);simp only [zAz,zDz,zFw,↓reduceIte,reduceCtorEq,Nat.reduceEqDiff,Bool.not_true,Bool.not_false];refine hK_ _ ?_;clear hK_ K_)
  | refine zDw (by decide) ?_
  | ((try first|refine zJx rfl rfl rfl ?_|refine zIy rfl rfl ?_|refine zJw rfl rfl rfl ?_|refine zIw rfl rfl ?_);(refine zIz fun Q_ hQ_=>?_;simp (disch:=first|omega|(simp only [List.length_cons,List.length_nil,List.length_append];omega)) only [bb,bp,zKx,↓reduceIte,reduceCtorEq,Nat.reduceEqDiff,Nat.reduceLT,Nat.reduceLeDiff,Nat.reduceAdd,Nat.reduceMul,Nat.reduceSub,Nat.reduceBEq,Int.reduceToNat,cond_true,cond_false,eq_self,beq_self_eq_true,hlen,ha1.1,ha1.2,zHz wf,zHx wf,zFz wf,zHy wf,zBx wf,tEvU1,zHw,zRv,zAw wf];first|(refine zCy (Q:=Q_) (fun hp_=>?_) (fun hp_=>?_) <;> first|(exfalso;omega)|(refine hQ_ _ _ ?_;clear hQ_ Q_))|(refine zBy (Q:=Q_) (fun hp_=>?_) (fun hp_=>?_) <;> first|(exfalso;omega)|(refine hQ_ _ _ ?_;clear hQ_ Q_))|(refine hQ_ _ _ ?_;clear hQ_ Q_)))
  | (refine zFv fun K_ hK_=>?_;simp (disch:=omega) only [zFx,zAz,zGz,↓reduceIte,reduceCtorEq,Nat.reduceEqDiff,Nat.reduceLT];refine hK_ _ ?_;clear hK_ K_)))
  refine zTv (fun (k:Nat) f d h'=>k≤sp.length∧f 1 = .ptr (nx h 0) 0∧f 3=ii (manyM (sp.take k))∧f 4=ii (k:Int)∧d=[]∧h'=X h [.cells (zAy [a,ii turn]) 24] h.clock) (fun k=>sp.length - k) ?_ (sp.length+1) 0 (by omega) ?_
  · rintro k f d h' ⟨hk,g1,g3,g4,rfl,rfl⟩
    by_cases hlt:k<sp.length
    · obtain ⟨id0,off0,hix0,hld0⟩:=hs.at wf hlt yLz
      obtain ⟨o1,o2,o3,o4⟩:=hok _ (List.getElem_mem hlt)
      have hlo : ∀ l w,load1 id0 off0 (X h l w)=some (ii sp[k].1):=fun l w=>by have:=(hld0 l w).1 0 (by decide);rw [Nat.add_zero,(zRy hlt).1] at this;exact this
      have hhi : ∀ l w,load1 id0 (off0+1) (X h l w)=some (ii sp[k].2):=fun l w=>by have:=(hld0 l w).1 1 (by decide);rw [(zRy hlt).2] at this;exact this
      have hm:=manyM_in sp hok k hk
      have hms:=xOy hm (hok _ (List.getElem_mem hlt))
      have hmt:=manyM_take sp k hlt
      unfold manyS at hmt hms
      (repeat' (first
  | (with_reducible first|refine zJz ?_|refine zGw ?_|refine zEw ?_|refine zEx ?_|refine zEv ?_|refine zJy ?_|refine zGv ?_|refine zBw ?_|refine zDx ?_|refine zBv ?_|refine zCx ?_|refine zEz ?_|refine zCw ?_|refine zCz ?_|refine zBz ?_|refine zDv ?_|refine zDy ?_|refine zAx ?_|refine zAv ?_)
  | refine zCv ?_|refine zEy rfl ?_|refine zIx ?_|refine zIv ?_
  | ((first|refine zGx rfl rfl rfl rfl rfl fun K_ hK_=>?_|refine zGy rfl rfl rfl rfl rfl fun K_ hK_=>?_);simp only [zAz,zDz,zFw,↓reduceIte,reduceCtorEq,Nat.reduceEqDiff,Bool.not_true,Bool.not_false];refine hK_ _ ?_;clear hK_ K_)
  | refine zDw (by decide) ?_
  | ((try first|refine zJx rfl rfl rfl ?_|refine zIy rfl rfl ?_|refine zJw rfl rfl rfl ?_|refine zIw rfl rfl ?_);(refine zIz fun Q_ hQ_=>?_;simp (disch:=first|omega|(simp only [List.length_cons,List.length_nil,List.length_append];omega)) only [bb,bp,zKx,↓reduceIte,reduceCtorEq,Nat.reduceEqDiff,Nat.reduceLT,Nat.reduceLeDiff,Nat.reduceAdd,Nat.reduceMul,Nat.reduceSub,Nat.reduceBEq,Int.reduceToNat,cond_true,cond_false,eq_self,beq_self_eq_true,g1,g3,g4,hlen,zHz wf,zHx wf,zFz wf,zHy wf,zBx wf,tEvU1,zHw,zRv,zAw wf];first|(refine zCy (Q:=Q_) (fun hp_=>?_) (fun hp_=>?_) <;> first|(exfalso;omega)|(refine hQ_ _ _ ?_;clear hQ_ Q_))|(refine zBy (Q:=Q_) (fun hp_=>?_) (fun hp_=>?_) <;> first|(exfalso;omega)|(refine hQ_ _ _ ?_;clear hQ_ Q_))|(refine hQ_ _ _ ?_;clear hQ_ Q_)))
  | (refine zFv fun K_ hK_=>?_;simp (disch:=omega) only [zFx,zAz,zGz,↓reduceIte,reduceCtorEq,Nat.reduceEqDiff,Nat.reduceLT];refine hK_ _ ?_;clear hK_ K_)))
      refine zNw [.no,.no,.no,.no,.no,.no,.no,.no,.no,.no,.no,.no,.no,.full,.full,.full,.full,.full] (by kernel_rfl) ?_
      (repeat' (first
  | (with_reducible first|refine zJz ?_|refine zGw ?_|refine zEw ?_|refine zEx ?_|refine zEv ?_|refine zJy ?_|refine zGv ?_|refine zBw ?_|refine zDx ?_|refine zBv ?_|refine zCx ?_|refine zEz ?_|refine zCw ?_|refine zCz ?_|refine zBz ?_|refine zDv ?_|refine zDy ?_|refine zAx ?_|refine zAv ?_)
  | refine zCv ?_|refine zEy rfl ?_|refine zIx ?_|refine zIv ?_
  | ((first|refine zGx rfl rfl rfl rfl rfl fun K_ hK_=>?_|refine zGy rfl rfl rfl rfl rfl fun K_ hK_=>?_);simp only [zAz,zDz,zFw,↓reduceIte,reduceCtorEq,Nat.reduceEqDiff,Bool.not_true,Bool.not_false];refine hK_ _ ?_;clear hK_ K_)
  | refine zDw (by decide) ?_
  | ((try first|refine zJx rfl rfl rfl ?_|refine zIy rfl rfl ?_|refine zJw rfl rfl rfl ?_|refine zIw rfl rfl ?_);(refine zIz fun Q_ hQ_=>?_;simp (disch:=first|omega|(simp only [List.length_cons,List.length_nil,List.length_append];omega)) only [bb,bp,zKx,↓reduceIte,reduceCtorEq,Nat.reduceEqDiff,Nat.reduceLT,Nat.reduceLeDiff,Nat.reduceAdd,Nat.reduceMul,Nat.reduceSub,Nat.reduceBEq,Int.reduceToNat,cond_true,cond_false,eq_self,beq_self_eq_true,g1,g3,g4,hlen,hix0,hlo,hhi,zHz wf,zHx wf,zFz wf,zHy wf,zBx wf,tEvU1,zHw,zRv,zAw wf];first|(refine zCy (Q:=Q_) (fun hp_=>?_) (fun hp_=>?_) <;> first|(exfalso;omega)|(refine hQ_ _ _ ?_;clear hQ_ Q_))|(refine zBy (Q:=Q_) (fun hp_=>?_) (fun hp_=>?_) <;> first|(exfalso;omega)|(refine hQ_ _ _ ?_;clear hQ_ Q_))|(refine hQ_ _ _ ?_;clear hQ_ Q_)))
  | (refine zFv fun K_ hK_=>?_;simp (disch:=omega) only [zFx,zAz,zGz,↓reduceIte,reduceCtorEq,Nat.reduceEqDiff,Nat.reduceLT];refine hK_ _ ?_;clear hK_ K_)))
      exact zKy (k+1) (by omega) ⟨hlt,by simp only [zAz,↓reduceIte,reduceCtorEq,Nat.reduceEqDiff];exact g1,by simp only [zAz,↓reduceIte,reduceCtorEq,Nat.reduceEqDiff];rw [hmt],by simp only [zAz,↓reduceIte,reduceCtorEq,Nat.reduceEqDiff];rfl,rfl,rfl⟩
    · have hke:k=sp.length:=by omega
      subst hke
      rw [List.take_length] at g3
      (repeat' (first
  | (with_reducible first|refine zJz ?_|refine zGw ?_|refine zEw ?_|refine zEx ?_|refine zEv ?_|refine zJy ?_|refine zGv ?_|refine zBw ?_|refine zDx ?_|refine zBv ?_|refine zCx ?_|refine zEz ?_|refine zCw ?_|refine zCz ?_|refine zBz ?_|refine zDv ?_|refine zDy ?_|refine zAx ?_|refine zAv ?_)
  | refine zCv ?_|refine zEy rfl ?_|refine zIx ?_|refine zIv ?_
  | ((first|refine zGx rfl rfl rfl rfl rfl fun K_ hK_=>?_|refine zGy rfl rfl rfl rfl rfl fun K_ hK_=>?_);simp only [zAz,zDz,zFw,↓reduceIte,reduceCtorEq,Nat.reduceEqDiff,Bool.not_true,Bool.not_false];refine hK_ _ ?_;clear hK_ K_)
  | refine zDw (by decide) ?_
  | ((try first|refine zJx rfl rfl rfl ?_|refine zIy rfl rfl ?_|refine zJw rfl rfl rfl ?_|refine zIw rfl rfl ?_);(refine zIz fun Q_ hQ_=>?_;simp (disch:=first|omega|(simp only [List.length_cons,List.length_nil,List.length_append];omega)) only [bb,bp,zKx,↓reduceIte,reduceCtorEq,Nat.reduceEqDiff,Nat.reduceLT,Nat.reduceLeDiff,Nat.reduceAdd,Nat.reduceMul,Nat.reduceSub,Nat.reduceBEq,Int.reduceToNat,cond_true,cond_false,eq_self,beq_self_eq_true,g1,g3,g4,hlen,zHz wf,zHx wf,zFz wf,zHy wf,zBx wf,tEvU1,zHw,zRv,zAw wf];first|(refine zCy (Q:=Q_) (fun hp_=>?_) (fun hp_=>?_) <;> first|(exfalso;omega)|(refine hQ_ _ _ ?_;clear hQ_ Q_))|(refine zBy (Q:=Q_) (fun hp_=>?_) (fun hp_=>?_) <;> first|(exfalso;omega)|(refine hQ_ _ _ ?_;clear hQ_ Q_))|(refine hQ_ _ _ ?_;clear hQ_ Q_)))
  | (refine zFv fun K_ hK_=>?_;simp (disch:=omega) only [zFx,zAz,zGz,↓reduceIte,reduceCtorEq,Nat.reduceEqDiff,Nat.reduceLT];refine hK_ _ ?_;clear hK_ K_)))
      (refine zJv _ _ rfl (ret1 (by decide)) ?_;simp only [zAz,↓reduceIte,reduceCtorEq,Nat.reduceEqDiff];refine zMw rfl (by omega) ?_)
      exact ⟨rfl,rfl⟩
  · exact ⟨Nat.zero_le _,by simp only [zAz,↓reduceIte,reduceCtorEq,Nat.reduceEqDiff],by simp only [zAz,↓reduceIte,reduceCtorEq,Nat.reduceEqDiff];rfl,by simp only [zAz,↓reduceIte,reduceCtorEq,Nat.reduceEqDiff];rfl,rfl,rfl⟩
end Go.Proofs.YtkmdidplmfdikaaDoor
end

section
namespace Go.Proofs.YtkmdidplmfdikaaDoor
open Go.Ev
set_option maxRecDepth 100000
set_option linter.unusedSimpArgs false
set_option linter.unusedVariables false
set_option maxHeartbeats 4000000

theorem tEvU2 :type_of% (And.intro (And.intro (And.intro (And.intro (@zSv) (And.intro (@ia_2) (@sz_2))) (And.intro (@ia_3) (And.intro (@sz_3) (@zSy)))) (And.intro (And.intro (@zTx) (And.intro (@zRx) (@zSx))) (And.intro (@zSz) (And.intro (@zSw) (@zUz))))) (And.intro (And.intro (And.intro (@wAw) (And.intro (@wBw) (@zMy))) (And.intro (@zMz) (And.intro (@zLw) (@zLx)))) (And.intro (And.intro (@zOv) (And.intro (@yUx) (@pb_38))) (And.intro (And.intro (@pb_46) (@yZw)) (And.intro (@yUv) (@ni_52)))))):=And.intro (And.intro (And.intro (And.intro (@zSv) (And.intro (@ia_2) (@sz_2))) (And.intro (@ia_3) (And.intro (@sz_3) (@zSy)))) (And.intro (And.intro (@zTx) (And.intro (@zRx) (@zSx))) (And.intro (@zSz) (And.intro (@zSw) (@zUz))))) (And.intro (And.intro (And.intro (@wAw) (And.intro (@wBw) (@zMy))) (And.intro (@zMz) (And.intro (@zLw) (@zLx)))) (And.intro (And.intro (@zOv) (And.intro (@yUx) (@pb_38))) (And.intro (And.intro (@pb_46) (@yZw)) (And.intro (@yUv) (@ni_52)))))
structure InV (h:H) (bv:AV) (bs:List Int):Prop where
  sl:Sl h bv 1 bs.length (bs.map ii)
  cap:Cape 1 bv
theorem InV.nils (h:H):InV h .nils []:=⟨⟨rfl,.inl ⟨rfl,rfl⟩⟩,fun _ _ _ _ e=>by cases e⟩
theorem lineInV {h:H} (wf:Wf h) {L:List AO} {lv:AV} {bs:List Int} (x:LineV h L 2 lv (bs.map ii)) (w:Nat):InV (X h L w) lv bs:=by
  refine ⟨?_,?_⟩
  · have:=x.sl wf w
    rwa [List.length_map] at this
  · obtain ⟨_,c,rfl,_,_⟩:=x
    intro _ _ _ _ e;cases e;rfl

def LinesQ (h:H) (ls:List (List Int)) (bv:AV) (last:Bool):AV→H→Prop:=fun v h'=>∃ (L:List AO) (vs:List AV),h'=X h L h.w∧LineV h L 25 v vs∧((last=true∧vs=[bv])∨(last=false∧LV h L vs ls))

theorem lines (sp:List (Int × Int)) (hn:sp.length≤24) (hok : ∀ r ∈ sp,SpotOK r) (a:AV) (turn:Int) : ∀ (m k:Nat),k+m=sp.length → ∀ (bs:List Int) (bv:AV) (h:H),bs.length=k→manyL (sp.drop k)≤1500→Wf h→Sl h a 2 sp.length (zLy sp)→InV h bv bs →
    WV ((om Tryd.prog KK).call (.fn 46 [.agg [a,ii turn],bv]) h) (LinesQ h (linesR (sp.drop k) bs) bv (decide (m=0)))
  | 0,k,hk,bs,bv,h,hbl,hm,wf,hs,hb=>by
    have hlen : ∀ h',lenE Tryd.prog 22 a h'=some (ii (sp.length:Int)):=fun h'=>hs.len yWv
    have hlb : ∀ h',lenE Tryd.prog 25 bv h'=some (ii (sp.length:Int)):=fun h'=>by have:=hb.sl.len un_25 (h':=h');rwa [hbl,show k=sp.length from by omega] at this
    have hb1:oneB bv=true∧AV.cells bv=[bv]:=by obtain ⟨_,⟨rfl,_⟩|⟨_,_,_,_,_,_,rfl,_⟩⟩:=hb.sl <;> exact ⟨rfl,rfl⟩
    refine zKv (fn:=Tryd.f46) Tryd.func46 rfl rfl rfl rfl rfl ?_
    simp only [zKx]
    (repeat' (first
  | (with_reducible first|refine zJz ?_|refine zGw ?_|refine zEw ?_|refine zEx ?_|refine zEv ?_|refine zJy ?_|refine zGv ?_|refine zBw ?_|refine zDx ?_|refine zBv ?_|refine zCx ?_|refine zEz ?_|refine zCw ?_|refine zCz ?_|refine zBz ?_|refine zDv ?_|refine zDy ?_|refine zAx ?_|refine zAv ?_)
  | refine zCv ?_|refine zEy rfl ?_|refine zIx ?_|refine zIv ?_
  | ((first|refine zGx rfl rfl rfl rfl rfl fun K_ hK_=>?_|refine zGy rfl rfl rfl rfl rfl fun K_ hK_=>?_);simp only [zAz,zDz,zFw,↓reduceIte,reduceCtorEq,Nat.reduceEqDiff,Bool.not_true,Bool.not_false];refine hK_ _ ?_;clear hK_ K_)
  | refine zDw (by decide) ?_
  | ((try first|refine zJx rfl rfl rfl ?_|refine zIy rfl rfl ?_|refine zJw rfl rfl rfl ?_|refine zIw rfl rfl ?_);(refine zIz fun Q_ hQ_=>?_;simp (disch:=first|omega|(simp only [List.length_cons,List.length_nil,List.length_append];omega)) only [bb,bp,zKx,↓reduceIte,reduceCtorEq,Nat.reduceEqDiff,Nat.reduceLT,Nat.reduceLeDiff,Nat.reduceAdd,Nat.reduceMul,Nat.reduceSub,Nat.reduceBEq,Int.reduceToNat,cond_true,cond_false,eq_self,beq_self_eq_true,hlen,hlb,hb1.1,hb1.2,zHz wf,zHx wf,zFz wf,zHy wf,zBx wf,tEvU2,zHw,zRv,zAw wf];first|(refine zCy (Q:=Q_) (fun hp_=>?_) (fun hp_=>?_) <;> first|(exfalso;omega)|(refine hQ_ _ _ ?_;clear hQ_ Q_))|(refine zBy (Q:=Q_) (fun hp_=>?_) (fun hp_=>?_) <;> first|(exfalso;omega)|(refine hQ_ _ _ ?_;clear hQ_ Q_))|(refine hQ_ _ _ ?_;clear hQ_ Q_)))
  | (refine zFv fun K_ hK_=>?_;simp (disch:=omega) only [zFx,zAz,zGz,↓reduceIte,reduceCtorEq,Nat.reduceEqDiff,Nat.reduceLT];refine hK_ _ ?_;clear hK_ K_)))
    refine zJv _ _ rfl (ret1 (by decide)) ?_
    simp only [zAz,↓reduceIte,reduceCtorEq,Nat.reduceEqDiff]
    refine yCz (by
      show (_ && flat (.sl _ 0 _ _ 1))=false
      exact Bool.and_false _) ?_
    rw [Nat.min_eq_left wf.wle]
    exact ⟨_,[bv],rfl,⟨1,some 1,rfl,rfl,.inr rfl⟩,.inl ⟨rfl,rfl⟩⟩
  | m+1,k,hk,bs,bv,h,hbl,hm,wf,hs,hb=>by
    have hlt:k<sp.length:=by omega
    have hlen : ∀ h',lenE Tryd.prog 22 a h'=some (ii (sp.length:Int)):=fun h'=>hs.len yWv
    have hlb : ∀ h',lenE Tryd.prog 25 bv h'=some (ii (k:Int)):=fun h'=>by have:=hb.sl.len un_25 (h':=h');rwa [hbl] at this
    have hb1:oneB bv=true∧AV.cells bv=[bv]:=by obtain ⟨_,⟨rfl,_⟩|⟨_,_,_,_,_,_,rfl,_⟩⟩:=hb.sl <;> exact ⟨rfl,rfl⟩
    obtain ⟨id0,off0,hix0,hld0⟩:=hs.at wf hlt yLz
    have ho:=hok _ (List.getElem_mem hlt)
    have hdrop:=drop_spot hlt
    rw [zQy hlt] at ho
    obtain ⟨o1,o2,o3,o4⟩:=ho
    have hlo : ∀ l w,load1 id0 off0 (X h l w)=some (ii (spot sp k).1):=fun l w=>by have:=(hld0 l w).1 0 (by decide);rw [Nat.add_zero,(zRy hlt).1,zQy hlt] at this;exact this
    have hhi : ∀ l w,load1 id0 (off0+1) (X h l w)=some (ii (spot sp k).2):=fun l w=>by have:=(hld0 l w).1 1 (by decide);rw [(zRy hlt).2,zQy hlt] at this;exact this
    have hml:manyL (sp.drop k)=(offs (spot sp k)).length * manyL (sp.drop (k+1)):=by rw [hdrop];rfl
    have hw5:=zMv (spot sp k)
    have hm2:manyL (sp.drop (k+1))≤1500:=by
      have:=Nat.mul_le_mul (show 1≤(offs (spot sp k)).length by omega) (Nat.le_refl (manyL (sp.drop (k+1))))
      omega
    have hls:linesR (sp.drop k) bs=(offs (spot sp k)).flatMap fun y=>linesR (sp.drop (k+1)) (bs++[y]):=by rw [hdrop];rfl
    refine zKv (fn:=Tryd.f46) Tryd.func46 rfl rfl rfl rfl rfl ?_
    simp only [zKx]
    (repeat' (first
  | (with_reducible first|refine zJz ?_|refine zGw ?_|refine zEw ?_|refine zEx ?_|refine zEv ?_|refine zJy ?_|refine zGv ?_|refine zBw ?_|refine zDx ?_|refine zBv ?_|refine zCx ?_|refine zEz ?_|refine zCw ?_|refine zCz ?_|refine zBz ?_|refine zDv ?_|refine zDy ?_|refine zAx ?_|refine zAv ?_)
  | refine zCv ?_|refine zEy rfl ?_|refine zIx ?_|refine zIv ?_
  | ((first|refine zGx rfl rfl rfl rfl rfl fun K_ hK_=>?_|refine zGy rfl rfl rfl rfl rfl fun K_ hK_=>?_);simp only [zAz,zDz,zFw,↓reduceIte,reduceCtorEq,Nat.reduceEqDiff,Bool.not_true,Bool.not_false];refine hK_ _ ?_;clear hK_ K_)
  | refine zDw (by decide) ?_
  | ((try first|refine zJx rfl rfl rfl ?_|refine zIy rfl rfl ?_|refine zJw rfl rfl rfl ?_|refine zIw rfl rfl ?_);(refine zIz fun Q_ hQ_=>?_;simp (disch:=first|omega|(simp only [List.length_cons,List.length_nil,List.length_append];omega)) only [bb,bp,zKx,↓reduceIte,reduceCtorEq,Nat.reduceEqDiff,Nat.reduceLT,Nat.reduceLeDiff,Nat.reduceAdd,Nat.reduceMul,Nat.reduceSub,Nat.reduceBEq,Int.reduceToNat,cond_true,cond_false,eq_self,beq_self_eq_true,hlen,hlb,hb1.1,hb1.2,hix0,hlo,hhi,zHz wf,zHx wf,zFz wf,zHy wf,zBx wf,tEvU2,zHw,zRv,zAw wf];first|(refine zCy (Q:=Q_) (fun hp_=>?_) (fun hp_=>?_) <;> first|(exfalso;omega)|(refine hQ_ _ _ ?_;clear hQ_ Q_))|(refine zBy (Q:=Q_) (fun hp_=>?_) (fun hp_=>?_) <;> first|(exfalso;omega)|(refine hQ_ _ _ ?_;clear hQ_ Q_))|(refine hQ_ _ _ ?_;clear hQ_ Q_)))
  | (refine zFv fun K_ hK_=>?_;simp (disch:=omega) only [zFx,zAz,zGz,↓reduceIte,reduceCtorEq,Nat.reduceEqDiff,Nat.reduceLT];refine hK_ _ ?_;clear hK_ K_)))
    refine zTv (fun (j:Nat) f d h'=>j≤(offs (spot sp k)).length∧f 1=bv∧f 2 = .ptr (nx h 0) 0∧f 5=ii (k:Int)∧f 7=ii ((spot sp k).1+(j:Int))∧d=[] ∧ ∃ (G:List AO) (vs:List AV) (w:Nat),h'=X h (.cells (zAy [a,ii turn]) 24 :: G) w∧Grow h [.cells (zAy [a,ii turn]) 24] G (f 6) 1 25 vs.length vs ∧
      LV h (.cells (zAy [a,ii turn]) 24 :: G) vs (((offs (spot sp k)).take j).flatMap fun y=>linesR (sp.drop (k+1)) (bs++[y]))∧h.clock≤w∧w≤h.clock+(G.length+1)) (fun j=>(offs (spot sp k)).length - j) ?_ ((offs (spot sp k)).length+1) 0 (by omega) ?_
    · rintro j f d h' ⟨hj,g1,g2,g5,g7,rfl,G,vs,w,rfl,hg,hlv,hw1,hw2⟩
      generalize g6:f 6=ov at hg
      by_cases hjl:j<(offs (spot sp k)).length
      · have hoj:(offs (spot sp k))[j]=(spot sp k).1+(j:Int):=by
          have:=yEw (r:=spot sp k) (k:=j) (by omega)
          rw [List.getElem?_eq_getElem hjl] at this
          exact Option.some.inj this
        have htk:((offs (spot sp k)).take (j+1)).flatMap (fun y=>linesR (sp.drop (k+1)) (bs++[y]))=((offs (spot sp k)).take j).flatMap (fun y=>linesR (sp.drop (k+1)) (bs++[y]))++linesR (sp.drop (k+1)) (bs++[(spot sp k).1+(j:Int)]):=by
          rw [List.take_succ_eq_append_getElem hjl,List.flatMap_append,hoj];simp
        (repeat' (first
  | (with_reducible first|refine zJz ?_|refine zGw ?_|refine zEw ?_|refine zEx ?_|refine zEv ?_|refine zJy ?_|refine zGv ?_|refine zBw ?_|refine zDx ?_|refine zBv ?_|refine zCx ?_|refine zEz ?_|refine zCw ?_|refine zCz ?_|refine zBz ?_|refine zDv ?_|refine zDy ?_|refine zAx ?_|refine zAv ?_)
  | refine zCv ?_|refine zEy rfl ?_|refine zIx ?_|refine zIv ?_
  | ((first|refine zGx rfl rfl rfl rfl rfl fun K_ hK_=>?_|refine zGy rfl rfl rfl rfl rfl fun K_ hK_=>?_);simp only [zAz,zDz,zFw,↓reduceIte,reduceCtorEq,Nat.reduceEqDiff,Bool.not_true,Bool.not_false];refine hK_ _ ?_;clear hK_ K_)
  | refine zDw (by decide) ?_
  | ((try first|refine zJx rfl rfl rfl ?_|refine zIy rfl rfl ?_|refine zJw rfl rfl rfl ?_|refine zIw rfl rfl ?_);(refine zIz fun Q_ hQ_=>?_;simp (disch:=first|omega|(simp only [List.length_cons,List.length_nil,List.length_append];omega)) only [bb,bp,zKx,↓reduceIte,reduceCtorEq,Nat.reduceEqDiff,Nat.reduceLT,Nat.reduceLeDiff,Nat.reduceAdd,Nat.reduceMul,Nat.reduceSub,Nat.reduceBEq,Int.reduceToNat,cond_true,cond_false,eq_self,beq_self_eq_true,g1,g2,g5,g6,g7,hix0,hlo,hhi,zHz wf,zHx wf,zFz wf,zHy wf,zBx wf,tEvU2,zHw,zRv,zAw wf];first|(refine zCy (Q:=Q_) (fun hp_=>?_) (fun hp_=>?_) <;> first|(exfalso;omega)|(refine hQ_ _ _ ?_;clear hQ_ Q_))|(refine zBy (Q:=Q_) (fun hp_=>?_) (fun hp_=>?_) <;> first|(exfalso;omega)|(refine hQ_ _ _ ?_;clear hQ_ Q_))|(refine hQ_ _ _ ?_;clear hQ_ Q_)))
  | (refine zFv fun K_ hK_=>?_;simp (disch:=omega) only [zFx,zAz,zGz,↓reduceIte,reduceCtorEq,Nat.reduceEqDiff,Nat.reduceLT];refine hK_ _ ?_;clear hK_ K_)))
        refine zNw [.no,.no,.no,.no,.no,.no,.no,.soft [2],.full,.full,.full] (by kernel_rfl) ?_
        (repeat' (first
  | (with_reducible first|refine zJz ?_|refine zGw ?_|refine zEw ?_|refine zEx ?_|refine zEv ?_|refine zJy ?_|refine zGv ?_|refine zBw ?_|refine zDx ?_|refine zBv ?_|refine zCx ?_|refine zEz ?_|refine zCw ?_|refine zCz ?_|refine zBz ?_|refine zDv ?_|refine zDy ?_|refine zAx ?_|refine zAv ?_)
  | refine zCv ?_|refine zEy rfl ?_|refine zIx ?_|refine zIv ?_
  | ((first|refine zGx rfl rfl rfl rfl rfl fun K_ hK_=>?_|refine zGy rfl rfl rfl rfl rfl fun K_ hK_=>?_);simp only [zAz,zDz,zFw,↓reduceIte,reduceCtorEq,Nat.reduceEqDiff,Bool.not_true,Bool.not_false];refine hK_ _ ?_;clear hK_ K_)
  | refine zDw (by decide) ?_
  | ((try first|refine zJx rfl rfl rfl ?_|refine zIy rfl rfl ?_|refine zJw rfl rfl rfl ?_|refine zIw rfl rfl ?_);(refine zIz fun Q_ hQ_=>?_;simp (disch:=first|omega|(simp only [List.length_cons,List.length_nil,List.length_append];omega)) only [bb,bp,zKx,↓reduceIte,reduceCtorEq,Nat.reduceEqDiff,Nat.reduceLT,Nat.reduceLeDiff,Nat.reduceAdd,Nat.reduceMul,Nat.reduceSub,Nat.reduceBEq,Int.reduceToNat,cond_true,cond_false,eq_self,beq_self_eq_true,g1,g2,g5,g6,g7,hix0,hlo,hhi,zHz wf,zHx wf,zFz wf,zHy wf,zBx wf,tEvU2,zHw,zRv,zAw wf];first|(refine zCy (Q:=Q_) (fun hp_=>?_) (fun hp_=>?_) <;> first|(exfalso;omega)|(refine hQ_ _ _ ?_;clear hQ_ Q_))|(refine zBy (Q:=Q_) (fun hp_=>?_) (fun hp_=>?_) <;> first|(exfalso;omega)|(refine hQ_ _ _ ?_;clear hQ_ Q_))|(refine hQ_ _ _ ?_;clear hQ_ Q_)))
  | (refine zFv fun K_ hK_=>?_;simp (disch:=omega) only [zFx,zAz,zGz,↓reduceIte,reduceCtorEq,Nat.reduceEqDiff,Nat.reduceLT];refine hK_ _ ?_;clear hK_ K_)))
        have rs25 : ∀ (id:Pos) (off len c esz:Nat),reszT Tryd.prog 25 (.sl id off len (some c) esz) = .sl id off len (some c) 1:=fun id off len c esz=>yBy Tryd.underlying25 sz_2
        have rsn25 : ∀ (id:Pos) (off len esz:Nat),reszT Tryd.prog 25 (.sl id off len none esz) = .sl id off len none esz:=fun id off len esz=>yFy
        have hsrc : ∀ (N:List AO) w,srcCells (X h (.cells (zAy [a,ii turn]) 24 :: (G++N)) w) 1 (reszT Tryd.prog 25 bv)=some (k,bs.map ii):=fun N w=>by
          have:=(hb.sl.up wf (.cells (zAy [a,ii turn]) 24 :: (G++N)) w).srcE (P:=Tryd.prog) hb.cap Tryd.underlying25 sz_2
          rwa [hbl] at this
        have rest : ∀ (N:List AO) (bv':AV),LineV h (AO.cells (zAy [a,ii turn]) 24 :: (G++N)) 2 bv' ((bs++[(spot sp k).1+(j:Int)]).map ii) → ∃ (v v2:AV) (M G3:List AO) (vs2:List AV) (w':Nat),
            (om Tryd.prog KK).call (.fn 46 [.agg [a,ii turn],bv']) (X h (AO.cells (zAy [a,ii turn]) 24 :: (G++N)) (h.clock+(G.length+N.length+1))) = .ok v (X h (AO.cells (zAy [a,ii turn]) 24 :: (G++(N++M))) (h.clock+(G.length+N.length+1)))∧reszT Tryd.prog 52 v=v∧reszT Tryd.prog 52 ov=ov ∧
            appendE Tryd.prog 52 ov v (X h (AO.cells (zAy [a,ii turn]) 24 :: (G++(N++M))) (h.clock+(G.length+(N.length+M.length)+1))) = .ok v2 (X h (AO.cells (zAy [a,ii turn]) 24 :: G3) w')∧Grow h [AO.cells (zAy [a,ii turn]) 24] G3 v2 1 25 vs2.length vs2 ∧
            LV h (AO.cells (zAy [a,ii turn]) 24 :: G3) vs2 (((offs (spot sp k)).take (j+1)).flatMap fun y=>linesR (sp.drop (k+1)) (bs++[y]))∧h.clock≤w'∧w'≤h.clock+(G3.length+1):=fun N bv' hbv'=>by
          have hl1:(AO.cells (zAy [a,ii turn]) 24 :: (G++N)).length=G.length+N.length+1:=by simp only [List.length_cons,List.length_append]
          obtain ⟨v,h',e,M,vs',rfl,hv,hcase⟩:=lines sp hn hok a turn m (k+1) (by omega) (bs++[(spot sp k).1+(j:Int)]) bv' (X h (AO.cells (zAy [a,ii turn]) 24 :: (G++N)) (h.clock+(G.length+N.length+1))) (by rw [List.length_append,hbl];rfl) hm2 (wf.X (by rw [hl1];exact Nat.le_refl _)) (hs.up wf _ _) (lineInV wf hbv' _)
          rw [X_X,X_w] at e
          have hvd:=hv.down
          have hee:AO.cells (zAy [a,ii turn]) 24 :: (G++N)++M=AO.cells (zAy [a,ii turn]) 24 :: (G++(N++M)):=by rw [List.cons_append,List.append_assoc]
          rw [hee] at e hvd
          have hlv':LV h (AO.cells (zAy [a,ii turn]) 24 :: (G++(N++M))) vs' (linesR (sp.drop (k+1)) (bs++[(spot sp k).1+(j:Int)])):=by
            rcases hcase with ⟨hm0,rfl⟩|⟨_,hlv'⟩
            · have hm0:=of_decide_eq_true hm0
              have hd0:sp.drop (k+1)=[]:=List.drop_of_length_le (by omega)
              rw [hd0]
              refine ⟨rfl,fun i u l h1 h2=>?_⟩
              have h2':[bs++[(spot sp k).1+(j:Int)]][i]? = some l:=h2
              cases i with
              | succ i=>simp at h1
              | zero=>
                simp only [List.getElem?_cons_zero,Option.some.injEq] at h1 h2'
                subst h1
                subst h2'
                rw [← hee]
                exact hbv'.more M
            · have q:=hlv'.mono (G':=AO.cells (zAy [a,ii turn]) 24 :: (G++(N++M))) (h:=X h (AO.cells (zAy [a,ii turn]) 24 :: (G++N)) (h.clock+(G.length+N.length+1)))
              refine ⟨hlv'.1,fun i u l h1 h2=>?_⟩
              have:=(hlv'.2 i u l h1 h2).down
              rw [hee] at this
              exact this
          have hn0:vs'.length≠0:=by
            rw [hlv'.1,yFv]
            have:=xUv (R:=sp.drop (k+1)) (fun r hr=>(hok r (List.mem_of_mem_drop hr)).2.2.1)
            omega
          have hvsl:vs'.length≤1500:=by rw [hlv'.1,yFv];exact hm2
          have hvl:vs.length≤1500 * 6:=by
            rw [hlv.1,zXw (m:=manyL (sp.drop (k+1))) _ (fun y _=>yFv _ _),List.length_take]
            have:=Nat.mul_le_mul (show min j (offs (spot sp k)).length≤6 by omega) hm2
            omega
          obtain ⟨v2,G2,o',w',hch,hg',hw1',hw2',happ⟩:=(hg.keepK (Keep.more G (N++M))).appendC (P:=Tryd.prog) wf Tryd.underlying52 wAw el_25 (n:=vs'.length) (new:=vs') (x:=v) (t:=52) (by omega) hn0 (by decide) (by rw [Nat.mul_one]) hlv'.all (fun w=>hvd.src wf w) (h.clock+(G.length+(N.length+M.length)+1)) (by omega)
          refine ⟨v,v2,M,G2++[o'],vs++vs',w',e,hvd.resz Tryd.underlying52 wAw,hg.resz 52,happ,by rw [List.length_append];exact hg',?_,hw1',?_⟩
          · rw [htk]
            have up : ∀ u cs,LineV h (AO.cells (zAy [a,ii turn]) 24 :: (G++(N++M))) 2 u cs→LineV h (AO.cells (zAy [a,ii turn]) 24 :: (G2++[o'])) 2 u cs:=fun u cs hu=>by
              have hch2:Chg 25 (AO.cells (zAy [a,ii turn]) 24 :: (G++(N++M))) (AO.cells (zAy [a,ii turn]) 24 :: G2):=⟨by rw [List.length_cons,List.length_cons,hch.1],fun q oo hq hno=>by
                cases q with
                | zero=>exact hq
                | succ q=>simp only [List.getElem?_cons_succ] at hq ⊢;exact hch.2 q oo hq hno⟩
              exact (hu.chg hch2 (by decide)).more [o']
            refine LV.append (hlv.mono fun u cs hu=>?_) (hlv'.mono up)
            refine up u cs ?_
            have:=hu.more (N++M)
            exact this
          · have:=hch.1
            simp only [List.length_append,List.length_cons,List.length_nil] at this ⊢
            omega
        by_cases hk0:k=0
        · have hbs:bs=[]:=List.eq_nil_of_length_eq_zero (by omega)
          have a1 : ∀ w,appendE Tryd.prog 25 (.sl (nx h (G.length+1)) 0 0 (some 0) 1) (reszT Tryd.prog 25 bv) (X h (.cells (zAy [a,ii turn]) 24 :: (G++[.cells (zAy []) 2])) w) = .ok (.sl (nx h (G.length+1)) 0 0 (some 0) 1) (X h (.cells (zAy [a,ii turn]) 24 :: (G++[.cells (zAy []) 2])) w):=fun w=>by
            unfold appendE
            rw [Tryd.underlying25];dsimp only;rw [sz_2];dsimp only;rw [hsrc,hk0];rfl
          have a2 : ∀ (y:AV) w,appendE Tryd.prog 25 (.sl (nx h (G.length+1)) 0 0 (some 0) 1) (.sl (nx h (G.length+1+1)) 0 1 (some 1) 1) (X h (.cells (zAy [a,ii turn]) 24 :: (G++[.cells (zAy []) 2,.cells (zAy [y]) 2])) w) = .ok (.sl (nx h (G.length+2+1)) 0 1 none 1) (X h (.cells (zAy [a,ii turn]) 24 :: (G++[.cells (zAy []) 2,.cells (zAy [y]) 2,.cells (zAy [y]) 2])) w):=fun y w=>by
            have:=yNv (P:=Tryd.prog) (l:=.cells (zAy [a,ii turn]) 24 :: (G++[.cells (zAy []) 2,.cells (zAy [y]) 2])) (k:=G.length+1) (w:=w) (t:=25) (old:=[]) (e':=2) wf Tryd.underlying25 sz_2 el_2 (x:=.sl (nx h (G.length+1+1)) 0 1 (some 1) 1) (n:=1) (new:=[y]) (by decide) (by decide) (by decide) (by simp only [List.getElem?_cons_succ,zPx,List.getElem?_cons_zero]) (yPv (e:=2) wf (by simp only [List.getElem?_cons_succ,zLv,List.getElem?_cons_zero]) rfl) rfl
            simpa only [List.length_cons,List.length_append,List.length_nil,List.cons_append,List.append_assoc,List.nil_append,Nat.zero_add,Nat.reduceAdd] using this
          (repeat' (first
  | (with_reducible first|refine zJz ?_|refine zGw ?_|refine zEw ?_|refine zEx ?_|refine zEv ?_|refine zJy ?_|refine zGv ?_|refine zBw ?_|refine zDx ?_|refine zBv ?_|refine zCx ?_|refine zEz ?_|refine zCw ?_|refine zCz ?_|refine zBz ?_|refine zDv ?_|refine zDy ?_|refine zAx ?_|refine zAv ?_)
  | refine zCv ?_|refine zEy rfl ?_|refine zIx ?_|refine zIv ?_
  | ((first|refine zGx rfl rfl rfl rfl rfl fun K_ hK_=>?_|refine zGy rfl rfl rfl rfl rfl fun K_ hK_=>?_);simp only [zAz,zDz,zFw,↓reduceIte,reduceCtorEq,Nat.reduceEqDiff,Bool.not_true,Bool.not_false];refine hK_ _ ?_;clear hK_ K_)
  | refine zDw (by decide) ?_
  | ((try first|refine zJx rfl rfl rfl ?_|refine zIy rfl rfl ?_|refine zJw rfl rfl rfl ?_|refine zIw rfl rfl ?_);(refine zIz fun Q_ hQ_=>?_;simp (disch:=first|omega|(simp only [List.length_cons,List.length_nil,List.length_append];omega)) only [bb,bp,zKx,↓reduceIte,reduceCtorEq,Nat.reduceEqDiff,Nat.reduceLT,Nat.reduceLeDiff,Nat.reduceAdd,Nat.reduceMul,Nat.reduceSub,Nat.reduceBEq,Int.reduceToNat,cond_true,cond_false,eq_self,beq_self_eq_true,g1,g2,g5,g6,g7,hix0,hlo,hhi,a1,a2,rs25,zHz wf,zHx wf,zFz wf,zHy wf,zBx wf,tEvU2,zHw,zRv,zAw wf];first|(refine zCy (Q:=Q_) (fun hp_=>?_) (fun hp_=>?_) <;> first|(exfalso;omega)|(refine hQ_ _ _ ?_;clear hQ_ Q_))|(refine zBy (Q:=Q_) (fun hp_=>?_) (fun hp_=>?_) <;> first|(exfalso;omega)|(refine hQ_ _ _ ?_;clear hQ_ Q_))|(refine hQ_ _ _ ?_;clear hQ_ Q_)))
  | (refine zFv fun K_ hK_=>?_;simp (disch:=omega) only [zFx,zAz,zGz,↓reduceIte,reduceCtorEq,Nat.reduceEqDiff,Nat.reduceLT];refine hK_ _ ?_;clear hK_ K_)))
          obtain ⟨v,v2,M,G3,vs2,w3,q1,q2,q3,q4,hg3,hlv3,hw31,hw32⟩:=rest [.cells (zAy []) 2,.cells (zAy [ii ((spot sp k).1+(j:Int))]) 2,.cells (zAy [ii ((spot sp k).1+(j:Int))]) 2] (.sl (nx h (G.length+2+1)) 0 1 none 1) ⟨G.length+2+1,none,by rw [hbs];rfl,by rw [hbs];simp only [List.getElem?_cons_succ,zLv,List.getElem?_cons_zero];rfl,.inl rfl⟩
          simp only [List.length_cons,List.length_nil,Nat.reduceAdd,List.cons_append,List.nil_append] at q1 q4
          rw [show 3+M.length=M.length+1+1+1 from by omega] at q4
          (repeat' (first
  | (with_reducible first|refine zJz ?_|refine zGw ?_|refine zEw ?_|refine zEx ?_|refine zEv ?_|refine zJy ?_|refine zGv ?_|refine zBw ?_|refine zDx ?_|refine zBv ?_|refine zCx ?_|refine zEz ?_|refine zCw ?_|refine zCz ?_|refine zBz ?_|refine zDv ?_|refine zDy ?_|refine zAx ?_|refine zAv ?_)
  | refine zCv ?_|refine zEy rfl ?_|refine zIx ?_|refine zIv ?_
  | ((first|refine zGx rfl rfl rfl rfl rfl fun K_ hK_=>?_|refine zGy rfl rfl rfl rfl rfl fun K_ hK_=>?_);simp only [zAz,zDz,zFw,↓reduceIte,reduceCtorEq,Nat.reduceEqDiff,Bool.not_true,Bool.not_false];refine hK_ _ ?_;clear hK_ K_)
  | refine zDw (by decide) ?_
  | ((try first|refine zJx rfl rfl rfl ?_|refine zIy rfl rfl ?_|refine zJw rfl rfl rfl ?_|refine zIw rfl rfl ?_);(refine zIz fun Q_ hQ_=>?_;simp (disch:=first|omega|(simp only [List.length_cons,List.length_nil,List.length_append];omega)) only [bb,bp,zKx,↓reduceIte,reduceCtorEq,Nat.reduceEqDiff,Nat.reduceLT,Nat.reduceLeDiff,Nat.reduceAdd,Nat.reduceMul,Nat.reduceSub,Nat.reduceBEq,Int.reduceToNat,cond_true,cond_false,eq_self,beq_self_eq_true,g7,q1,q2,q3,q4,zHz wf,zHx wf,zFz wf,zHy wf,zBx wf,tEvU2,zHw,zRv,zAw wf];first|(refine zCy (Q:=Q_) (fun hp_=>?_) (fun hp_=>?_) <;> first|(exfalso;omega)|(refine hQ_ _ _ ?_;clear hQ_ Q_))|(refine zBy (Q:=Q_) (fun hp_=>?_) (fun hp_=>?_) <;> first|(exfalso;omega)|(refine hQ_ _ _ ?_;clear hQ_ Q_))|(refine hQ_ _ _ ?_;clear hQ_ Q_)))
  | (refine zFv fun K_ hK_=>?_;simp (disch:=omega) only [zFx,zAz,zGz,↓reduceIte,reduceCtorEq,Nat.reduceEqDiff,Nat.reduceLT];refine hK_ _ ?_;clear hK_ K_)))
          exact zKy (j+1) (by omega) ⟨hjl,by simp only [zAz,↓reduceIte,reduceCtorEq,Nat.reduceEqDiff];exact g1,by simp only [zAz,↓reduceIte,reduceCtorEq,Nat.reduceEqDiff];exact g2,by simp only [zAz,↓reduceIte,reduceCtorEq,Nat.reduceEqDiff];exact g5,by simp only [zAz,↓reduceIte,reduceCtorEq,Nat.reduceEqDiff];rw [Int.natCast_succ,Int.add_assoc],rfl,G3,vs2,_,rfl,by simp only [zAz,↓reduceIte,reduceCtorEq,Nat.reduceEqDiff];exact hg3,hlv3,by omega,by omega⟩
        · have a1 : ∀ w,appendE Tryd.prog 25 (.sl (nx h (G.length+1)) 0 0 (some 0) 1) (reszT Tryd.prog 25 bv) (X h (.cells (zAy [a,ii turn]) 24 :: (G++[.cells (zAy []) 2])) w) = .ok (.sl (nx h (G.length+1+1)) 0 k none 1) (X h (.cells (zAy [a,ii turn]) 24 :: (G++[.cells (zAy []) 2,.cells (zAy (bs.map ii)) 2])) w):=fun w=>by
            have:=yNv (P:=Tryd.prog) (l:=.cells (zAy [a,ii turn]) 24 :: (G++[.cells (zAy []) 2])) (k:=G.length+1) (w:=w) (t:=25) (old:=[]) (e':=2) wf Tryd.underlying25 sz_2 el_2 (x:=reszT Tryd.prog 25 bv) (n:=k) (new:=bs.map ii) (by omega) hk0 (by decide) (by simp only [List.getElem?_cons_succ,zPx,List.getElem?_cons_zero]) (hsrc _ _) (by rw [List.length_map,hbl,Nat.mul_one])
            simpa only [List.length_cons,List.length_append,List.length_nil,List.cons_append,List.append_assoc,List.nil_append,Nat.zero_add,Nat.reduceAdd] using this
          have a2 : ∀ (y:AV) w,oneB y=true→appendE Tryd.prog 25 (.sl (nx h (G.length+1+1)) 0 k none 1) (.sl (nx h (G.length+2+1)) 0 1 (some 1) 1) (X h (.cells (zAy [a,ii turn]) 24 :: (G++[.cells (zAy []) 2,.cells (zAy (bs.map ii)) 2,.cells (zAy [y]) 2])) w) = .ok (.sl (nx h (G.length+3+1)) 0 (k+1) none 1) (X h (.cells (zAy [a,ii turn]) 24 :: (G++[.cells (zAy []) 2,.dead,.cells (zAy [y]) 2,.cells (zAy (bs.map ii++[y])) 2])) (min (h.clock+(G.length+1+1)) w)):=fun y w hy=>by
            have:=yYz (P:=Tryd.prog) (l:=.cells (zAy [a,ii turn]) 24 :: (G++[.cells (zAy []) 2,.cells (zAy (bs.map ii)) 2,.cells (zAy [y]) 2])) (k:=G.length+1+1) (w:=w) (t:=25) (cs:=bs.map ii) (len:=k) wf Tryd.underlying25 sz_2 el_2 (x:=.sl (nx h (G.length+2+1)) 0 1 (some 1) 1) (n:=1) (new:=[y]) (by omega) (by decide) (by decide) (by simp only [List.getElem?_cons_succ,zLv,List.getElem?_cons_zero]) (by rw [List.length_map,hbl,Nat.mul_one]) (yPv (e:=2) wf (by simp only [List.getElem?_cons_succ,zLv,List.getElem?_cons_zero]) rfl) rfl (by rw [zZy,hy];rfl)
            simpa only [List.length_cons,List.length_append,List.length_nil,List.cons_append,List.append_assoc,List.nil_append,Nat.zero_add,Nat.reduceAdd,List.set_cons_succ,zNx,List.set_cons_zero] using this
          have a2':=fun w=>a2 (.int .i64 ((spot sp k).1+(j:Int))) w rfl
          (repeat' (first
  | (with_reducible first|refine zJz ?_|refine zGw ?_|refine zEw ?_|refine zEx ?_|refine zEv ?_|refine zJy ?_|refine zGv ?_|refine zBw ?_|refine zDx ?_|refine zBv ?_|refine zCx ?_|refine zEz ?_|refine zCw ?_|refine zCz ?_|refine zBz ?_|refine zDv ?_|refine zDy ?_|refine zAx ?_|refine zAv ?_)
  | refine zCv ?_|refine zEy rfl ?_|refine zIx ?_|refine zIv ?_
  | ((first|refine zGx rfl rfl rfl rfl rfl fun K_ hK_=>?_|refine zGy rfl rfl rfl rfl rfl fun K_ hK_=>?_);simp only [zAz,zDz,zFw,↓reduceIte,reduceCtorEq,Nat.reduceEqDiff,Bool.not_true,Bool.not_false];refine hK_ _ ?_;clear hK_ K_)
  | refine zDw (by decide) ?_
  | ((try first|refine zJx rfl rfl rfl ?_|refine zIy rfl rfl ?_|refine zJw rfl rfl rfl ?_|refine zIw rfl rfl ?_);(refine zIz fun Q_ hQ_=>?_;simp (disch:=first|omega|(simp only [List.length_cons,List.length_nil,List.length_append];omega)) only [bb,bp,zKx,↓reduceIte,reduceCtorEq,Nat.reduceEqDiff,Nat.reduceLT,Nat.reduceLeDiff,Nat.reduceAdd,Nat.reduceMul,Nat.reduceSub,Nat.reduceBEq,Int.reduceToNat,cond_true,cond_false,eq_self,beq_self_eq_true,g1,g2,g5,g6,g7,hix0,hlo,hhi,a1,rs25,zHz wf,zHx wf,zFz wf,zHy wf,zBx wf,tEvU2,zHw,zRv,zAw wf];first|(refine zCy (Q:=Q_) (fun hp_=>?_) (fun hp_=>?_) <;> first|(exfalso;omega)|(refine hQ_ _ _ ?_;clear hQ_ Q_))|(refine zBy (Q:=Q_) (fun hp_=>?_) (fun hp_=>?_) <;> first|(exfalso;omega)|(refine hQ_ _ _ ?_;clear hQ_ Q_))|(refine hQ_ _ _ ?_;clear hQ_ Q_)))
  | (refine zFv fun K_ hK_=>?_;simp (disch:=omega) only [zFx,zAz,zGz,↓reduceIte,reduceCtorEq,Nat.reduceEqDiff,Nat.reduceLT];refine hK_ _ ?_;clear hK_ K_)))
          refine zJw rfl rfl rfl (WV_soft (v:=.sl (nx h (G.length+3+1)) 0 (k+1) none 1) (by
            simp (disch:=first|omega|(simp only [List.length_cons,List.length_nil,List.length_append];omega)) only [bb,bp,zKx,↓reduceIte,reduceCtorEq,Nat.reduceEqDiff,Nat.reduceLT,Nat.reduceLeDiff,Nat.reduceAdd,Nat.reduceMul,Nat.reduceSub,Nat.reduceBEq,Int.reduceToNat,cond_true,cond_false,eq_self,beq_self_eq_true,a2',rsn25,rs25,tEvU2,zHw,zRv,zAw wf]
            rfl) (barOk_app1 (by simp only [zAz,↓reduceIte,reduceCtorEq,Nat.reduceEqDiff];rfl) (by simp only [zAz,↓reduceIte,reduceCtorEq,Nat.reduceEqDiff];exact g2) (nx_ne (by omega)) (by decide) (by decide) (by decide)) ?_)
          obtain ⟨v,v2,M,G3,vs2,w3,q1,q2,q3,q4,hg3,hlv3,hw31,hw32⟩:=rest [.cells (zAy []) 2,.dead,.cells (zAy [ii ((spot sp k).1+(j:Int))]) 2,.cells (zAy (bs.map ii++[ii ((spot sp k).1+(j:Int))])) 2] (.sl (nx h (G.length+3+1)) 0 (k+1) none 1) ⟨G.length+3+1,none,by rw [List.length_map,List.length_append,hbl];rfl,by simp only [List.getElem?_cons_succ,zLv,List.getElem?_cons_zero];rw [List.map_append];rfl,.inl rfl⟩
          simp only [List.length_cons,List.length_nil,Nat.reduceAdd,List.cons_append,List.nil_append] at q1 q4
          rw [show 4+M.length=M.length+1+1+1+1 from by omega] at q4
          (repeat' (first
  | (with_reducible first|refine zJz ?_|refine zGw ?_|refine zEw ?_|refine zEx ?_|refine zEv ?_|refine zJy ?_|refine zGv ?_|refine zBw ?_|refine zDx ?_|refine zBv ?_|refine zCx ?_|refine zEz ?_|refine zCw ?_|refine zCz ?_|refine zBz ?_|refine zDv ?_|refine zDy ?_|refine zAx ?_|refine zAv ?_)
  | refine zCv ?_|refine zEy rfl ?_|refine zIx ?_|refine zIv ?_
  | ((first|refine zGx rfl rfl rfl rfl rfl fun K_ hK_=>?_|refine zGy rfl rfl rfl rfl rfl fun K_ hK_=>?_);simp only [zAz,zDz,zFw,↓reduceIte,reduceCtorEq,Nat.reduceEqDiff,Bool.not_true,Bool.not_false];refine hK_ _ ?_;clear hK_ K_)
  | refine zDw (by decide) ?_
  | ((try first|refine zJx rfl rfl rfl ?_|refine zIy rfl rfl ?_|refine zJw rfl rfl rfl ?_|refine zIw rfl rfl ?_);(refine zIz fun Q_ hQ_=>?_;simp (disch:=first|omega|(simp only [List.length_cons,List.length_nil,List.length_append];omega)) only [bb,bp,zKx,↓reduceIte,reduceCtorEq,Nat.reduceEqDiff,Nat.reduceLT,Nat.reduceLeDiff,Nat.reduceAdd,Nat.reduceMul,Nat.reduceSub,Nat.reduceBEq,Int.reduceToNat,cond_true,cond_false,eq_self,beq_self_eq_true,g7,q1,q2,q3,q4,zHz wf,zHx wf,zFz wf,zHy wf,zBx wf,tEvU2,zHw,zRv,zAw wf];first|(refine zCy (Q:=Q_) (fun hp_=>?_) (fun hp_=>?_) <;> first|(exfalso;omega)|(refine hQ_ _ _ ?_;clear hQ_ Q_))|(refine zBy (Q:=Q_) (fun hp_=>?_) (fun hp_=>?_) <;> first|(exfalso;omega)|(refine hQ_ _ _ ?_;clear hQ_ Q_))|(refine hQ_ _ _ ?_;clear hQ_ Q_)))
  | (refine zFv fun K_ hK_=>?_;simp (disch:=omega) only [zFx,zAz,zGz,↓reduceIte,reduceCtorEq,Nat.reduceEqDiff,Nat.reduceLT];refine hK_ _ ?_;clear hK_ K_)))
          exact zKy (j+1) (by omega) ⟨hjl,by simp only [zAz,↓reduceIte,reduceCtorEq,Nat.reduceEqDiff];exact g1,by simp only [zAz,↓reduceIte,reduceCtorEq,Nat.reduceEqDiff];exact g2,by simp only [zAz,↓reduceIte,reduceCtorEq,Nat.reduceEqDiff];exact g5,by simp only [zAz,↓reduceIte,reduceCtorEq,Nat.reduceEqDiff];rw [Int.natCast_succ,Int.add_assoc],rfl,G3,vs2,_,rfl,by simp only [zAz,↓reduceIte,reduceCtorEq,Nat.reduceEqDiff];exact hg3,hlv3,by omega,by omega⟩
      · have hje:j=(offs (spot sp k)).length:=by omega
        subst hje
        rw [List.take_length] at hlv
        (repeat' (first
  | (with_reducible first|refine zJz ?_|refine zGw ?_|refine zEw ?_|refine zEx ?_|refine zEv ?_|refine zJy ?_|refine zGv ?_|refine zBw ?_|refine zDx ?_|refine zBv ?_|refine zCx ?_|refine zEz ?_|refine zCw ?_|refine zCz ?_|refine zBz ?_|refine zDv ?_|refine zDy ?_|refine zAx ?_|refine zAv ?_)
  | refine zCv ?_|refine zEy rfl ?_|refine zIx ?_|refine zIv ?_
  | ((first|refine zGx rfl rfl rfl rfl rfl fun K_ hK_=>?_|refine zGy rfl rfl rfl rfl rfl fun K_ hK_=>?_);simp only [zAz,zDz,zFw,↓reduceIte,reduceCtorEq,Nat.reduceEqDiff,Bool.not_true,Bool.not_false];refine hK_ _ ?_;clear hK_ K_)
  | refine zDw (by decide) ?_
  | ((try first|refine zJx rfl rfl rfl ?_|refine zIy rfl rfl ?_|refine zJw rfl rfl rfl ?_|refine zIw rfl rfl ?_);(refine zIz fun Q_ hQ_=>?_;simp (disch:=first|omega|(simp only [List.length_cons,List.length_nil,List.length_append];omega)) only [bb,bp,zKx,↓reduceIte,reduceCtorEq,Nat.reduceEqDiff,Nat.reduceLT,Nat.reduceLeDiff,Nat.reduceAdd,Nat.reduceMul,Nat.reduceSub,Nat.reduceBEq,Int.reduceToNat,cond_true,cond_false,eq_self,beq_self_eq_true,g1,g2,g5,g6,g7,hix0,hlo,hhi,zHz wf,zHx wf,zFz wf,zHy wf,zBx wf,tEvU2,zHw,zRv,zAw wf];first|(refine zCy (Q:=Q_) (fun hp_=>?_) (fun hp_=>?_) <;> first|(exfalso;omega)|(refine hQ_ _ _ ?_;clear hQ_ Q_))|(refine zBy (Q:=Q_) (fun hp_=>?_) (fun hp_=>?_) <;> first|(exfalso;omega)|(refine hQ_ _ _ ?_;clear hQ_ Q_))|(refine hQ_ _ _ ?_;clear hQ_ Q_)))
  | (refine zFv fun K_ hK_=>?_;simp (disch:=omega) only [zFx,zAz,zGz,↓reduceIte,reduceCtorEq,Nat.reduceEqDiff,Nat.reduceLT];refine hK_ _ ?_;clear hK_ K_)))
        refine zJv _ _ rfl (ret1 (by decide)) ?_
        simp only [zAz,↓reduceIte,reduceCtorEq,Nat.reduceEqDiff]
        obtain ⟨hgl,⟨h0,rfl⟩|⟨idx,rfl,hgi⟩⟩:=hg
        · exfalso
          rw [hlv.1,zXw (m:=manyL (sp.drop (k+1))) _ (fun y _=>yFv _ _)] at h0
          have h1:=xUv (R:=sp.drop (k+1)) (fun r hr=>(hok r (List.mem_of_mem_drop hr)).2.2.1)
          have h2:=Nat.mul_pos (show 0<(offs (spot sp k)).length by omega) h1
          omega
        · refine yCz (by
            show (_ && flat (.sl _ 0 _ none 1))=false
            exact Bool.and_false _) ?_
          have hmin : ∀ w',h.clock≤w'→min h.w w'=h.w:=fun w' h'=>by have:=wf.wle;omega
          rw [hmin _ hw1]
          refine ⟨_,vs,rfl,⟨idx+1,none,by rw [Nat.add_comm];rfl,by simp only [List.getElem?_cons_succ];exact hgi,.inl rfl⟩,.inr ⟨rfl,?_⟩⟩
          rw [hls];exact hlv
    · exact ⟨Nat.zero_le _,by simp only [zAz,↓reduceIte,reduceCtorEq,Nat.reduceEqDiff],by simp only [zAz,↓reduceIte,reduceCtorEq,Nat.reduceEqDiff],by simp only [zAz,↓reduceIte,reduceCtorEq,Nat.reduceEqDiff],by simp only [zAz,↓reduceIte,reduceCtorEq,Nat.reduceEqDiff];simp,rfl,[],[],_,rfl,by simp only [zAz,↓reduceIte,reduceCtorEq,Nat.reduceEqDiff];exact Grow.nil _ _ _ _ _,LV.nil _ _,Nat.le_refl _,by simp⟩
end Go.Proofs.YtkmdidplmfdikaaDoor
end

section
namespace Go.Proofs.YtkmdidplmfdikaaDoor
open Go.Ev
set_option maxRecDepth 100000
set_option linter.unusedSimpArgs false
set_option linter.unusedVariables false
set_option maxHeartbeats 4000000

theorem costL_fold (turn:Int) : ∀ (r:List Int) (t:St5),t.be+turn * t.ch+costL (payI turn) t.a t.b t.s r=(r.foldl mstep t).be+turn * (r.foldl mstep t).ch
  | [],t=>by show t.be+turn * t.ch+0=_;rw [Int.add_zero];rfl
  | c :: r,t=>by
    rw [List.foldl_cons,← costL_fold turn r (mstep t c)]
    have e:costL (payI turn) t.a t.b t.s (c :: r)=payI turn t.a t.b t.s c+costL (payI turn) t.b c (nextSign t.s (t.d c)) r:=rfl
    rw [e,pay_cost]
    show _=t.be+max (t.d c) (0 - t.d c)+turn * (t.ch+chg t.s (t.d c))+costL (payI turn) t.b c (nextSign t.s (t.d c)) r
    rw [Int.mul_add]
    show t.be+turn * t.ch+(max (t.d c) (0 - t.d c)+turn * chg t.s (t.d c)+_)=_
    omega
theorem cost_meas (turn:Int) : ∀ xs:List Int,(measOf xs).2+turn * (measOf xs).1=Cost (payI turn) xs
  | []=>by show (0:Int)+turn * 0=0;omega
  | [x]=>by show (0:Int)+turn * 0=0;omega
  | a :: b :: r=>by
    have:=costL_fold turn r ⟨a,b,0,0,0⟩
    show (mfold a b r).be+turn * (mfold a b r).ch=costL (payI turn) a b 0 r
    unfold mfold
    rw [← this]
    show (0:Int)+turn * 0+costL (payI turn) a b 0 r=costL (payI turn) a b 0 r
    omega
theorem inR_off : ∀ {R:List (Int × Int)} {l:List Int},(∀ r ∈ R,SpotOK r)→InR R l → ∀ x ∈ l,Off x
  | [],l,_,h,x,hx=>by rw [show l=[] from h] at hx;cases hx
  | r :: R,_,hR,⟨c,cs,rfl,h1,h2,h⟩,x,hx=>by
    obtain ⟨o1,o2,_,_⟩:=hR r (by simp)
    rcases List.mem_cons.1 hx with rfl|hx
    · omega
    · exact inR_off (fun r hr=>hR r (by simp [hr])) h x hx
theorem ix_52 {h:H} {k n i:Nat} {c:Option Nat} (hi:i<n):indexAddrE Tryd.prog 52 (.sl (nx h k) 0 n c 1) (.int .i64 (i:Int))=some (.ptr (nx h k) i):=by
  rw [zQv,zTy];dsimp only;rw [ik_52];dsimp only;rw [zYw hi,Nat.zero_add,Nat.mul_one]

end Go.Proofs.YtkmdidplmfdikaaDoor
end

section
namespace Go.Proofs.YtkmdidplmfdikaaDoor
open Go.Ev
set_option maxRecDepth 100000
set_option linter.unusedSimpArgs false
set_option linter.unusedVariables false
set_option maxHeartbeats 4000000

noncomputable def farCells :List AV:=[ii 1099511627776,ii 1099511627776,ii 1099511627776]
def Tab (h:H):Prop:=∃ f,Ev.getObj (posN 0) h=some (AO.ro f)∧f 0=some (ii 1099511627776)∧f 1=some (ii 1099511627776)∧f 2=some (ii 1099511627776)
theorem Tab.up {h:H} (wf:Wf h) (t:Tab h) (l:List AO) (w:Nat):Tab (X h l w):=let ⟨f,h1,h2⟩:=t;⟨f,yLx wf h1 l w,h2⟩
theorem works (h:H) (t:Tab h):(om Tryd.prog KK).call (.fn 9 []) h = .ok (.bool true) h:=by
  refine om_con (c:=cW) (r:=[]) ?_
  have h1:holds1 h (posN 0) farCells=true:=by
    obtain ⟨f,t1,t2,t3,t4⟩:=t
    unfold holds1
    rw [t1]
    show (match readM f 3 0 with|some vs=>eqFL vs farCells|none=>false)=true
    have e:readM f 3 0=some farCells:=by
      simp only [readM,Nat.succ_eq_add_one,Nat.zero_add,Nat.reduceAdd,t2,t3,t4];rfl
    rw [e]
    rfl
  have h2:(heldB cW.tb ((posN 0,posN 0) :: pairs cW.args []) h)=true:=by
    show (holds1 h (posN 0) farCells && true)=true
    rw [h1];rfl
  show (bif fits ((posN 0,posN 0) :: pairs cW.args []) cW.args [] && heldB cW.tb ((posN 0,posN 0) :: pairs cW.args []) h && apartB cW.tb ((posN 0,posN 0) :: pairs cW.args []) && knownB cW.tb ((posN 0,posN 0) :: pairs cW.args []) then
    (match adopt cW.news h with|some (n,h')=>(match ren n cW.ret with|some v=>RV.ok v h'|none=>.no)|none=>.no) else .no)=_
  rw [h2]
  rfl

end Go.Proofs.YtkmdidplmfdikaaDoor
end

section
namespace Go.Proofs.YtkmdidplmfdikaaDoor
open Go.Ev
set_option maxRecDepth 100000
set_option linter.unusedSimpArgs false
set_option linter.unusedVariables false
set_option maxHeartbeats 4000000

theorem tEvU4 :type_of% (And.intro (And.intro (And.intro (And.intro (@zSv) (And.intro (@ia_2) (@sz_2))) (And.intro (And.intro (@ia_3) (@sz_3)) (And.intro (@zSy) (@zTx)))) (And.intro (And.intro (And.intro (@zRx) (@zSx)) (And.intro (@zSz) (@zSw))) (And.intro (And.intro (@zUz) (@wAw)) (And.intro (@wBw) (@zMy))))) (And.intro (And.intro (And.intro (And.intro (@zMz) (@zLw)) (And.intro (@zLx) (@zOv))) (And.intro (And.intro (@yKv) (@yUx)) (And.intro (@pb_38) (@pb_46)))) (And.intro (And.intro (And.intro (@yZw) (@pb_9)) (And.intro (@pb_16) (@pb_17))) (And.intro (And.intro (@pb_18) (@pb_19)) (And.intro (@yUv) (@ni_52)))))):=And.intro (And.intro (And.intro (And.intro (@zSv) (And.intro (@ia_2) (@sz_2))) (And.intro (And.intro (@ia_3) (@sz_3)) (And.intro (@zSy) (@zTx)))) (And.intro (And.intro (And.intro (@zRx) (@zSx)) (And.intro (@zSz) (@zSw))) (And.intro (And.intro (@zUz) (@wAw)) (And.intro (@wBw) (@zMy))))) (And.intro (And.intro (And.intro (And.intro (@zMz) (@zLw)) (And.intro (@zLx) (@zOv))) (And.intro (And.intro (@yKv) (@yUx)) (And.intro (@pb_38) (@pb_46)))) (And.intro (And.intro (And.intro (@yZw) (@pb_9)) (And.intro (@pb_16) (@pb_17))) (And.intro (And.intro (@pb_18) (@pb_19)) (And.intro (@yUv) (@ni_52)))))
def FairQ (h:H) (sp:List (Int × Int)) (turn:Int):AV→H→Prop:=fun v h'=>∃ (L:List AO) (lv:AV),v = .tup [lv,ii (fairL (payI turn) sp).2,ii 0]∧h'=X h L h.w∧LineV h L 2 lv ((fairL (payI turn) sp).1.map ii)
noncomputable def largeR (sp:List (Int × Int)) (turn:Int):Bool:=decide (40<sp.length∨spotsR sp turn=0∧1500<manyM sp)
theorem large (sp:List (Int × Int)) (turn:Int) (a:AV) (h:H) (wf:Wf h) (hs:Sl h a 2 sp.length (zLy sp)) :
    (om Tryd.prog KK).call (.fn 16 [.agg [a,ii turn]]) h = .ok (.bool (largeR sp turn)) h:=by
  have ha1:oneB a=true∧AV.cells a=[a]:=by obtain ⟨_,⟨rfl,_⟩|⟨_,_,_,_,_,_,rfl,_⟩⟩:=hs <;> exact ⟨rfl,rfl⟩
  have hlen : ∀ h',lenE Tryd.prog 22 a h'=some (ii (sp.length:Int)):=fun h'=>hs.len yWv
  by_cases h40:40<sp.length
  · have e:largeR sp turn=true:=decide_eq_true (.inl h40)
    rw [e]
    refine zWv (zKv (fn:=Tryd.f16) Tryd.func16 rfl rfl rfl rfl rfl ?_)
    simp only [zKx]
    (repeat' (first
  | (with_reducible first|refine zJz ?_|refine zGw ?_|refine zEw ?_|refine zEx ?_|refine zEv ?_|refine zJy ?_|refine zGv ?_|refine zBw ?_|refine zDx ?_|refine zBv ?_|refine zCx ?_|refine zEz ?_|refine zCw ?_|refine zCz ?_|refine zBz ?_|refine zDv ?_|refine zDy ?_|refine zAx ?_|refine zAv ?_)
  | refine zCv ?_|refine zEy rfl ?_|refine zIx ?_|refine zIv ?_
  | ((first|refine zGx rfl rfl rfl rfl rfl fun K_ hK_=>?_|refine zGy rfl rfl rfl rfl rfl fun K_ hK_=>?_);simp only [zAz,zDz,zFw,↓reduceIte,reduceCtorEq,Nat.reduceEqDiff,Bool.not_true,Bool.not_false];refine hK_ _ ?_;clear hK_ K_)
  | refine zDw (by decide) ?_
  | ((try first|refine zJx rfl rfl rfl ?_|refine zIy rfl rfl ?_|refine zJw rfl rfl rfl ?_|refine zIw rfl rfl ?_);(refine zIz fun Q_ hQ_=>?_;simp (disch:=first|omega|(simp only [List.length_cons,List.length_nil,List.length_append];omega)) only [bb,bp,zKx,↓reduceIte,reduceCtorEq,Nat.reduceEqDiff,Nat.reduceLT,Nat.reduceLeDiff,Nat.reduceAdd,Nat.reduceMul,Nat.reduceSub,Nat.reduceBEq,Int.reduceToNat,cond_true,cond_false,eq_self,beq_self_eq_true,hlen,ha1.1,ha1.2,zHz wf,zHx wf,zFz wf,zHy wf,zBx wf,tEvU4,zHw,zRv,zAw wf];first|(refine zCy (Q:=Q_) (fun hp_=>?_) (fun hp_=>?_) <;> first|(exfalso;omega)|(refine hQ_ _ _ ?_;clear hQ_ Q_))|(refine zBy (Q:=Q_) (fun hp_=>?_) (fun hp_=>?_) <;> first|(exfalso;omega)|(refine hQ_ _ _ ?_;clear hQ_ Q_))|(refine hQ_ _ _ ?_;clear hQ_ Q_)))
  | (refine zFv fun K_ hK_=>?_;simp (disch:=omega) only [zFx,zAz,zGz,↓reduceIte,reduceCtorEq,Nat.reduceEqDiff,Nat.reduceLT];refine hK_ _ ?_;clear hK_ K_)))
    (refine zJv _ _ rfl (ret1 (by decide)) ?_;simp only [zAz,↓reduceIte,reduceCtorEq,Nat.reduceEqDiff];refine zMw rfl (by omega) ?_)
    exact ⟨rfl,rfl⟩
  · have hCS : ∀ l w,w≤h.clock+l.length→(om Tryd.prog KK).call (.fn 15 [.agg [a,ii turn]]) (X h l w) = .ok (ii (spotsR sp turn)) (X h l w):=fun l w hw=>rCheckSpots sp turn a (by omega) _ (wf.X hw) (hs.up wf _ _)
    by_cases hs0:spotsR sp turn=0
    · obtain ⟨n1,n24,hok,hturn⟩:=yYv hs0
      have hMy : ∀ l w,w≤h.clock+l.length→(om Tryd.prog KK).call (.fn 38 [.agg [a,ii turn]]) (X h l w) = .ok (ii (manyM sp)) (X h l w):=fun l w hw=>many sp (by omega) hok turn a _ (wf.X hw) (hs.up wf _ _)
      have e:largeR sp turn=decide (1500<manyM sp):=by unfold largeR;congr 1;simp [hs0,h40]
      rw [e]
      rw [hs0] at hCS
      refine zWv (zKv (fn:=Tryd.f16) Tryd.func16 rfl rfl rfl rfl rfl ?_)
      simp only [zKx]
      (repeat' (first
  | (with_reducible first|refine zJz ?_|refine zGw ?_|refine zEw ?_|refine zEx ?_|refine zEv ?_|refine zJy ?_|refine zGv ?_|refine zBw ?_|refine zDx ?_|refine zBv ?_|refine zCx ?_|refine zEz ?_|refine zCw ?_|refine zCz ?_|refine zBz ?_|refine zDv ?_|refine zDy ?_|refine zAx ?_|refine zAv ?_)
  | refine zCv ?_|refine zEy rfl ?_|refine zIx ?_|refine zIv ?_
  | ((first|refine zGx rfl rfl rfl rfl rfl fun K_ hK_=>?_|refine zGy rfl rfl rfl rfl rfl fun K_ hK_=>?_);simp only [zAz,zDz,zFw,↓reduceIte,reduceCtorEq,Nat.reduceEqDiff,Bool.not_true,Bool.not_false];refine hK_ _ ?_;clear hK_ K_)
  | refine zDw (by decide) ?_
  | ((try first|refine zJx rfl rfl rfl ?_|refine zIy rfl rfl ?_|refine zJw rfl rfl rfl ?_|refine zIw rfl rfl ?_);(refine zIz fun Q_ hQ_=>?_;simp (disch:=first|omega|(simp only [List.length_cons,List.length_nil,List.length_append];omega)) only [bb,bp,zKx,↓reduceIte,reduceCtorEq,Nat.reduceEqDiff,Nat.reduceLT,Nat.reduceLeDiff,Nat.reduceAdd,Nat.reduceMul,Nat.reduceSub,Nat.reduceBEq,Int.reduceToNat,cond_true,cond_false,eq_self,beq_self_eq_true,hlen,hCS,hMy,ha1.1,ha1.2,zHz wf,zHx wf,zFz wf,zHy wf,zBx wf,tEvU4,zHw,zRv,zAw wf];first|(refine zCy (Q:=Q_) (fun hp_=>?_) (fun hp_=>?_) <;> first|(exfalso;omega)|(refine hQ_ _ _ ?_;clear hQ_ Q_))|(refine zBy (Q:=Q_) (fun hp_=>?_) (fun hp_=>?_) <;> first|(exfalso;omega)|(refine hQ_ _ _ ?_;clear hQ_ Q_))|(refine hQ_ _ _ ?_;clear hQ_ Q_)))
  | (refine zFv fun K_ hK_=>?_;simp (disch:=omega) only [zFx,zAz,zGz,↓reduceIte,reduceCtorEq,Nat.reduceEqDiff,Nat.reduceLT];refine hK_ _ ?_;clear hK_ K_)))
      all_goals (refine zJv _ _ rfl (ret1 (by decide)) ?_;simp only [zAz,↓reduceIte,reduceCtorEq,Nat.reduceEqDiff];refine zMw rfl (by omega) ?_)
      all_goals exact ⟨by simp [*],rfl⟩
    · have e:largeR sp turn=false:=decide_eq_false (by rintro (h|⟨h,_⟩);exact h40 h;exact hs0 h)
      rw [e]
      generalize spotsR sp turn=ee at *
      refine zWv (zKv (fn:=Tryd.f16) Tryd.func16 rfl rfl rfl rfl rfl ?_)
      simp only [zKx]
      (repeat' (first
  | (with_reducible first|refine zJz ?_|refine zGw ?_|refine zEw ?_|refine zEx ?_|refine zEv ?_|refine zJy ?_|refine zGv ?_|refine zBw ?_|refine zDx ?_|refine zBv ?_|refine zCx ?_|refine zEz ?_|refine zCw ?_|refine zCz ?_|refine zBz ?_|refine zDv ?_|refine zDy ?_|refine zAx ?_|refine zAv ?_)
  | refine zCv ?_|refine zEy rfl ?_|refine zIx ?_|refine zIv ?_
  | ((first|refine zGx rfl rfl rfl rfl rfl fun K_ hK_=>?_|refine zGy rfl rfl rfl rfl rfl fun K_ hK_=>?_);simp only [zAz,zDz,zFw,↓reduceIte,reduceCtorEq,Nat.reduceEqDiff,Bool.not_true,Bool.not_false];refine hK_ _ ?_;clear hK_ K_)
  | refine zDw (by decide) ?_
  | ((try first|refine zJx rfl rfl rfl ?_|refine zIy rfl rfl ?_|refine zJw rfl rfl rfl ?_|refine zIw rfl rfl ?_);(refine zIz fun Q_ hQ_=>?_;simp (disch:=first|omega|(simp only [List.length_cons,List.length_nil,List.length_append];omega)) only [bb,bp,zKx,↓reduceIte,reduceCtorEq,Nat.reduceEqDiff,Nat.reduceLT,Nat.reduceLeDiff,Nat.reduceAdd,Nat.reduceMul,Nat.reduceSub,Nat.reduceBEq,Int.reduceToNat,cond_true,cond_false,eq_self,beq_self_eq_true,hlen,hCS,ha1.1,ha1.2,zHz wf,zHx wf,zFz wf,zHy wf,zBx wf,tEvU4,zHw,zRv,zAw wf];first|(refine zCy (Q:=Q_) (fun hp_=>?_) (fun hp_=>?_) <;> first|(exfalso;omega)|(refine hQ_ _ _ ?_;clear hQ_ Q_))|(refine zBy (Q:=Q_) (fun hp_=>?_) (fun hp_=>?_) <;> first|(exfalso;omega)|(refine hQ_ _ _ ?_;clear hQ_ Q_))|(refine hQ_ _ _ ?_;clear hQ_ Q_)))
  | (refine zFv fun K_ hK_=>?_;simp (disch:=omega) only [zFx,zAz,zGz,↓reduceIte,reduceCtorEq,Nat.reduceEqDiff,Nat.reduceLT];refine hK_ _ ?_;clear hK_ K_)))
      all_goals (refine zJv _ _ rfl (ret1 (by decide)) ?_;simp only [zAz,↓reduceIte,reduceCtorEq,Nat.reduceEqDiff];refine zMw rfl (by omega) ?_)
      all_goals exact ⟨by simp [*],rfl⟩

end Go.Proofs.YtkmdidplmfdikaaDoor
end

section
namespace Go.Ev
def tc (Tb:List Int) (i a b s:Nat):Int:=Tb.getD ((i - 1) * 75+(a * 15+b * 3+s)) 0
def stt (sp:List (Int × Int)) (i a b s:Nat):Stt:=⟨i,(spot sp (i - 1)).1+(a:Int),(spot sp i).1+(b:Int),s⟩
def farI :Int:=1099511627776
def NoneT (Tb:List Int) (i a b:Nat):Prop:=tc Tb i a b 0=farI∧tc Tb i a b 1=farI∧tc Tb i a b 2=farI
instance (Tb:List Int) (i a b:Nat):Decidable (NoneT Tb i a b):=by unfold NoneT;infer_instance
def sgF (sp:List (Int × Int)) (i:Nat) (Tb:List Int) (a b:Nat):Nat→List (Stt × Int)
  | 0=>[]
  | m+1=>(if tc Tb i a b (2 - m)<farI then [(stt sp i a b (2 - m),tc Tb i a b (2 - m))] else [])++sgF sp i Tb a b m
def boF (sp:List (Int × Int)) (i:Nat) (Tb:List Int) (a:Nat):Nat→List (Stt × Int)
  | 0=>[]
  | m+1=>if NoneT Tb i a (4 - m) then [] else sgF sp i Tb a (4 - m) 3++boF sp i Tb a m
def aoF (sp:List (Int × Int)) (i:Nat) (Tb:List Int):Nat→List (Stt × Int)
  | 0=>[]
  | m+1=>boF sp i Tb (4 - m) 5++aoF sp i Tb m
def reachL (sp:List (Int × Int)) (i:Nat) (Tb:List Int):List (Stt × Int):=aoF sp i Tb 5
def rowT (Tb:List Int) (i:Nat):List Int:=(Tb.drop ((i - 1) * 75)).take 75
theorem rowT_get {Tb:List Int} {i k:Nat} (hl:(i - 1) * 75+75≤Tb.length) (hk:k<75):(rowT Tb i)[k]? = some (Tb.getD ((i - 1) * 75+k) 0):=by
  unfold rowT
  rw [List.getElem?_take,if_pos hk,List.getElem?_drop]
  simp [List.getD,show (i - 1) * 75+k<Tb.length from by omega]
end Go.Ev
namespace Go.Ev
theorem aoF_step {sp:List (Int × Int)} {i:Nat} {Tb:List Int} {u:Nat} (h:u<5):aoF sp i Tb (5 - u)=boF sp i Tb u 5++aoF sp i Tb (4 - u):=by
  obtain ⟨m,hm,hu⟩ : ∃ m,5 - u=m+1∧4 - m=u:=⟨4 - u,by omega,by omega⟩
  rw [hm,show 4 - u=m from by omega]
  show boF sp i Tb (4 - m) 5++_=_
  rw [hu]
theorem boF_none {sp:List (Int × Int)} {i:Nat} {Tb:List Int} {u v:Nat} (h:v<5) (hn:NoneT Tb i u v):boF sp i Tb u (5 - v)=[]:=by
  obtain ⟨m,hm,hu⟩ : ∃ m,5 - v=m+1∧4 - m=v:=⟨4 - v,by omega,by omega⟩
  rw [hm]
  show (if NoneT Tb i u (4 - m) then _ else _)=_
  rw [hu,if_pos hn]
theorem boF_step {sp:List (Int × Int)} {i:Nat} {Tb:List Int} {u v:Nat} (h:v<5) (hn : ¬ NoneT Tb i u v):boF sp i Tb u (5 - v)=sgF sp i Tb u v 3++boF sp i Tb u (4 - v):=by
  obtain ⟨m,hm,hu⟩ : ∃ m,5 - v=m+1∧4 - m=v:=⟨4 - v,by omega,by omega⟩
  rw [hm,show 4 - v=m from by omega]
  show (if NoneT Tb i u (4 - m) then _ else _)=_
  rw [hu,if_neg hn]
theorem sgF_far {sp:List (Int × Int)} {i:Nat} {Tb:List Int} {u v s:Nat} (h:s<3) (hn : ¬ tc Tb i u v s<farI):sgF sp i Tb u v (3 - s)=sgF sp i Tb u v (2 - s):=by
  obtain ⟨m,hm,hu⟩ : ∃ m,3 - s=m+1∧2 - m=s:=⟨2 - s,by omega,by omega⟩
  rw [hm,show 2 - s=m from by omega]
  show (if _<farI then _ else _)++_=_
  rw [hu,if_neg hn];rfl
theorem sgF_step {sp:List (Int × Int)} {i:Nat} {Tb:List Int} {u v s:Nat} (h:s<3) (hn:tc Tb i u v s<farI):sgF sp i Tb u v (3 - s)=(stt sp i u v s,tc Tb i u v s) :: sgF sp i Tb u v (2 - s):=by
  obtain ⟨m,hm,hu⟩ : ∃ m,3 - s=m+1∧2 - m=s:=⟨2 - s,by omega,by omega⟩
  rw [hm,show 2 - s=m from by omega]
  show (if _<farI then _ else _)++_=_
  rw [hu,if_pos hn];rfl
end Go.Ev
end

section
namespace Go.Ev
theorem chgI_01 (s d:Int):0≤chgI s d∧chgI s d≤1:=by unfold chgI;split <;> omega
def Within :List (Int × Int)→List (Int × Int)→Prop
  | [],[]=>True
  | r :: R,s :: S=>(s.1≤r.1∧r.2≤s.2)∧Within R S
  | _,_=>False
end Go.Ev
end

section
namespace Go.Ev
section
variable {P:Program}
theorem wBz {t e:TypeId} {k:IntKind} {d:Nat} {a b c a' b' c':Int} (hu:P.underlying t=some (.array 3 e)) (he:P.underlying e=some (.int k)) (hz:pureRun P (sizeOf e)=some 1) :
    pureRun P (Op.equalIn (d+2) t (.agg #[.int .i64 a,.int .i64 b,.int .i64 c]) (.agg #[.int .i64 a',.int .i64 b',.int .i64 c']))=some (a == a' && (b == b' && c == c')):=by
  have p0 : ∀ (x y z:Int),pureRun P (part e #[.int .i64 x,.int .i64 y,.int .i64 z] 0)=some (.int .i64 x):=fun x y z=>zZz he rfl
  have p1 : ∀ (x y z:Int),pureRun P (part e #[.int .i64 x,.int .i64 y,.int .i64 z] 1)=some (.int .i64 y):=fun x y z=>zZz he rfl
  have p2 : ∀ (x y z:Int),pureRun P (part e #[.int .i64 x,.int .i64 y,.int .i64 z] 2)=some (.int .i64 z):=fun x y z=>zZz he rfl
  have q : ∀ (x y:Int),pureRun P (Op.equalIn (d+1) e (.int .i64 x) (.int .i64 y))=some (x == y):=fun x y=>yMw he
  rw [Op.equalIn,zNy,zWz hu]
  simp only [Option.bind_some]
  rw [zNy,hz]
  simp only [Option.bind_some]
  simp [Std.Legacy.Range.forIn_eq_forIn_range',List.range',zNy,p0,p1,p2,q,Std.Legacy.Range.size]
  by_cases h1:a=a'
  · have g1:(a == a')=true:=by simpa using h1
    by_cases h2:b=b'
    · have g2:(b == b')=true:=by simpa using h2
      by_cases h3:c=c'
      · have g3:(c == c')=true:=by simpa using h3
        simp [h1,h2,h3,zVz,zNy,p0,p1,p2,q]
      · have g3:(c == c')=false:=by simpa using h3
        simp [h1,h2,h3,g3,zVz,zNy,p0,p1,p2,q]
    · have g2:(b == b')=false:=by simpa using h2
      simp [h1,h2,g2,zVz,zNy,p0,p1,p2,q]
  · have g1:(a == a')=false:=by simpa using h1
    simp [h1,g1,zVz,zNy,p0,p1,p2,q]
theorem b_arr3 {t e:TypeId} {X Y:Operand} {k:IntKind} {a b c a' b' c':Int} (hu:P.underlying t=some (.array 3 e)) (he:P.underlying e=some (.int k)) (hz:pureRun P (sizeOf e)=some 1) (hg:P.eqGuardType P.depth t=false) :
    binE P .eql t X Y (.agg [.int .i64 a,.int .i64 b,.int .i64 c]) (.agg [.int .i64 a',.int .i64 b',.int .i64 c'])=some (.bool (decide (a=a'∧b=b'∧c=c'))):=by
  have es:binSlow P .eql t X Y (.agg [.int .i64 a,.int .i64 b,.int .i64 c]) (.agg [.int .i64 a',.int .i64 b',.int .i64 c'])=pureVal P (do eqGuard .eql t X Y (.agg #[.int .i64 a,.int .i64 b,.int .i64 c]) (.agg #[.int .i64 a',.int .i64 b',.int .i64 c']);binOp .eql t (.agg #[.int .i64 a,.int .i64 b,.int .i64 c]) (.agg #[.int .i64 a',.int .i64 b',.int .i64 c'])):=rfl
  have eb:binE P .eql t X Y (.agg [.int .i64 a,.int .i64 b,.int .i64 c]) (.agg [.int .i64 a',.int .i64 b',.int .i64 c'])=binSlow P .eql t X Y (.agg [.int .i64 a,.int .i64 b,.int .i64 c]) (.agg [.int .i64 a',.int .i64 b',.int .i64 c']):=rfl
  rw [eb,es]
  have e1:pureRun P (eqGuard .eql t X Y (.agg #[.int .i64 a,.int .i64 b,.int .i64 c]) (.agg #[.int .i64 a',.int .i64 b',.int .i64 c']))=some ():=by
    unfold eqGuard
    simp [zNy,yGv,hg,zVz]
  have e2:pureRun P (binOp .eql t (.agg #[.int .i64 a,.int .i64 b,.int .i64 c]) (.agg #[.int .i64 a',.int .i64 b',.int .i64 c']))=some (.bool (decide (a=a'∧b=b'∧c=c'))):=by
    show pureRun P (do pure (Value.bool (← Op.equalIn (9998+2) t _ _)))=_
    rw [zNy,wBz hu he hz]
    have:(a == a' && (b == b' && c == c'))=decide (a=a'∧b=b'∧c=c'):=by
      rw [Bool.eq_iff_iff];simp
    rw [this];rfl
  unfold pureVal
  rw [zNy,e1]
  simp only [Option.bind_some]
  rw [e2]
  rfl
theorem index_agg {t e i n:Nat} {cs:List AV} {v:AV} (hu:P.underlying t=some (.array n e)) (hz:sizeE P e=some 1) (ha:isAggB P e=some false) (hi:i<n) (hv:cs[i]? = some v):indexE P t (.agg cs) (.int .i64 (i:Int))=some v:=by
  unfold indexE
  rw [zTy]
  dsimp only
  rw [hu]
  dsimp only
  rw [hz]
  dsimp only
  rw [Nat.ble_eq_true_of_le (show Nat.succ i≤n from hi)]
  show partE P e cs (i * 1)=_
  unfold partE
  rw [ha,Nat.mul_one]
  exact hv
end
end Go.Ev
end

section
namespace Go.Proofs.YtkmdidplmfdikaaDoor
open Go.Ev
set_option maxRecDepth 100000
set_option linter.unusedSimpArgs false
set_option linter.unusedVariables false
set_option maxHeartbeats 4000000

theorem tEvT16 :type_of% (And.intro (And.intro (And.intro (And.intro (And.intro (@zSv) (And.intro (@ia_2) (@sz_2))) (And.intro (@ze_2) (And.intro (@ia_3) (@sz_3)))) (And.intro (And.intro (@zSy) (And.intro (@zTx) (@zRx))) (And.intro (@zOv) (And.intro (@zVw) (@zUv))))) (And.intro (And.intro (And.intro (@zVx) (And.intro (@zZv) (@zZw))) (And.intro (@zSx) (And.intro (@zSz) (@zSw)))) (And.intro (And.intro (@zXv) (And.intro (@zUz) (@yOv))) (And.intro (@yOw) (And.intro (@yOx) (@yLy)))))) (And.intro (And.intro (And.intro (And.intro (@yKz) (And.intro (@xKz) (@yDv))) (And.intro (@ze_112) (And.intro (@ia_110) (@sz_110)))) (And.intro (And.intro (@xKy) (And.intro (@xFv) (@zXy))) (And.intro (@zXz) (And.intro (@zOw) (@zOx))))) (And.intro (And.intro (And.intro (@zOy) (And.intro (@zOz) (@zMy))) (And.intro (@zMz) (And.intro (@zRz) (@zLw)))) (And.intro (And.intro (@zLx) (And.intro (@zOv) (@yEx))) (And.intro (@yCy) (And.intro (@pb_76) (@yUw))))))):=And.intro (And.intro (And.intro (And.intro (And.intro (@zSv) (And.intro (@ia_2) (@sz_2))) (And.intro (@ze_2) (And.intro (@ia_3) (@sz_3)))) (And.intro (And.intro (@zSy) (And.intro (@zTx) (@zRx))) (And.intro (@zOv) (And.intro (@zVw) (@zUv))))) (And.intro (And.intro (And.intro (@zVx) (And.intro (@zZv) (@zZw))) (And.intro (@zSx) (And.intro (@zSz) (@zSw)))) (And.intro (And.intro (@zXv) (And.intro (@zUz) (@yOv))) (And.intro (@yOw) (And.intro (@yOx) (@yLy)))))) (And.intro (And.intro (And.intro (And.intro (@yKz) (And.intro (@xKz) (@yDv))) (And.intro (@ze_112) (And.intro (@ia_110) (@sz_110)))) (And.intro (And.intro (@xKy) (And.intro (@xFv) (@zXy))) (And.intro (@zXz) (And.intro (@zOw) (@zOx))))) (And.intro (And.intro (And.intro (@zOy) (And.intro (@zOz) (@zMy))) (And.intro (@zMz) (And.intro (@zRz) (@zLw)))) (And.intro (And.intro (@zLx) (And.intro (@zOv) (@yEx))) (And.intro (@yCy) (And.intro (@pb_76) (@yUw))))))
def cntI (a b s c:Int):Int:=chgI s (a - 2 * b+c)
theorem count (A:AV) (turn:Int) (x:Stt) (c:Int) (hi:x.i≤1000) (ha:Off x.a) (hb:Off x.b) (hc:Off c) (h:H) (wf:Wf h) :
    (om Tryd.prog KK).call (.fn 55 [.agg [A,ii turn],stv x,ii c]) h = .ok (.tup [stv (nxt x c),ii (cntI x.a x.b x.s c)]) h:=by
  have hst:stv (nxt x c) = .agg [ii ((x.i:Int)+1),ii x.b,ii c,ii (nextSign x.s (x.a - 2 * x.b+c))]:=by
    unfold stv;rw [nxt_s];rfl
  have hct:cntI x.a x.b x.s c=chg x.s (x.a - 2 * x.b+c):=rfl
  rw [hst,hct]
  refine zWv (zKv (fn:=Tryd.f55) Tryd.func55 rfl rfl rfl rfl rfl ?_)
  simp only [zKx]
  unfold stv
  (repeat' (first
  | (with_reducible first|refine zJz ?_|refine zGw ?_|refine zEw ?_|refine zEx ?_|refine zEv ?_|refine zJy ?_|refine zGv ?_|refine zBw ?_|refine zDx ?_|refine zBv ?_|refine zCx ?_|refine zEz ?_|refine zCw ?_|refine zCz ?_|refine zBz ?_|refine zDv ?_|refine zDy ?_|refine zAx ?_|refine zAv ?_)
  | refine zCv ?_|refine zEy rfl ?_|refine zIx ?_|refine zIv ?_
  | ((first|refine zGx rfl rfl rfl rfl rfl fun K_ hK_=>?_|refine zGy rfl rfl rfl rfl rfl fun K_ hK_=>?_);simp only [zAz,zDz,zFw,↓reduceIte,reduceCtorEq,Nat.reduceEqDiff,Bool.not_true,Bool.not_false];refine hK_ _ ?_;clear hK_ K_)
  | refine zDw (by decide) ?_
  | ((try first|refine zJx rfl rfl rfl ?_|refine zIy rfl rfl ?_|refine zJw rfl rfl rfl ?_|refine zIw rfl rfl ?_);(refine zIz fun Q_ hQ_=>?_;simp (disch:=first|omega|(simp only [List.length_cons,List.length_nil,List.length_append];omega)) only [bb,bp,zKx,↓reduceIte,reduceCtorEq,Nat.reduceEqDiff,Nat.reduceLT,Nat.reduceLeDiff,Nat.reduceAdd,Nat.reduceMul,Nat.reduceSub,Nat.reduceBEq,Int.reduceToNat,cond_true,cond_false,eq_self,beq_self_eq_true,zHz wf,zHx wf,zFz wf,zHy wf,zBx wf,zFy,tEvT16,zHw,zKw,zAw wf,zPz];first|(refine zCy (Q:=Q_) (fun hp_=>?_) (fun hp_=>?_) <;> first|(exfalso;omega)|(refine hQ_ _ _ ?_;clear hQ_ Q_))|(refine zBy (Q:=Q_) (fun hp_=>?_) (fun hp_=>?_) <;> first|(exfalso;omega)|(refine hQ_ _ _ ?_;clear hQ_ Q_))|(refine hQ_ _ _ ?_;clear hQ_ Q_)|(refine xCz (next _ _ _ _ _ (by omega) (by omega) (by omega) (by omega) _ (wf.X (by first|omega|(simp only [List.length_append,List.length_cons,List.length_nil];omega)))) ?_;refine hQ_ _ _ ?_;clear hQ_ Q_)))
  | (refine zFv fun K_ hK_=>?_;simp (disch:=omega) only [zFx,zAz,zGz,↓reduceIte,reduceCtorEq,Nat.reduceEqDiff,Nat.reduceLT];refine hK_ _ ?_;clear hK_ K_)))
  refine zJv _ _ rfl (retc1 (by decide) (by decide) (by simp (disch:=first|omega|(simp only [List.length_cons,List.length_nil,List.length_append];omega)) only [bb,bp,zKx,↓reduceIte,reduceCtorEq,Nat.reduceEqDiff,Nat.reduceLT,Nat.reduceLeDiff,Nat.reduceAdd,Nat.reduceMul,Nat.reduceSub,Nat.reduceBEq,Int.reduceToNat,cond_true,cond_false,eq_self,beq_self_eq_true,zFz wf,tEvT16,zHw,zKw,zAw wf,zPz];rfl)) ?_
  simp only [zAz,↓reduceIte,reduceCtorEq,Nat.reduceEqDiff]
  refine zMw rfl (by omega) ?_
  exact ⟨rfl,rfl⟩
theorem countStep (A:AV) (turn:Int):StepOK (.fn 55 [.agg [A,ii turn]] []) cntI where
  flat:=⟨rfl,rfl⟩
  run:=fun x c hi ha hb hc h wf=>by
    rw [yNw,pb_55]
    exact count A turn x c hi ha hb hc h wf
  le:=fun a b s c ha hb hc=>by have:=chgI_01 s (a - 2 * b+c);unfold cntI;omega

theorem reached (a:AV) (turn i:Int) (q:Pos) (n:Nat) (h:H) (wf:Wf h) (J:List AO) (w:Nat) (hw:w≤h.clock+J.length) :
    (om Tryd.prog KK).call (.fn 56 [prv a turn q n,ii i]) (X h J w) = .ok (.fn 76 [] [.ptr (nx h J.length) 0,.ptr (nx h (J.length+1)) 0]) (X h (J++[.cells (zAy [a,ii turn,.sl q 0 n (some n) 75]) 67,.cells (zAy [ii i]) 3]) w):=by
  have wf':=wf.X hw
  have key : ∀ hb,Wf hb→(om Tryd.prog KK).call (.fn 56 [prv a turn q n,ii i]) hb = .ok (.fn 76 [] [.ptr (nx hb 0) 0,.ptr (nx hb 1) 0]) (X hb [.cells (zAy [a,ii turn,.sl q 0 n (some n) 75]) 67,.cells (zAy [ii i]) 3] hb.w):=by
    clear wf wf'
    intro hb wf
    refine zWv (zKv (fn:=Tryd.f56) Tryd.func56 rfl rfl rfl rfl rfl ?_)
    simp only [zKx]
    unfold prv
    (repeat' (first
  | (with_reducible first|refine zJz ?_|refine zGw ?_|refine zEw ?_|refine zEx ?_|refine zEv ?_|refine zJy ?_|refine zGv ?_|refine zBw ?_|refine zDx ?_|refine zBv ?_|refine zCx ?_|refine zEz ?_|refine zCw ?_|refine zCz ?_|refine zBz ?_|refine zDv ?_|refine zDy ?_|refine zAx ?_|refine zAv ?_)
  | refine zCv ?_|refine zEy rfl ?_|refine zIx ?_|refine zIv ?_
  | ((first|refine zGx rfl rfl rfl rfl rfl fun K_ hK_=>?_|refine zGy rfl rfl rfl rfl rfl fun K_ hK_=>?_);simp only [zAz,zDz,zFw,↓reduceIte,reduceCtorEq,Nat.reduceEqDiff,Bool.not_true,Bool.not_false];refine hK_ _ ?_;clear hK_ K_)
  | refine zDw (by decide) ?_
  | ((try first|refine zJx rfl rfl rfl ?_|refine zIy rfl rfl ?_|refine zJw rfl rfl rfl ?_|refine zIw rfl rfl ?_);(refine zIz fun Q_ hQ_=>?_;simp (disch:=first|omega|(simp only [List.length_cons,List.length_nil,List.length_append];omega)) only [bb,bp,zKx,↓reduceIte,reduceCtorEq,Nat.reduceEqDiff,Nat.reduceLT,Nat.reduceLeDiff,Nat.reduceAdd,Nat.reduceMul,Nat.reduceSub,Nat.reduceBEq,Int.reduceToNat,cond_true,cond_false,eq_self,beq_self_eq_true,zHz wf,zHx wf,zFz wf,zHy wf,zBx wf,zFy,tEvT16,zHw,zKw,zAw wf,zPz];first|(refine zCy (Q:=Q_) (fun hp_=>?_) (fun hp_=>?_) <;> first|(exfalso;omega)|(refine hQ_ _ _ ?_;clear hQ_ Q_))|(refine zBy (Q:=Q_) (fun hp_=>?_) (fun hp_=>?_) <;> first|(exfalso;omega)|(refine hQ_ _ _ ?_;clear hQ_ Q_))|(refine hQ_ _ _ ?_;clear hQ_ Q_)))
  | (refine zFv fun K_ hK_=>?_;simp (disch:=omega) only [zFx,zAz,zGz,↓reduceIte,reduceCtorEq,Nat.reduceEqDiff,Nat.reduceLT];refine hK_ _ ?_;clear hK_ K_)))
    refine zJv _ _ rfl (ret1 (by decide)) ?_
    simp only [zAz,↓reduceIte,reduceCtorEq,Nat.reduceEqDiff]
    refine yCz (by
      show (_ && flat (.fn 76 [] [.ptr _ 0,.ptr _ 0]))=false
      exact Bool.and_false _) ?_
    refine ⟨rfl,?_⟩
    rw [Nat.min_eq_left wf.wle]
  rw [key _ wf',X_X,nx_X,nx_X,X_w]
  rfl

structure RcIn (hb:H) (p q tq:Pos) (a:AV) (i:Nat) (sp:List (Int × Int)):Prop where
  wf:Wf hb
  lp : ∀ J w,load1 p 0 (X hb J w)=some a
  lt : ∀ J w,load1 p 2 (X hb J w)=some (.sl tq 0 (sp.length - 1) (some (sp.length - 1)) 75)
  lq : ∀ J w,load1 q 0 (X hb J w)=some (ii (i:Int))
  sl:Sl hb a 2 sp.length (zLy sp)
  tf:TabF hb
theorem RcIn.of {h:H} (wf:Wf h) {L:List AO} {w k m:Nat} {a:AV} {turn:Int} {i:Nat} {sp:List (Int × Int)} {tq:Pos} (hw:w≤h.clock+L.length) (hk:L[k]? = some (.cells (zAy [a,ii turn,.sl tq 0 (sp.length - 1) (some (sp.length - 1)) 75]) 67)) (hm:L[m]? = some (.cells (zAy [ii (i:Int)]) 3)) (hs:Sl h a 2 sp.length (zLy sp)) (tf:TabF h):RcIn (X h L w) (nx h k) (nx h m) tq a i sp:=by
  have hk' : ∀ J:List AO,(L++J)[k]? = some (.cells (zAy [a,ii turn,.sl tq 0 (sp.length - 1) (some (sp.length - 1)) 75]) 67):=fun J=>by rw [List.getElem?_append_left (zHv hk),hk]
  have hm' : ∀ J:List AO,(L++J)[m]? = some (.cells (zAy [ii (i:Int)]) 3):=fun J=>by rw [List.getElem?_append_left (zHv hm),hm]
  exact ⟨wf.X hw,fun J w'=>by rw [X_X,zHx wf,hk'];rfl,fun J w'=>by rw [X_X,zHx wf,hk'];rfl,fun J w'=>by rw [X_X,zHx wf,hm'];rfl,hs.up wf _ _,tf.up wf _ _⟩
def RowIn (hb:H) (tq:Pos) (i:Nat) (Tb:List Int):Prop:=∀ J w,loadAgg tq ((i - 1) * 75) (some 75) (X hb J w)=some (.agg ((rowT Tb i).map ii))
def HandsB (P:Program) (K:List Con) (B0 B:H→Prop) (fv:AV) (xs:List (List AV)):Prop:=
  ∀ (l:Pos) (hb0:H) (I:Nat→H→Prop) (D:H→Prop) (lo:Nat) (c:Nat→Nat) (d:Nat),lo≤hb0.w→hb0.w≤hb0.clock→(∀ k,c k≤hb0.clock)→d≤hb0.clock→(∀ i h,I i h→B h∧Same hb0 h)→(∀ h,D h→Wf h) →
    (∀ i x,xs[i]? = some x → ∀ hb J w,I i hb→lo≤w→w≤hb.clock+J.length→WV ((om P K).call (.yld l x) (X hb J w)) (YRC lo (c i) d hb J w (I (i+1)) D)) →
    I 0 hb0→B0 hb0→WV (callV P (om P K) fv [.yld l] hb0) fun _ h'=>∃ hb J w,h'=X hb J w∧Same hb0 hb∧lo≤w∧w≤hb0.w∧(I xs.length hb∧(∀ k,k<xs.length→w<c k)∨D hb∧w<d)
def ylds (ys:List (Stt × Int)):List (List AV):=ys.map fun y=>[stv y.1,ii y.2]

theorem yUy {α : Type} {f : α → AV} (xs:List α) (h : ∀ x,oneB (f x)=true):allOne (xs.map f)=true:=by
  induction xs with
  | nil=>rfl
  | cons x xs ih=>rw [List.map_cons,zZy,h x,ih];rfl
theorem app_assoc1 {α : Type} {x : α} {p r:List α} : (p++[x])++r=p++x :: r:=by rw [List.append_assoc];rfl
theorem size2 :pureRun Tryd.prog (sizeOf 2)=some 1:=by kernel_rfl
theorem noGuard109 :Tryd.prog.eqGuardType Tryd.prog.depth 109=false:=by kernel_rfl
theorem reached1 (p q tq:Pos) (a:AV) (i:Nat) (sp:List (Int × Int)) (hsp:SpotsOK sp) (hi:1≤i∧i<sp.length) (Tb:List Int) (hTl:Tb.length=(sp.length - 1) * 75) (hne:0<(reachL sp i Tb).length) :
    HandsB Tryd.prog KK (fun hb=>RowIn hb tq i Tb) (fun hb=>RcIn hb p q tq a i sp) (.fn 76 [] [.ptr p 0,.ptr q 0]) (ylds (reachL sp i Tb)):=by
  intro l hb0 I D lo c d0 hlo0 hlow hc0 hd0 hI hD hy h0 hr0
  have hB:=(hI 0 hb0 h0).1
  have wf:=hB.wf
  have n24:=hsp.n24
  rw [yNw,pb_76]
  show WV ((om Tryd.prog KK).call (.fn 76 [.yld l,.ptr p 0,.ptr q 0]) hb0) _
  refine zKv (fn:=Tryd.f76) Tryd.func76 rfl rfl rfl rfl rfl ?_
  simp only [zKx]
  have hlt:=hB.lt
  have hlq:=hB.lq
  have same0:=(hI 0 hb0 h0).2
  have e1:((i:Int) - 1)=((i - 1:Nat):Int):=by omega
  have j1:=ix_65 (q:=tq) (show i - 1<sp.length - 1 by omega)
  have hrl:(i - 1) * 75+75≤Tb.length:=by
    rw [hTl]
    have:=Nat.mul_le_mul_right 75 (show i - 1+1≤sp.length - 1 by omega)
    omega
  have hrow:=hr0
  unfold RowIn at hrow
  (repeat' (first
  | (with_reducible first|refine zJz ?_|refine zGw ?_|refine zEw ?_|refine zEx ?_|refine zEv ?_|refine zJy ?_|refine zGv ?_|refine zBw ?_|refine zDx ?_|refine zBv ?_|refine zCx ?_|refine zEz ?_|refine zCw ?_|refine zCz ?_|refine zBz ?_|refine zDv ?_|refine zDy ?_|refine zAx ?_|refine zAv ?_)
  | refine zCv ?_|refine zEy rfl ?_|refine zIx ?_|refine zIv ?_
  | ((first|refine zGx rfl rfl rfl rfl rfl fun K_ hK_=>?_|refine zGy rfl rfl rfl rfl rfl fun K_ hK_=>?_);simp only [zAz,zDz,zFw,↓reduceIte,reduceCtorEq,Nat.reduceEqDiff,Bool.not_true,Bool.not_false];refine hK_ _ ?_;clear hK_ K_)
  | refine zDw (by decide) ?_
  | ((try first|refine zJx rfl rfl rfl ?_|refine zIy rfl rfl ?_|refine zJw rfl rfl rfl ?_|refine zIw rfl rfl ?_);(refine zIz fun Q_ hQ_=>?_;simp (disch:=first|omega|(simp only [List.length_cons,List.length_nil,List.length_append];omega)) only [bb,bp,zKx,↓reduceIte,reduceCtorEq,Nat.reduceEqDiff,Nat.reduceLT,Nat.reduceLeDiff,Nat.reduceAdd,Nat.reduceMul,Nat.reduceSub,Nat.reduceBEq,Int.reduceToNat,cond_true,cond_false,eq_self,beq_self_eq_true,hlt,hlq,e1,j1,hrow,zHz wf,zHx wf,zFz wf,zHy wf,zBx wf,zFy,tEvT16,zHw,zKw,zAw wf,zPz];first|(refine zCy (Q:=Q_) (fun hp_=>?_) (fun hp_=>?_) <;> first|(exfalso;omega)|(refine hQ_ _ _ ?_;clear hQ_ Q_))|(refine zBy (Q:=Q_) (fun hp_=>?_) (fun hp_=>?_) <;> first|(exfalso;omega)|(refine hQ_ _ _ ?_;clear hQ_ Q_))|(refine hQ_ _ _ ?_;clear hQ_ Q_)))
  | (refine zFv fun K_ hK_=>?_;simp (disch:=omega) only [zFx,zAz,zGz,↓reduceIte,reduceCtorEq,Nat.reduceEqDiff,Nat.reduceLT];refine hK_ _ ?_;clear hK_ K_)))
  have hrowl:((rowT Tb i).map ii).length=75:=by
    rw [List.length_map];unfold rowT;rw [List.length_take,List.length_drop];omega
  have hall1:allOne ((rowT Tb i).map ii)=true:=yUy _ fun _=>rfl
  refine zIy rfl rfl (xCz (v:=.tup []) (h:=X hb0 [.cells (zAy ((rowT Tb i).map ii)) 112] hb0.clock) (by
    rw [x_store,zFx (by decide),on1_ok,zFx (by decide),on1_ok]
    simp only [zAz,↓reduceIte,reduceCtorEq,Nat.reduceEqDiff]
    rw [storeE_whole (old:=List.replicate 75 (.int .i64 0)) (ee:=112) wf yDv (by decide) hrowl (by simp) rfl hall1]
    simp [Nat.min_eq_left]
    rfl) ?_)
  (repeat' (first
  | (with_reducible first|refine zJz ?_|refine zGw ?_|refine zEw ?_|refine zEx ?_|refine zEv ?_|refine zJy ?_|refine zGv ?_|refine zBw ?_|refine zDx ?_|refine zBv ?_|refine zCx ?_|refine zEz ?_|refine zCw ?_|refine zCz ?_|refine zBz ?_|refine zDv ?_|refine zDy ?_|refine zAx ?_|refine zAv ?_)
  | refine zCv ?_|refine zEy rfl ?_|refine zIx ?_|refine zIv ?_
  | ((first|refine zGx rfl rfl rfl rfl rfl fun K_ hK_=>?_|refine zGy rfl rfl rfl rfl rfl fun K_ hK_=>?_);simp only [zAz,zDz,zFw,↓reduceIte,reduceCtorEq,Nat.reduceEqDiff,Bool.not_true,Bool.not_false];refine hK_ _ ?_;clear hK_ K_)
  | refine zDw (by decide) ?_
  | ((try first|refine zJx rfl rfl rfl ?_|refine zIy rfl rfl ?_|refine zJw rfl rfl rfl ?_|refine zIw rfl rfl ?_);(refine zIz fun Q_ hQ_=>?_;simp (disch:=first|omega|(simp only [List.length_cons,List.length_nil,List.length_append];omega)) only [bb,bp,zKx,↓reduceIte,reduceCtorEq,Nat.reduceEqDiff,Nat.reduceLT,Nat.reduceLeDiff,Nat.reduceAdd,Nat.reduceMul,Nat.reduceSub,Nat.reduceBEq,Int.reduceToNat,cond_true,cond_false,eq_self,beq_self_eq_true,zHz wf,zHx wf,zFz wf,zHy wf,zBx wf,zFy,tEvT16,zHw,zKw,zAw wf,zPz];first|(refine zCy (Q:=Q_) (fun hp_=>?_) (fun hp_=>?_) <;> first|(exfalso;omega)|(refine hQ_ _ _ ?_;clear hQ_ Q_))|(refine zBy (Q:=Q_) (fun hp_=>?_) (fun hp_=>?_) <;> first|(exfalso;omega)|(refine hQ_ _ _ ?_;clear hQ_ Q_))|(refine hQ_ _ _ ?_;clear hQ_ Q_)))
  | (refine zFv fun K_ hK_=>?_;simp (disch:=omega) only [zFx,zAz,zGz,↓reduceIte,reduceCtorEq,Nat.reduceEqDiff,Nat.reduceLT];refine hK_ _ ?_;clear hK_ K_)))
  have hrg : ∀ u v s,u<5→v<5→s<3→((rowT Tb i).map ii)[u * 15+v * 3+s]? = some (ii (tc Tb i u v s)):=fun u v s hu hv hs=>by
    rw [List.getElem?_map,rowT_get hrl (by omega)];rfl
  generalize hys:reachL sp i Tb=ys at *
  generalize hro:AO.cells (zAy ((rowT Tb i).map ii)) 112=ro at *
  have hyl:(ylds ys).length=ys.length:=by unfold ylds;rw [List.length_map]
  have i1:i - 1<sp.length:=by omega
  have i2:i<sp.length:=hi.2
  obtain ⟨⟨o1,o2⟩,⟨o3,o4⟩,o5,o6⟩:=hsp.at i1
  obtain ⟨⟨r1,r2⟩,⟨r3,r4⟩,r5,r6⟩:=hsp.at i2
  clear hlt hlq wf hB hrow hr0
  refine zTv (fun (u:Nat) f d h'=>u≤5∧(f 0 = .yld l∧f 1 = .ptr p 0∧f 2 = .ptr q 0∧f 4 = .ptr (nx hb0 0) 0)∧f 16=ii (u:Int)∧d=[] ∧ ∃ hb J w pre,h'=X hb (ro :: J) w∧I pre.length hb∧pre++aoF sp i Tb (5 - u)=ys∧lo≤w∧w≤hb.clock∧(∀ j,j<pre.length→w<c j)) (fun u=>5 - u) ?_ (5+1) 0 (by omega) ?_
  rotate_left 1
  · exact ⟨by omega,⟨by ((try simp only [zAz,↓reduceIte,reduceCtorEq,Nat.reduceEqDiff]) <;> (try rfl)),by ((try simp only [zAz,↓reduceIte,reduceCtorEq,Nat.reduceEqDiff]) <;> (try rfl)),by ((try simp only [zAz,↓reduceIte,reduceCtorEq,Nat.reduceEqDiff]) <;> (try rfl)),by ((try simp only [zAz,↓reduceIte,reduceCtorEq,Nat.reduceEqDiff]) <;> (try rfl))⟩,by ((try simp only [zAz,↓reduceIte,reduceCtorEq,Nat.reduceEqDiff]) <;> (try rfl)),rfl,hb0,[],_,[],rfl,h0,by rw [← hys];rfl,by omega,by omega,fun j hj=>absurd hj (Nat.not_lt_zero _)⟩
  rintro u f d h' ⟨hu,⟨g0,g1,g2,g4⟩,g16,rfl,hb,J,w,pre,rfl,hIk,hpre,hlo,hw,hwc⟩
  have wf:=(hI _ hb hIk).1.wf
  by_cases hlu:u<5
  · (repeat' (first
  | (with_reducible first|refine zJz ?_|refine zGw ?_|refine zEw ?_|refine zEx ?_|refine zEv ?_|refine zJy ?_|refine zGv ?_|refine zBw ?_|refine zDx ?_|refine zBv ?_|refine zCx ?_|refine zEz ?_|refine zCw ?_|refine zCz ?_|refine zBz ?_|refine zDv ?_|refine zDy ?_|refine zAx ?_|refine zAv ?_)
  | refine zCv ?_|refine zEy rfl ?_|refine zIx ?_|refine zIv ?_
  | ((first|refine zGx rfl rfl rfl rfl rfl fun K_ hK_=>?_|refine zGy rfl rfl rfl rfl rfl fun K_ hK_=>?_);simp only [zAz,zDz,zFw,↓reduceIte,reduceCtorEq,Nat.reduceEqDiff,Bool.not_true,Bool.not_false];refine hK_ _ ?_;clear hK_ K_)
  | refine zDw (by decide) ?_
  | ((try first|refine zJx rfl rfl rfl ?_|refine zIy rfl rfl ?_|refine zJw rfl rfl rfl ?_|refine zIw rfl rfl ?_);(refine zIz fun Q_ hQ_=>?_;simp (disch:=first|omega|(simp only [List.length_cons,List.length_nil,List.length_append];omega)) only [bb,bp,zKx,↓reduceIte,reduceCtorEq,Nat.reduceEqDiff,Nat.reduceLT,Nat.reduceLeDiff,Nat.reduceAdd,Nat.reduceMul,Nat.reduceSub,Nat.reduceBEq,Int.reduceToNat,cond_true,cond_false,eq_self,beq_self_eq_true,g0,g1,g2,g4,g16,tEvT16,zHw,zKw,zAw wf,zPz];first|(refine zCy (Q:=Q_) (fun hp_=>?_) (fun hp_=>?_) <;> first|(exfalso;omega)|(refine hQ_ _ _ ?_;clear hQ_ Q_))|(refine zBy (Q:=Q_) (fun hp_=>?_) (fun hp_=>?_) <;> first|(exfalso;omega)|(refine hQ_ _ _ ?_;clear hQ_ Q_))|(refine hQ_ _ _ ?_;clear hQ_ Q_)))
  | (refine zFv fun K_ hK_=>?_;simp (disch:=omega) only [zFx,zAz,zGz,↓reduceIte,reduceCtorEq,Nat.reduceEqDiff,Nat.reduceLT];refine hK_ _ ?_;clear hK_ K_)))
    rw [aoF_step hlu] at hpre
    refine zTv (fun (v:Nat) f d h'=>v≤5∧(f 0 = .yld l∧f 1 = .ptr p 0∧f 2 = .ptr q 0∧f 4 = .ptr (nx hb0 0) 0)∧(f 16=ii (u:Int)∧f 5=ii (u:Int))∧f 19=ii (v:Int)∧d=[] ∧ ∃ hb J w pre,h'=X hb (ro :: J) w∧I pre.length hb∧pre++(boF sp i Tb u (5 - v)++aoF sp i Tb (4 - u))=ys∧lo≤w∧w≤hb.clock∧(∀ j,j<pre.length→w<c j)) (fun v=>5 - v) ?_ (5+1) 0 (by omega) ?_
    rotate_left 1
    · exact ⟨by omega,⟨by simp only [zAz,↓reduceIte,reduceCtorEq,Nat.reduceEqDiff];exact g0,by simp only [zAz,↓reduceIte,reduceCtorEq,Nat.reduceEqDiff];exact g1,by simp only [zAz,↓reduceIte,reduceCtorEq,Nat.reduceEqDiff];exact g2,by simp only [zAz,↓reduceIte,reduceCtorEq,Nat.reduceEqDiff];exact g4⟩,⟨by simp only [zAz,↓reduceIte,reduceCtorEq,Nat.reduceEqDiff];exact g16,by simp only [zAz,↓reduceIte,reduceCtorEq,Nat.reduceEqDiff]⟩,by simp only [zAz,↓reduceIte,reduceCtorEq,Nat.reduceEqDiff];rfl,rfl,hb,J,w,pre,rfl,hIk,hpre,hlo,hw,hwc⟩
    clear g0 g1 g2 g4 g16 wf hIk hpre hlo hw hwc
    rintro v f d h' ⟨hv,⟨g0,g1,g2,g4⟩,⟨g16,g5⟩,g19,rfl,hb,J,w,pre,rfl,hIk,hpre,hlo,hw,hwc⟩
    have wf:=(hI _ hb hIk).1.wf
    by_cases hlv:v<5
    · have hB:=(hI _ hb hIk).1
      have hs:=(hI _ hb hIk).2
      have hG : ∀ l w,loadAgg (posN 0) 0 (some 3) (X hb l w)=some (.agg [ii farI,ii farI,ii farI]):=fun l w=>(hB.tf.up wf l w).load
      have j2:=ix_112 (q:=nx hb 0) (off:=0) hlu
      rw [Nat.zero_add] at j2
      have j3:=ix_110 (q:=nx hb 0) (off:=u * 15) hlv
      have g4':=g4
      rw [← hs.nx] at g4'
      have hcell : ∀ J w,loadAgg (nx hb 0) (u * 15+v * 3) (some 3) (X hb (ro :: J) w)=some (.agg [ii (tc Tb i u v 0),ii (tc Tb i u v 1),ii (tc Tb i u v 2)]):=fun J w=>by
        rw [zFz wf,List.getElem?_cons_zero,← hro,zPv (by decide),if_pos (by rw [hrowl];omega)]
        congr 2
        refine List.ext_getElem? fun k=>?_
        rw [List.getElem?_take]
        by_cases hk:k<3
        · rw [if_pos hk,List.getElem?_drop,hrg u v k hlu hlv hk]
          rcases (show k=0∨k=1∨k=2 by omega) with rfl|rfl|rfl <;> rfl
        · rw [if_neg hk,List.getElem?_eq_none (by simp;omega)]
      have heq : ∀ (x y:Operand),binE Tryd.prog .eql 109 x y (.agg [ii (tc Tb i u v 0),ii (tc Tb i u v 1),ii (tc Tb i u v 2)]) (.agg [ii farI,ii farI,ii farI])=some (.bool (decide (NoneT Tb i u v))):=fun x y=>b_arr3 un_109 un_2 size2 noGuard109
      by_cases hn:NoneT Tb i u v
      · rw [decide_eq_true hn] at heq
        (repeat' (first
  | (with_reducible first|refine zJz ?_|refine zGw ?_|refine zEw ?_|refine zEx ?_|refine zEv ?_|refine zJy ?_|refine zGv ?_|refine zBw ?_|refine zDx ?_|refine zBv ?_|refine zCx ?_|refine zEz ?_|refine zCw ?_|refine zCz ?_|refine zBz ?_|refine zDv ?_|refine zDy ?_|refine zAx ?_|refine zAv ?_)
  | refine zCv ?_|refine zEy rfl ?_|refine zIx ?_|refine zIv ?_
  | ((first|refine zGx rfl rfl rfl rfl rfl fun K_ hK_=>?_|refine zGy rfl rfl rfl rfl rfl fun K_ hK_=>?_);simp only [zAz,zDz,zFw,↓reduceIte,reduceCtorEq,Nat.reduceEqDiff,Bool.not_true,Bool.not_false];refine hK_ _ ?_;clear hK_ K_)
  | refine zDw (by decide) ?_
  | ((try first|refine zJx rfl rfl rfl ?_|refine zIy rfl rfl ?_|refine zJw rfl rfl rfl ?_|refine zIw rfl rfl ?_);(refine zIz fun Q_ hQ_=>?_;simp (disch:=first|omega|(simp only [List.length_cons,List.length_nil,List.length_append];omega)) only [bb,bp,zKx,↓reduceIte,reduceCtorEq,Nat.reduceEqDiff,Nat.reduceLT,Nat.reduceLeDiff,Nat.reduceAdd,Nat.reduceMul,Nat.reduceSub,Nat.reduceBEq,Int.reduceToNat,cond_true,cond_false,eq_self,beq_self_eq_true,g0,g1,g2,g4',g5,g16,g19,tEvT16,zHw,zKw,zAw wf,zPz];first|(refine zCy (Q:=Q_) (fun hp_=>?_) (fun hp_=>?_) <;> first|(exfalso;omega)|(refine hQ_ _ _ ?_;clear hQ_ Q_))|(refine zBy (Q:=Q_) (fun hp_=>?_) (fun hp_=>?_) <;> first|(exfalso;omega)|(refine hQ_ _ _ ?_;clear hQ_ Q_))|(refine hQ_ _ _ ?_;clear hQ_ Q_)))
  | (refine zFv fun K_ hK_=>?_;simp (disch:=omega) only [zFx,zAz,zGz,↓reduceIte,reduceCtorEq,Nat.reduceEqDiff,Nat.reduceLT];refine hK_ _ ?_;clear hK_ K_)))
        refine zNw [.no,.no,.no,.no,.no,.no,.full] (by kernel_rfl) ?_
        (repeat' (first
  | (with_reducible first|refine zJz ?_|refine zGw ?_|refine zEw ?_|refine zEx ?_|refine zEv ?_|refine zJy ?_|refine zGv ?_|refine zBw ?_|refine zDx ?_|refine zBv ?_|refine zCx ?_|refine zEz ?_|refine zCw ?_|refine zCz ?_|refine zBz ?_|refine zDv ?_|refine zDy ?_|refine zAx ?_|refine zAv ?_)
  | refine zCv ?_|refine zEy rfl ?_|refine zIx ?_|refine zIv ?_
  | ((first|refine zGx rfl rfl rfl rfl rfl fun K_ hK_=>?_|refine zGy rfl rfl rfl rfl rfl fun K_ hK_=>?_);simp only [zAz,zDz,zFw,↓reduceIte,reduceCtorEq,Nat.reduceEqDiff,Bool.not_true,Bool.not_false];refine hK_ _ ?_;clear hK_ K_)
  | refine zDw (by decide) ?_
  | ((try first|refine zJx rfl rfl rfl ?_|refine zIy rfl rfl ?_|refine zJw rfl rfl rfl ?_|refine zIw rfl rfl ?_);(refine zIz fun Q_ hQ_=>?_;simp (disch:=first|omega|(simp only [List.length_cons,List.length_nil,List.length_append];omega)) only [bb,bp,zKx,↓reduceIte,reduceCtorEq,Nat.reduceEqDiff,Nat.reduceLT,Nat.reduceLeDiff,Nat.reduceAdd,Nat.reduceMul,Nat.reduceSub,Nat.reduceBEq,Int.reduceToNat,cond_true,cond_false,eq_self,beq_self_eq_true,g0,g1,g2,g4',g5,g16,g19,j2,j3,hcell,hG,heq,zHz wf,zHx wf,zFz wf,zHy wf,zBx wf,zFy,tEvT16,zHw,zKw,zAw wf,zPz];first|(refine zCy (Q:=Q_) (fun hp_=>?_) (fun hp_=>?_) <;> first|(exfalso;omega)|(refine hQ_ _ _ ?_;clear hQ_ Q_))|(refine zBy (Q:=Q_) (fun hp_=>?_) (fun hp_=>?_) <;> first|(exfalso;omega)|(refine hQ_ _ _ ?_;clear hQ_ Q_))|(refine hQ_ _ _ ?_;clear hQ_ Q_)))
  | (refine zFv fun K_ hK_=>?_;simp (disch:=omega) only [zFx,zAz,zGz,↓reduceIte,reduceCtorEq,Nat.reduceEqDiff,Nat.reduceLT];refine hK_ _ ?_;clear hK_ K_)))
        rw [boF_none hlv hn,List.nil_append] at hpre
        exact zKy (u+1) (by omega) ⟨hlu,⟨by simp only [zAz,↓reduceIte,reduceCtorEq,Nat.reduceEqDiff];exact g0,by simp only [zAz,↓reduceIte,reduceCtorEq,Nat.reduceEqDiff];exact g1,by simp only [zAz,↓reduceIte,reduceCtorEq,Nat.reduceEqDiff];exact g2,by simp only [zAz,↓reduceIte,reduceCtorEq,Nat.reduceEqDiff];exact g4⟩,by simp only [zAz,↓reduceIte,reduceCtorEq,Nat.reduceEqDiff];rfl,rfl,hb,J,w,pre,rfl,hIk,by rw [show 5 - (u+1)=4 - u from by omega];exact hpre,hlo,hw,hwc⟩
      · rw [decide_eq_false hn] at heq
        (repeat' (first
  | (with_reducible first|refine zJz ?_|refine zGw ?_|refine zEw ?_|refine zEx ?_|refine zEv ?_|refine zJy ?_|refine zGv ?_|refine zBw ?_|refine zDx ?_|refine zBv ?_|refine zCx ?_|refine zEz ?_|refine zCw ?_|refine zCz ?_|refine zBz ?_|refine zDv ?_|refine zDy ?_|refine zAx ?_|refine zAv ?_)
  | refine zCv ?_|refine zEy rfl ?_|refine zIx ?_|refine zIv ?_
  | ((first|refine zGx rfl rfl rfl rfl rfl fun K_ hK_=>?_|refine zGy rfl rfl rfl rfl rfl fun K_ hK_=>?_);simp only [zAz,zDz,zFw,↓reduceIte,reduceCtorEq,Nat.reduceEqDiff,Bool.not_true,Bool.not_false];refine hK_ _ ?_;clear hK_ K_)
  | refine zDw (by decide) ?_
  | ((try first|refine zJx rfl rfl rfl ?_|refine zIy rfl rfl ?_|refine zJw rfl rfl rfl ?_|refine zIw rfl rfl ?_);(refine zIz fun Q_ hQ_=>?_;simp (disch:=first|omega|(simp only [List.length_cons,List.length_nil,List.length_append];omega)) only [bb,bp,zKx,↓reduceIte,reduceCtorEq,Nat.reduceEqDiff,Nat.reduceLT,Nat.reduceLeDiff,Nat.reduceAdd,Nat.reduceMul,Nat.reduceSub,Nat.reduceBEq,Int.reduceToNat,cond_true,cond_false,eq_self,beq_self_eq_true,g0,g1,g2,g4',g5,g16,g19,tEvT16,zHw,zKw,zAw wf,zPz];first|(refine zCy (Q:=Q_) (fun hp_=>?_) (fun hp_=>?_) <;> first|(exfalso;omega)|(refine hQ_ _ _ ?_;clear hQ_ Q_))|(refine zBy (Q:=Q_) (fun hp_=>?_) (fun hp_=>?_) <;> first|(exfalso;omega)|(refine hQ_ _ _ ?_;clear hQ_ Q_))|(refine hQ_ _ _ ?_;clear hQ_ Q_)))
  | (refine zFv fun K_ hK_=>?_;simp (disch:=omega) only [zFx,zAz,zGz,↓reduceIte,reduceCtorEq,Nat.reduceEqDiff,Nat.reduceLT];refine hK_ _ ?_;clear hK_ K_)))
        refine zNw [.no,.no,.no,.no,.no,.no,.full] (by kernel_rfl) ?_
        (repeat' (first
  | (with_reducible first|refine zJz ?_|refine zGw ?_|refine zEw ?_|refine zEx ?_|refine zEv ?_|refine zJy ?_|refine zGv ?_|refine zBw ?_|refine zDx ?_|refine zBv ?_|refine zCx ?_|refine zEz ?_|refine zCw ?_|refine zCz ?_|refine zBz ?_|refine zDv ?_|refine zDy ?_|refine zAx ?_|refine zAv ?_)
  | refine zCv ?_|refine zEy rfl ?_|refine zIx ?_|refine zIv ?_
  | ((first|refine zGx rfl rfl rfl rfl rfl fun K_ hK_=>?_|refine zGy rfl rfl rfl rfl rfl fun K_ hK_=>?_);simp only [zAz,zDz,zFw,↓reduceIte,reduceCtorEq,Nat.reduceEqDiff,Bool.not_true,Bool.not_false];refine hK_ _ ?_;clear hK_ K_)
  | refine zDw (by decide) ?_
  | ((try first|refine zJx rfl rfl rfl ?_|refine zIy rfl rfl ?_|refine zJw rfl rfl rfl ?_|refine zIw rfl rfl ?_);(refine zIz fun Q_ hQ_=>?_;simp (disch:=first|omega|(simp only [List.length_cons,List.length_nil,List.length_append];omega)) only [bb,bp,zKx,↓reduceIte,reduceCtorEq,Nat.reduceEqDiff,Nat.reduceLT,Nat.reduceLeDiff,Nat.reduceAdd,Nat.reduceMul,Nat.reduceSub,Nat.reduceBEq,Int.reduceToNat,cond_true,cond_false,eq_self,beq_self_eq_true,g0,g1,g2,g4',g5,g16,g19,j2,j3,hcell,hG,heq,zHz wf,zHx wf,zFz wf,zHy wf,zBx wf,zFy,tEvT16,zHw,zKw,zAw wf,zPz];first|(refine zCy (Q:=Q_) (fun hp_=>?_) (fun hp_=>?_) <;> first|(exfalso;omega)|(refine hQ_ _ _ ?_;clear hQ_ Q_))|(refine zBy (Q:=Q_) (fun hp_=>?_) (fun hp_=>?_) <;> first|(exfalso;omega)|(refine hQ_ _ _ ?_;clear hQ_ Q_))|(refine hQ_ _ _ ?_;clear hQ_ Q_)))
  | (refine zFv fun K_ hK_=>?_;simp (disch:=omega) only [zFx,zAz,zGz,↓reduceIte,reduceCtorEq,Nat.reduceEqDiff,Nat.reduceLT];refine hK_ _ ?_;clear hK_ K_)))
        rw [boF_step hlv hn,List.append_assoc] at hpre
        refine zTv (fun (s:Nat) f d h'=>s≤3∧(f 0 = .yld l∧f 1 = .ptr p 0∧f 2 = .ptr q 0∧f 4 = .ptr (nx hb0 0) 0)∧(f 16=ii (u:Int)∧f 5=ii (u:Int)∧f 19=ii (v:Int)∧f 6=ii (v:Int))∧f 33 = .agg [ii (tc Tb i u v 0),ii (tc Tb i u v 1),ii (tc Tb i u v 2)]∧f 34=ii (s:Int)∧d=[] ∧ ∃ hb J w pre,h'=X hb (ro :: J) w∧I pre.length hb∧pre++(sgF sp i Tb u v (3 - s)++(boF sp i Tb u (4 - v)++aoF sp i Tb (4 - u)))=ys∧lo≤w∧w≤hb.clock∧(∀ j,j<pre.length→w<c j)) (fun s=>3 - s) ?_ (3+1) 0 (by omega) ?_
        rotate_left 1
        · exact ⟨by omega,⟨by simp only [zAz,↓reduceIte,reduceCtorEq,Nat.reduceEqDiff];exact g0,by simp only [zAz,↓reduceIte,reduceCtorEq,Nat.reduceEqDiff];exact g1,by simp only [zAz,↓reduceIte,reduceCtorEq,Nat.reduceEqDiff];exact g2,by simp only [zAz,↓reduceIte,reduceCtorEq,Nat.reduceEqDiff];exact g4⟩,⟨by simp only [zAz,↓reduceIte,reduceCtorEq,Nat.reduceEqDiff];exact g16,by simp only [zAz,↓reduceIte,reduceCtorEq,Nat.reduceEqDiff];exact g5,by simp only [zAz,↓reduceIte,reduceCtorEq,Nat.reduceEqDiff];exact g19,by simp only [zAz,↓reduceIte,reduceCtorEq,Nat.reduceEqDiff]⟩,by simp only [zAz,↓reduceIte,reduceCtorEq,Nat.reduceEqDiff],by simp only [zAz,↓reduceIte,reduceCtorEq,Nat.reduceEqDiff];rfl,rfl,hb,J,w,pre,rfl,hIk,hpre,hlo,hw,hwc⟩
        clear g0 g1 g2 g4 g4' g5 g16 g19 wf hB hs hG j2 j3 hcell heq hIk hpre hlo hw hwc
        rintro s f d h' ⟨hs3,⟨g0,g1,g2,g4⟩,⟨g16,g5,g19,g6⟩,g33,g34,rfl,hb,J,w,pre,rfl,hIk,hpre,hlo,hw,hwc⟩
        have hB:=(hI _ hb hIk).1
        have wf:=hB.wf
        have hs:=(hI _ hb hIk).2
        by_cases hls:s<3
        · have hlp:=hB.lp
          have hlq:=hB.lq
          obtain ⟨id0,off0,hix0,hld0⟩:=hB.sl.at wf i1 yLz
          obtain ⟨id1,off1,hix1,hld1⟩:=hB.sl.at wf i2 yLz
          have hlo0 : ∀ l w,load1 id0 off0 (X hb l w)=some (ii (spot sp (i - 1)).1):=fun l w=>by have:=(hld0 l w).1 0 (by decide);rw [Nat.add_zero,(zRy i1).1,zQy] at this;exact this
          have hlo1 : ∀ l w,load1 id1 off1 (X hb l w)=some (ii (spot sp i).1):=fun l w=>by have:=(hld1 l w).1 0 (by decide);rw [Nat.add_zero,(zRy i2).1,zQy] at this;exact this
          have hidx : ∀ (x:Operand),indexE Tryd.prog 109 (.agg [ii (tc Tb i u v 0),ii (tc Tb i u v 1),ii (tc Tb i u v 2)]) (.int .i64 (s:Int))=some (ii (tc Tb i u v s)):=fun x=>index_agg un_109 sz_2 ia_2 hls (by
            rcases (show s=0∨s=1∨s=2 by omega) with rfl|rfl|rfl <;> rfl)
          have hidx':=hidx (.tmp 0)
          have hsA : ∀ w',w'≤hb.clock+(J.length+2)→(om Tryd.prog KK).call (.fn 36 [.sl (nx hb (J.length+1)) 0 2 (some 2) 1]) (X hb (ro :: (J++[.cells (zAy [ii (spot sp (i - 1)).1,ii (u:Int)]) 2])) w') = .ok (ii ((spot sp (i - 1)).1+(u:Int))) (X hb (ro :: (J++[.cells (zAy [ii (spot sp (i - 1)).1,ii (u:Int)]) 2])) w'):=fun w' hw'=>sum2 wf (by rw [List.getElem?_cons_succ,zPx];rfl) (by simp only [List.length_append,List.length_cons,List.length_nil];omega) (by omega) (by omega)
          have hsB : ∀ (o:AO) w',w'≤hb.clock+(J.length+3)→(om Tryd.prog KK).call (.fn 36 [.sl (nx hb (J.length+1+1)) 0 2 (some 2) 1]) (X hb (ro :: (J++[o,.cells (zAy [ii (spot sp i).1,ii (v:Int)]) 2])) w') = .ok (ii ((spot sp i).1+(v:Int))) (X hb (ro :: (J++[o,.cells (zAy [ii (spot sp i).1,ii (v:Int)]) 2])) w'):=fun o w' hw'=>sum2 wf (by rw [List.getElem?_cons_succ,zLv];rfl) (by simp only [List.length_append,List.length_cons,List.length_nil];omega) (by omega) (by omega)
          have g4':=g4
          rw [← hs.nx] at g4'
          clear hidx
          by_cases hfar:tc Tb i u v s<farI
          · rw [sgF_step hls hfar,List.cons_append] at hpre
            have hget:(ylds ys)[pre.length]? = some [stv (stt sp i u v s),ii (tc Tb i u v s)]:=by
              unfold ylds
              rw [List.getElem?_map,← hpre,zPx];rfl
            have hst:stv (stt sp i u v s) = .agg [ii (i:Int),ii ((spot sp (i - 1)).1+(u:Int)),ii ((spot sp i).1+(v:Int)),ii (s:Int)]:=rfl
            rw [hst] at hget
            have hfar':tc Tb i u v s<1099511627776:=hfar
            clear hst hfar
            generalize hst:stt sp i u v s=xst at hpre
            generalize tc Tb i u v s=tv at *
            (repeat' (first
  | (with_reducible first|refine zJz ?_|refine zGw ?_|refine zEw ?_|refine zEx ?_|refine zEv ?_|refine zJy ?_|refine zGv ?_|refine zBw ?_|refine zDx ?_|refine zBv ?_|refine zCx ?_|refine zEz ?_|refine zCw ?_|refine zCz ?_|refine zBz ?_|refine zDv ?_|refine zDy ?_|refine zAx ?_|refine zAv ?_)
  | refine zCv ?_|refine zEy rfl ?_|refine zIx ?_|refine zIv ?_
  | ((first|refine zGx rfl rfl rfl rfl rfl fun K_ hK_=>?_|refine zGy rfl rfl rfl rfl rfl fun K_ hK_=>?_);simp only [zAz,zDz,zFw,↓reduceIte,reduceCtorEq,Nat.reduceEqDiff,Bool.not_true,Bool.not_false];refine hK_ _ ?_;clear hK_ K_)
  | refine zDw (by decide) ?_
  | ((try first|refine zJx rfl rfl rfl ?_|refine zIy rfl rfl ?_|refine zJw rfl rfl rfl ?_|refine zIw rfl rfl ?_);(refine zIz fun Q_ hQ_=>?_;simp (disch:=first|omega|(simp only [List.length_cons,List.length_nil,List.length_append];omega)) only [bb,bp,zKx,↓reduceIte,reduceCtorEq,Nat.reduceEqDiff,Nat.reduceLT,Nat.reduceLeDiff,Nat.reduceAdd,Nat.reduceMul,Nat.reduceSub,Nat.reduceBEq,Int.reduceToNat,cond_true,cond_false,eq_self,beq_self_eq_true,g0,g1,g2,g4',g5,g16,g19,g6,g33,g34,hidx',hlp,hlq,e1,hix0,hix1,hlo0,hlo1,hsA,hsB,zHz wf,zHx wf,zFz wf,zHy wf,zBx wf,zFy,tEvT16,zHw,zKw,zAw wf,zPz];first|(refine zCy (Q:=Q_) (fun hp_=>?_) (fun hp_=>?_) <;> first|(exfalso;omega)|(refine hQ_ _ _ ?_;clear hQ_ Q_))|(refine zBy (Q:=Q_) (fun hp_=>?_) (fun hp_=>?_) <;> first|(exfalso;omega)|(refine hQ_ _ _ ?_;clear hQ_ Q_))|(refine hQ_ _ _ ?_;clear hQ_ Q_)))
  | (refine zFv fun K_ hK_=>?_;simp (disch:=omega) only [zFx,zAz,zGz,↓reduceIte,reduceCtorEq,Nat.reduceEqDiff,Nat.reduceLT];refine hK_ _ ?_;clear hK_ K_)))
            refine zNw [.no,.no,.no,.no,.no,.no,.no,.no,.no,.no,.no,.no,.no,.no,.no,.no,.no,.no,.no,.no,.no,.no,.no,.no,.no,.no,.no,.full] (by kernel_rfl) ?_
            (repeat' (first
  | (with_reducible first|refine zJz ?_|refine zGw ?_|refine zEw ?_|refine zEx ?_|refine zEv ?_|refine zJy ?_|refine zGv ?_|refine zBw ?_|refine zDx ?_|refine zBv ?_|refine zCx ?_|refine zEz ?_|refine zCw ?_|refine zCz ?_|refine zBz ?_|refine zDv ?_|refine zDy ?_|refine zAx ?_|refine zAv ?_)
  | refine zCv ?_|refine zEy rfl ?_|refine zIx ?_|refine zIv ?_
  | ((first|refine zGx rfl rfl rfl rfl rfl fun K_ hK_=>?_|refine zGy rfl rfl rfl rfl rfl fun K_ hK_=>?_);simp only [zAz,zDz,zFw,↓reduceIte,reduceCtorEq,Nat.reduceEqDiff,Bool.not_true,Bool.not_false];refine hK_ _ ?_;clear hK_ K_)
  | refine zDw (by decide) ?_
  | ((try first|refine zJx rfl rfl rfl ?_|refine zIy rfl rfl ?_|refine zJw rfl rfl rfl ?_|refine zIw rfl rfl ?_);(refine zIz fun Q_ hQ_=>?_;simp (disch:=first|omega|(simp only [List.length_cons,List.length_nil,List.length_append];omega)) only [bb,bp,zKx,↓reduceIte,reduceCtorEq,Nat.reduceEqDiff,Nat.reduceLT,Nat.reduceLeDiff,Nat.reduceAdd,Nat.reduceMul,Nat.reduceSub,Nat.reduceBEq,Int.reduceToNat,cond_true,cond_false,eq_self,beq_self_eq_true,g0,g1,g2,g4',g5,g16,g19,g6,g33,g34,hidx',hlp,hlq,e1,hix0,hix1,hlo0,hlo1,hsA,hsB,zHz wf,zHx wf,zFz wf,zHy wf,zBx wf,zFy,tEvT16,zHw,zKw,zAw wf,zPz];first|(refine zCy (Q:=Q_) (fun hp_=>?_) (fun hp_=>?_) <;> first|(exfalso;omega)|(refine hQ_ _ _ ?_;clear hQ_ Q_))|(refine zBy (Q:=Q_) (fun hp_=>?_) (fun hp_=>?_) <;> first|(exfalso;omega)|(refine hQ_ _ _ ?_;clear hQ_ Q_))|(refine hQ_ _ _ ?_;clear hQ_ Q_)))
  | (refine zFv fun K_ hK_=>?_;simp (disch:=omega) only [zFx,zAz,zGz,↓reduceIte,reduceCtorEq,Nat.reduceEqDiff,Nat.reduceLT];refine hK_ _ ?_;clear hK_ K_)))
            refine zIz fun Q_ hQ_=>?_
            simp (disch:=first|omega|(simp only [List.length_cons,List.length_nil,List.length_append];omega)) only [bb,bp,zKx,↓reduceIte,reduceCtorEq,Nat.reduceEqDiff,Nat.reduceLT,Nat.reduceLeDiff,Nat.reduceAdd,Nat.reduceMul,Nat.reduceSub,Nat.reduceBEq,Int.reduceToNat,cond_true,cond_false,eq_self,beq_self_eq_true,yRx,g0,zFz wf,tEvT16,zHw,zKw,zAw wf,zPz]
            refine WV_yieldOC (hy _ _ hget hb _ _ hIk (by omega) (by simp only [List.length_cons,List.length_append,List.length_nil];omega)) (fun hb' J' w' sm hl' hle'=>⟨fun hw' hI'=>hQ_ _ _ ?_,fun hw' hD'=>hQ_ _ _ ?_⟩)
            · clear hQ_ Q_
              have sc:=sm.clock
              (repeat' (first
  | (with_reducible first|refine zJz ?_|refine zGw ?_|refine zEw ?_|refine zEx ?_|refine zEv ?_|refine zJy ?_|refine zGv ?_|refine zBw ?_|refine zDx ?_|refine zBv ?_|refine zCx ?_|refine zEz ?_|refine zCw ?_|refine zCz ?_|refine zBz ?_|refine zDv ?_|refine zDy ?_|refine zAx ?_|refine zAv ?_)
  | refine zCv ?_|refine zEy rfl ?_|refine zIx ?_|refine zIv ?_
  | ((first|refine zGx rfl rfl rfl rfl rfl fun K_ hK_=>?_|refine zGy rfl rfl rfl rfl rfl fun K_ hK_=>?_);simp only [zAz,zDz,zFw,↓reduceIte,reduceCtorEq,Nat.reduceEqDiff,Bool.not_true,Bool.not_false];refine hK_ _ ?_;clear hK_ K_)
  | refine zDw (by decide) ?_
  | ((try first|refine zJx rfl rfl rfl ?_|refine zIy rfl rfl ?_|refine zJw rfl rfl rfl ?_|refine zIw rfl rfl ?_);(refine zIz fun Q_ hQ_=>?_;simp (disch:=first|omega|(simp only [List.length_cons,List.length_nil,List.length_append];omega)) only [bb,bp,zKx,↓reduceIte,reduceCtorEq,Nat.reduceEqDiff,Nat.reduceLT,Nat.reduceLeDiff,Nat.reduceAdd,Nat.reduceMul,Nat.reduceSub,Nat.reduceBEq,Int.reduceToNat,cond_true,cond_false,eq_self,beq_self_eq_true,g0,g1,g2,g4,g5,g16,g19,g6,g33,g34,tEvT16,zHw,zKw,zAw wf,zPz];first|(refine zCy (Q:=Q_) (fun hp_=>?_) (fun hp_=>?_) <;> first|(exfalso;omega)|(refine hQ_ _ _ ?_;clear hQ_ Q_))|(refine zBy (Q:=Q_) (fun hp_=>?_) (fun hp_=>?_) <;> first|(exfalso;omega)|(refine hQ_ _ _ ?_;clear hQ_ Q_))|(refine hQ_ _ _ ?_;clear hQ_ Q_)))
  | (refine zFv fun K_ hK_=>?_;simp (disch:=omega) only [zFx,zAz,zGz,↓reduceIte,reduceCtorEq,Nat.reduceEqDiff,Nat.reduceLT];refine hK_ _ ?_;clear hK_ K_)))
              rw [← app_assoc1] at hpre
              exact zKy (s+1) (by omega) ⟨hls,⟨by simp only [zAz,↓reduceIte,reduceCtorEq,Nat.reduceEqDiff];exact g0,by simp only [zAz,↓reduceIte,reduceCtorEq,Nat.reduceEqDiff];exact g1,by simp only [zAz,↓reduceIte,reduceCtorEq,Nat.reduceEqDiff];exact g2,by simp only [zAz,↓reduceIte,reduceCtorEq,Nat.reduceEqDiff];exact g4⟩,⟨by simp only [zAz,↓reduceIte,reduceCtorEq,Nat.reduceEqDiff];exact g16,by simp only [zAz,↓reduceIte,reduceCtorEq,Nat.reduceEqDiff];exact g5,by simp only [zAz,↓reduceIte,reduceCtorEq,Nat.reduceEqDiff];exact g19,by simp only [zAz,↓reduceIte,reduceCtorEq,Nat.reduceEqDiff];exact g6⟩,by simp only [zAz,↓reduceIte,reduceCtorEq,Nat.reduceEqDiff];exact g33,by simp only [zAz,↓reduceIte,reduceCtorEq,Nat.reduceEqDiff];rfl,rfl,hb',_,_,pre++[(xst,tv)],rfl,by rw [List.length_append];exact hI',by rw [show 3 - (s+1)=2 - s from by omega];exact hpre,by omega,by omega,fun j hj=>by
                rw [List.length_append,List.length_cons,List.length_nil] at hj
                by_cases e:j=pre.length
                · rw [e];omega
                · have:=hwc j (by omega);omega⟩
            · clear hQ_ Q_
              have sc:=sm.clock
              have wf':=hD _ hD'
              (repeat' (first
  | (with_reducible first|refine zJz ?_|refine zGw ?_|refine zEw ?_|refine zEx ?_|refine zEv ?_|refine zJy ?_|refine zGv ?_|refine zBw ?_|refine zDx ?_|refine zBv ?_|refine zCx ?_|refine zEz ?_|refine zCw ?_|refine zCz ?_|refine zBz ?_|refine zDv ?_|refine zDy ?_|refine zAx ?_|refine zAv ?_)
  | refine zCv ?_|refine zEy rfl ?_|refine zIx ?_|refine zIv ?_
  | ((first|refine zGx rfl rfl rfl rfl rfl fun K_ hK_=>?_|refine zGy rfl rfl rfl rfl rfl fun K_ hK_=>?_);simp only [zAz,zDz,zFw,↓reduceIte,reduceCtorEq,Nat.reduceEqDiff,Bool.not_true,Bool.not_false];refine hK_ _ ?_;clear hK_ K_)
  | refine zDw (by decide) ?_
  | ((try first|refine zJx rfl rfl rfl ?_|refine zIy rfl rfl ?_|refine zJw rfl rfl rfl ?_|refine zIw rfl rfl ?_);(refine zIz fun Q_ hQ_=>?_;simp (disch:=first|omega|(simp only [List.length_cons,List.length_nil,List.length_append];omega)) only [bb,bp,zKx,↓reduceIte,reduceCtorEq,Nat.reduceEqDiff,Nat.reduceLT,Nat.reduceLeDiff,Nat.reduceAdd,Nat.reduceMul,Nat.reduceSub,Nat.reduceBEq,Int.reduceToNat,cond_true,cond_false,eq_self,beq_self_eq_true,g0,g1,g2,g4,g5,g16,g19,g6,g33,g34,tEvT16,zHw,zKw,zAw wf,zPz];first|(refine zCy (Q:=Q_) (fun hp_=>?_) (fun hp_=>?_) <;> first|(exfalso;omega)|(refine hQ_ _ _ ?_;clear hQ_ Q_))|(refine zBy (Q:=Q_) (fun hp_=>?_) (fun hp_=>?_) <;> first|(exfalso;omega)|(refine hQ_ _ _ ?_;clear hQ_ Q_))|(refine hQ_ _ _ ?_;clear hQ_ Q_)))
  | (refine zFv fun K_ hK_=>?_;simp (disch:=omega) only [zFx,zAz,zGz,↓reduceIte,reduceCtorEq,Nat.reduceEqDiff,Nat.reduceLT];refine hK_ _ ?_;clear hK_ K_)))
              have hs':=hs.trans sm
              have hsc:=hs'.clock
              exact zJv _ (.tup []) rfl rfl (yOy (by omega) ⟨hb',_,_,rfl,hs',by omega,Nat.min_le_left _ _,.inr ⟨hD',by omega⟩⟩)
          · rw [sgF_far hls hfar] at hpre
            have hfar' : ¬ tc Tb i u v s<1099511627776:=hfar
            clear hfar
            generalize hsg:sgF sp i Tb u v (2 - s)=sgr at hpre
            generalize tc Tb i u v s=tv at *
            (repeat' (first
  | (with_reducible first|refine zJz ?_|refine zGw ?_|refine zEw ?_|refine zEx ?_|refine zEv ?_|refine zJy ?_|refine zGv ?_|refine zBw ?_|refine zDx ?_|refine zBv ?_|refine zCx ?_|refine zEz ?_|refine zCw ?_|refine zCz ?_|refine zBz ?_|refine zDv ?_|refine zDy ?_|refine zAx ?_|refine zAv ?_)
  | refine zCv ?_|refine zEy rfl ?_|refine zIx ?_|refine zIv ?_
  | ((first|refine zGx rfl rfl rfl rfl rfl fun K_ hK_=>?_|refine zGy rfl rfl rfl rfl rfl fun K_ hK_=>?_);simp only [zAz,zDz,zFw,↓reduceIte,reduceCtorEq,Nat.reduceEqDiff,Bool.not_true,Bool.not_false];refine hK_ _ ?_;clear hK_ K_)
  | refine zDw (by decide) ?_
  | ((try first|refine zJx rfl rfl rfl ?_|refine zIy rfl rfl ?_|refine zJw rfl rfl rfl ?_|refine zIw rfl rfl ?_);(refine zIz fun Q_ hQ_=>?_;simp (disch:=first|omega|(simp only [List.length_cons,List.length_nil,List.length_append];omega)) only [bb,bp,zKx,↓reduceIte,reduceCtorEq,Nat.reduceEqDiff,Nat.reduceLT,Nat.reduceLeDiff,Nat.reduceAdd,Nat.reduceMul,Nat.reduceSub,Nat.reduceBEq,Int.reduceToNat,cond_true,cond_false,eq_self,beq_self_eq_true,g0,g1,g2,g4',g5,g16,g19,g6,g33,g34,hidx',hlp,hlq,e1,hix0,hix1,hlo0,hlo1,hsA,hsB,zHz wf,zHx wf,zFz wf,zHy wf,zBx wf,zFy,tEvT16,zHw,zKw,zAw wf,zPz];first|(refine zCy (Q:=Q_) (fun hp_=>?_) (fun hp_=>?_) <;> first|(exfalso;omega)|(refine hQ_ _ _ ?_;clear hQ_ Q_))|(refine zBy (Q:=Q_) (fun hp_=>?_) (fun hp_=>?_) <;> first|(exfalso;omega)|(refine hQ_ _ _ ?_;clear hQ_ Q_))|(refine hQ_ _ _ ?_;clear hQ_ Q_)))
  | (refine zFv fun K_ hK_=>?_;simp (disch:=omega) only [zFx,zAz,zGz,↓reduceIte,reduceCtorEq,Nat.reduceEqDiff,Nat.reduceLT];refine hK_ _ ?_;clear hK_ K_)))
            refine zNw [.no,.no,.no,.no,.no,.no,.no,.no,.no,.no,.no,.no,.no,.no,.no,.no,.no,.no,.no,.no,.no,.no,.no,.no,.no,.no,.no,.full] (by kernel_rfl) ?_
            (repeat' (first
  | (with_reducible first|refine zJz ?_|refine zGw ?_|refine zEw ?_|refine zEx ?_|refine zEv ?_|refine zJy ?_|refine zGv ?_|refine zBw ?_|refine zDx ?_|refine zBv ?_|refine zCx ?_|refine zEz ?_|refine zCw ?_|refine zCz ?_|refine zBz ?_|refine zDv ?_|refine zDy ?_|refine zAx ?_|refine zAv ?_)
  | refine zCv ?_|refine zEy rfl ?_|refine zIx ?_|refine zIv ?_
  | ((first|refine zGx rfl rfl rfl rfl rfl fun K_ hK_=>?_|refine zGy rfl rfl rfl rfl rfl fun K_ hK_=>?_);simp only [zAz,zDz,zFw,↓reduceIte,reduceCtorEq,Nat.reduceEqDiff,Bool.not_true,Bool.not_false];refine hK_ _ ?_;clear hK_ K_)
  | refine zDw (by decide) ?_
  | ((try first|refine zJx rfl rfl rfl ?_|refine zIy rfl rfl ?_|refine zJw rfl rfl rfl ?_|refine zIw rfl rfl ?_);(refine zIz fun Q_ hQ_=>?_;simp (disch:=first|omega|(simp only [List.length_cons,List.length_nil,List.length_append];omega)) only [bb,bp,zKx,↓reduceIte,reduceCtorEq,Nat.reduceEqDiff,Nat.reduceLT,Nat.reduceLeDiff,Nat.reduceAdd,Nat.reduceMul,Nat.reduceSub,Nat.reduceBEq,Int.reduceToNat,cond_true,cond_false,eq_self,beq_self_eq_true,g0,g1,g2,g4',g5,g16,g19,g6,g33,g34,hidx',hlp,hlq,e1,hix0,hix1,hlo0,hlo1,hsA,hsB,zHz wf,zHx wf,zFz wf,zHy wf,zBx wf,zFy,tEvT16,zHw,zKw,zAw wf,zPz];first|(refine zCy (Q:=Q_) (fun hp_=>?_) (fun hp_=>?_) <;> first|(exfalso;omega)|(refine hQ_ _ _ ?_;clear hQ_ Q_))|(refine zBy (Q:=Q_) (fun hp_=>?_) (fun hp_=>?_) <;> first|(exfalso;omega)|(refine hQ_ _ _ ?_;clear hQ_ Q_))|(refine hQ_ _ _ ?_;clear hQ_ Q_)))
  | (refine zFv fun K_ hK_=>?_;simp (disch:=omega) only [zFx,zAz,zGz,↓reduceIte,reduceCtorEq,Nat.reduceEqDiff,Nat.reduceLT];refine hK_ _ ?_;clear hK_ K_)))
            rw [← hsg] at hpre
            exact zKy (s+1) (by omega) ⟨hls,⟨by simp only [zAz,↓reduceIte,reduceCtorEq,Nat.reduceEqDiff];exact g0,by simp only [zAz,↓reduceIte,reduceCtorEq,Nat.reduceEqDiff];exact g1,by simp only [zAz,↓reduceIte,reduceCtorEq,Nat.reduceEqDiff];exact g2,by simp only [zAz,↓reduceIte,reduceCtorEq,Nat.reduceEqDiff];exact g4⟩,⟨by simp only [zAz,↓reduceIte,reduceCtorEq,Nat.reduceEqDiff];exact g16,by simp only [zAz,↓reduceIte,reduceCtorEq,Nat.reduceEqDiff];exact g5,by simp only [zAz,↓reduceIte,reduceCtorEq,Nat.reduceEqDiff];exact g19,by simp only [zAz,↓reduceIte,reduceCtorEq,Nat.reduceEqDiff];exact g6⟩,by simp only [zAz,↓reduceIte,reduceCtorEq,Nat.reduceEqDiff];exact g33,by simp only [zAz,↓reduceIte,reduceCtorEq,Nat.reduceEqDiff];rfl,rfl,hb,_,_,pre,rfl,hIk,by rw [show 3 - (s+1)=2 - s from by omega];exact hpre,by omega,by omega,fun j hj=>by have:=hwc j hj;omega⟩
        · have hse:s=3:=by omega
          subst hse
          (repeat' (first
  | (with_reducible first|refine zJz ?_|refine zGw ?_|refine zEw ?_|refine zEx ?_|refine zEv ?_|refine zJy ?_|refine zGv ?_|refine zBw ?_|refine zDx ?_|refine zBv ?_|refine zCx ?_|refine zEz ?_|refine zCw ?_|refine zCz ?_|refine zBz ?_|refine zDv ?_|refine zDy ?_|refine zAx ?_|refine zAv ?_)
  | refine zCv ?_|refine zEy rfl ?_|refine zIx ?_|refine zIv ?_
  | ((first|refine zGx rfl rfl rfl rfl rfl fun K_ hK_=>?_|refine zGy rfl rfl rfl rfl rfl fun K_ hK_=>?_);simp only [zAz,zDz,zFw,↓reduceIte,reduceCtorEq,Nat.reduceEqDiff,Bool.not_true,Bool.not_false];refine hK_ _ ?_;clear hK_ K_)
  | refine zDw (by decide) ?_
  | ((try first|refine zJx rfl rfl rfl ?_|refine zIy rfl rfl ?_|refine zJw rfl rfl rfl ?_|refine zIw rfl rfl ?_);(refine zIz fun Q_ hQ_=>?_;simp (disch:=first|omega|(simp only [List.length_cons,List.length_nil,List.length_append];omega)) only [bb,bp,zKx,↓reduceIte,reduceCtorEq,Nat.reduceEqDiff,Nat.reduceLT,Nat.reduceLeDiff,Nat.reduceAdd,Nat.reduceMul,Nat.reduceSub,Nat.reduceBEq,Int.reduceToNat,cond_true,cond_false,eq_self,beq_self_eq_true,g0,g1,g2,g4,g5,g16,g19,g6,g33,g34,tEvT16,zHw,zKw,zAw wf,zPz];first|(refine zCy (Q:=Q_) (fun hp_=>?_) (fun hp_=>?_) <;> first|(exfalso;omega)|(refine hQ_ _ _ ?_;clear hQ_ Q_))|(refine zBy (Q:=Q_) (fun hp_=>?_) (fun hp_=>?_) <;> first|(exfalso;omega)|(refine hQ_ _ _ ?_;clear hQ_ Q_))|(refine hQ_ _ _ ?_;clear hQ_ Q_)))
  | (refine zFv fun K_ hK_=>?_;simp (disch:=omega) only [zFx,zAz,zGz,↓reduceIte,reduceCtorEq,Nat.reduceEqDiff,Nat.reduceLT];refine hK_ _ ?_;clear hK_ K_)))
          exact zKy (v+1) (by omega) ⟨hlv,⟨by simp only [zAz,↓reduceIte,reduceCtorEq,Nat.reduceEqDiff];exact g0,by simp only [zAz,↓reduceIte,reduceCtorEq,Nat.reduceEqDiff];exact g1,by simp only [zAz,↓reduceIte,reduceCtorEq,Nat.reduceEqDiff];exact g2,by simp only [zAz,↓reduceIte,reduceCtorEq,Nat.reduceEqDiff];exact g4⟩,⟨by simp only [zAz,↓reduceIte,reduceCtorEq,Nat.reduceEqDiff];exact g16,by simp only [zAz,↓reduceIte,reduceCtorEq,Nat.reduceEqDiff];exact g5⟩,by simp only [zAz,↓reduceIte,reduceCtorEq,Nat.reduceEqDiff];rfl,rfl,hb,J,w,pre,rfl,hIk,by rw [show 5 - (v+1)=4 - v from by omega];exact hpre,hlo,hw,hwc⟩
    · have hve:v=5:=by omega
      subst hve
      (repeat' (first
  | (with_reducible first|refine zJz ?_|refine zGw ?_|refine zEw ?_|refine zEx ?_|refine zEv ?_|refine zJy ?_|refine zGv ?_|refine zBw ?_|refine zDx ?_|refine zBv ?_|refine zCx ?_|refine zEz ?_|refine zCw ?_|refine zCz ?_|refine zBz ?_|refine zDv ?_|refine zDy ?_|refine zAx ?_|refine zAv ?_)
  | refine zCv ?_|refine zEy rfl ?_|refine zIx ?_|refine zIv ?_
  | ((first|refine zGx rfl rfl rfl rfl rfl fun K_ hK_=>?_|refine zGy rfl rfl rfl rfl rfl fun K_ hK_=>?_);simp only [zAz,zDz,zFw,↓reduceIte,reduceCtorEq,Nat.reduceEqDiff,Bool.not_true,Bool.not_false];refine hK_ _ ?_;clear hK_ K_)
  | refine zDw (by decide) ?_
  | ((try first|refine zJx rfl rfl rfl ?_|refine zIy rfl rfl ?_|refine zJw rfl rfl rfl ?_|refine zIw rfl rfl ?_);(refine zIz fun Q_ hQ_=>?_;simp (disch:=first|omega|(simp only [List.length_cons,List.length_nil,List.length_append];omega)) only [bb,bp,zKx,↓reduceIte,reduceCtorEq,Nat.reduceEqDiff,Nat.reduceLT,Nat.reduceLeDiff,Nat.reduceAdd,Nat.reduceMul,Nat.reduceSub,Nat.reduceBEq,Int.reduceToNat,cond_true,cond_false,eq_self,beq_self_eq_true,g0,g1,g2,g4,g5,g16,g19,tEvT16,zHw,zKw,zAw wf,zPz];first|(refine zCy (Q:=Q_) (fun hp_=>?_) (fun hp_=>?_) <;> first|(exfalso;omega)|(refine hQ_ _ _ ?_;clear hQ_ Q_))|(refine zBy (Q:=Q_) (fun hp_=>?_) (fun hp_=>?_) <;> first|(exfalso;omega)|(refine hQ_ _ _ ?_;clear hQ_ Q_))|(refine hQ_ _ _ ?_;clear hQ_ Q_)))
  | (refine zFv fun K_ hK_=>?_;simp (disch:=omega) only [zFx,zAz,zGz,↓reduceIte,reduceCtorEq,Nat.reduceEqDiff,Nat.reduceLT];refine hK_ _ ?_;clear hK_ K_)))
      exact zKy (u+1) (by omega) ⟨hlu,⟨by simp only [zAz,↓reduceIte,reduceCtorEq,Nat.reduceEqDiff];exact g0,by simp only [zAz,↓reduceIte,reduceCtorEq,Nat.reduceEqDiff];exact g1,by simp only [zAz,↓reduceIte,reduceCtorEq,Nat.reduceEqDiff];exact g2,by simp only [zAz,↓reduceIte,reduceCtorEq,Nat.reduceEqDiff];exact g4⟩,by simp only [zAz,↓reduceIte,reduceCtorEq,Nat.reduceEqDiff];rfl,rfl,hb,J,w,pre,rfl,hIk,by rw [show 5 - (u+1)=4 - u from by omega];exact hpre,hlo,hw,hwc⟩
  · have hue:u=5:=by omega
    subst hue
    have hs:=(hI _ hb hIk).2
    have sc:=hs.clock
    have hpl:pre=ys:=by have:pre++[]=ys:=hpre;rwa [List.append_nil] at this
    subst hpl
    (repeat' (first
  | (with_reducible first|refine zJz ?_|refine zGw ?_|refine zEw ?_|refine zEx ?_|refine zEv ?_|refine zJy ?_|refine zGv ?_|refine zBw ?_|refine zDx ?_|refine zBv ?_|refine zCx ?_|refine zEz ?_|refine zCw ?_|refine zCz ?_|refine zBz ?_|refine zDv ?_|refine zDy ?_|refine zAx ?_|refine zAv ?_)
  | refine zCv ?_|refine zEy rfl ?_|refine zIx ?_|refine zIv ?_
  | ((first|refine zGx rfl rfl rfl rfl rfl fun K_ hK_=>?_|refine zGy rfl rfl rfl rfl rfl fun K_ hK_=>?_);simp only [zAz,zDz,zFw,↓reduceIte,reduceCtorEq,Nat.reduceEqDiff,Bool.not_true,Bool.not_false];refine hK_ _ ?_;clear hK_ K_)
  | refine zDw (by decide) ?_
  | ((try first|refine zJx rfl rfl rfl ?_|refine zIy rfl rfl ?_|refine zJw rfl rfl rfl ?_|refine zIw rfl rfl ?_);(refine zIz fun Q_ hQ_=>?_;simp (disch:=first|omega|(simp only [List.length_cons,List.length_nil,List.length_append];omega)) only [bb,bp,zKx,↓reduceIte,reduceCtorEq,Nat.reduceEqDiff,Nat.reduceLT,Nat.reduceLeDiff,Nat.reduceAdd,Nat.reduceMul,Nat.reduceSub,Nat.reduceBEq,Int.reduceToNat,cond_true,cond_false,eq_self,beq_self_eq_true,g0,g1,g2,g4,g16,tEvT16,zHw,zKw,zAw wf,zPz];first|(refine zCy (Q:=Q_) (fun hp_=>?_) (fun hp_=>?_) <;> first|(exfalso;omega)|(refine hQ_ _ _ ?_;clear hQ_ Q_))|(refine zBy (Q:=Q_) (fun hp_=>?_) (fun hp_=>?_) <;> first|(exfalso;omega)|(refine hQ_ _ _ ?_;clear hQ_ Q_))|(refine hQ_ _ _ ?_;clear hQ_ Q_)))
  | (refine zFv fun K_ hK_=>?_;simp (disch:=omega) only [zFx,zAz,zGz,↓reduceIte,reduceCtorEq,Nat.reduceEqDiff,Nat.reduceLT];refine hK_ _ ?_;clear hK_ K_)))
    have hlast:=hwc (pre.length - 1) (by omega)
    have hck:=hc0 (pre.length - 1)
    exact endQ_norm _ (.tup []) rfl rfl (yOy (by omega) ⟨hb,_,_,rfl,hs,by omega,Nat.min_le_left _ _,.inl ⟨by rw [hyl];exact hIk,fun j hj=>by rw [hyl] at hj;have:=hwc j hj;omega⟩⟩)
end Go.Proofs.YtkmdidplmfdikaaDoor
end
