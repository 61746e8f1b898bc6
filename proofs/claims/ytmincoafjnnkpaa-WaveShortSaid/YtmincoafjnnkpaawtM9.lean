/- The statement WaveShort of layer 5: the register that is returned makes the bits, and is as long as their complexity, or the error is what the definition says; so are the complexities of all beginnings; the reference tries lengths one after another, by solving equations, for all lists of at most 24 or of 129 to 140 numbers; no condition. -/
import Derived.Test.YtmincoafjnnkpaawtM8
import Derived.Test.YtmincoafjnnkpaaRows
import Derived.WalkKit
import Derived.ProofKit
import Derived.OpenShut
set_option linter.all false
section
namespace Go.Ev
def Sv (L:Nat) (row x:Nat→Bool):Prop:=px L (fun j=>row j && x j)=row L
def SolF (L m k:Nat) (rows:Nat→Nat→Bool):Prop:=∃ x,∀ r,k≤r→r<m→Sv L (rows r) x
theorem sv_xor {L:Nat} {a b x:Nat→Bool} (ha:Sv L a x) (hb:Sv L b x):Sv L (fun j=>a j ^^ b j) x:=by
  unfold Sv at *
  have e:px L (fun j=>(a j ^^ b j) && x j)=(px L (fun j=>a j && x j) ^^ px L (fun j=>b j && x j)):=by
    rw [← px_xor]
    exact yRz fun j _=>by cases a j <;> cases b j <;> cases x j <;> rfl
  rw [e,ha,hb]
theorem xOz {L:Nat} {a b x y:Nat→Bool} (h:Sv L a x) (e : ∀ j,j≤L→a j=b j) (ex : ∀ j,j<L→b j=true→x j=y j):Sv L b y:=by
  unfold Sv at *
  rw [← e L (Nat.le_refl L),← h]
  refine yRz fun j hj=>?_
  rw [e j (by omega)]
  cases hb:b j
  · rfl
  · rw [ex j hj hb]
theorem sol_none {L m k:Nat} {rows:Nat→Nat→Bool} (hk:k<m) (h0 : ∀ j,j<L→rows k j=false):SolF L m k rows ↔ (rows k L=false∧SolF L m (k+1) rows):=by
  have e : ∀ x:Nat→Bool,px L (fun j=>rows k j && x j)=false:=fun x=>xPz fun j hj=>by rw [h0 j hj];rfl
  constructor
  · rintro ⟨x,hx⟩
    refine ⟨?_,x,fun r h1 h2=>hx r (by omega) h2⟩
    have:=hx k (Nat.le_refl k) hk
    unfold Sv at this
    rw [e x] at this
    exact this.symm
  · rintro ⟨h1,x,hx⟩
    refine ⟨x,fun r h2 h3=>?_⟩
    by_cases e2:r=k
    · rw [e2];unfold Sv;rw [e x,h1]
    · exact hx r (by omega) h3
theorem sol_elim {L m k at_:Nat} {rows rows':Nat→Nat→Bool} (hk:k<m) (ha:at_<L) (hp:rows k at_=true) (he : ∀ r,k<r→r<m → ∀ j,j≤L→rows' r j=if rows r at_=true then (rows r j ^^ rows k j) else rows r j):SolF L m k rows ↔ SolF L m (k+1) rows':=by
  constructor
  · rintro ⟨x,hx⟩
    refine ⟨x,fun r h1 h2=>?_⟩
    have hr:=hx r (by omega) h2
    have hkx:=hx k (Nat.le_refl k) hk
    by_cases h3:rows r at_=true
    · exact xOz (sv_xor hr hkx) (fun j hj=>by rw [he r (by omega) h2 j hj,if_pos h3]) fun _ _ _=>rfl
    · exact xOz hr (fun j hj=>by rw [he r (by omega) h2 j hj,if_neg h3]) fun _ _ _=>rfl
  · rintro ⟨x,hx⟩

    let y0:Nat→Bool:=fun j=>if j=at_ then false else x j
    let y:Nat→Bool:=fun j=>if j=at_ then (px L (fun j=>rows k j && y0 j) ^^ rows k L) else x j
    have hky:Sv L (rows k) y:=by
      unfold Sv
      have e:px L (fun j=>rows k j && y j)=(px L (fun j=>rows k j && y0 j) ^^ px L (fun j=>decide (j=at_) && (px L (fun j=>rows k j && y0 j) ^^ rows k L))):=by
        rw [← px_xor]
        refine yRz fun j _=>?_
        by_cases h:j=at_
        · subst h
          show (rows k j && (if j=j then _ else x j))=((rows k j && (if j=j then false else x j)) ^^ (decide (j=j) && _))
          rw [if_pos rfl,if_pos rfl,hp,decide_eq_true rfl]
          cases (px L (fun j=>rows k j && y0 j) ^^ rows k L) <;> rfl
        · show (rows k j && (if j=at_ then _ else x j))=((rows k j && (if j=at_ then false else x j)) ^^ (decide (j=at_) && _))
          rw [if_neg h,if_neg h,decide_eq_false h]
          cases rows k j <;> cases x j <;> rfl
      have e3 : ∀ c:Bool,px L (fun j=>decide (j=at_) && c)=c:=fun c=>by
        rw [px_one (f:=fun j=>decide (j=at_) && c) ha fun j _ hne=>by rw [decide_eq_false hne];rfl]
        rw [decide_eq_true rfl];rfl
      rw [e,e3]
      cases px L (fun j=>rows k j && y0 j) <;> cases rows k L <;> rfl
    refine ⟨y,fun r h1 h2=>?_⟩
    by_cases e2:r=k
    · rw [e2];exact hky
    · have hr:=hx r (by omega) h2
      have h0:rows' r at_=false:=by
        rw [he r (by omega) h2 at_ (by omega)]
        by_cases h3:rows r at_=true
        · rw [if_pos h3,h3,hp];rfl
        · rw [if_neg h3];simpa using h3
      have hry:Sv L (rows' r) y:=xOz hr (fun _ _=>rfl) fun j _ hj=>by
        by_cases h:j=at_
        · rw [h,h0] at hj;cases hj
        · show x j=if j=at_ then _ else x j
          rw [if_neg h]
      by_cases h3:rows r at_=true
      · refine xOz (sv_xor hry hky) (fun j hj=>?_) fun _ _ _=>rfl
        rw [he r (by omega) h2 j hj,if_pos h3]
        cases rows r j <;> cases rows k j <;> rfl
      · exact xOz hry (fun j hj=>by rw [he r (by omega) h2 j hj,if_neg h3]) fun _ _ _=>rfl
def eqs (L:Nat) (s:Nat→Bool) (r j:Nat):Bool:=if j<L then s (L+r - 1 - j) else s (L+r)
theorem sol_eqs {L n:Nat} {s:Nat→Bool} (hL:L≤n):SolF L (n - L) 0 (eqs L s) ↔ ∃ T,T<2 ^ L∧Makes T L s n:=by
  have e : ∀ (x:Nat→Bool) (i:Nat),L≤i→(Sv L (eqs L s (i - L)) x ↔ px L (fun j=>x j && s (i - 1 - j))=s i):=fun x i hi=>by
    unfold Sv
    have h1:eqs L s (i - L) L=s i:=by unfold eqs;rw [if_neg (Nat.lt_irrefl L),show L+(i - L)=i by omega]
    have h2:px L (fun j=>eqs L s (i - L) j && x j)=px L (fun j=>x j && s (i - 1 - j)):=yRz fun j hj=>by
      unfold eqs;rw [if_pos hj,show L+(i - L) - 1 - j=i - 1 - j by omega,Bool.and_comm]
    rw [h1,h2]
  constructor
  · rintro ⟨x,hx⟩
    refine ⟨natOf L x,natOf_lt L x,fun i h1 h2=>?_⟩
    have:=(e x i h1).1 (hx (i - L) (Nat.zero_le _) (by omega))
    rw [← this]
    exact yRz fun j hj=>by rw [natOf_bit x hj]
  · rintro ⟨T,_,hm⟩
    refine ⟨T.testBit,fun r _ hr=>?_⟩
    have:=(e T.testBit (L+r) (by omega)).2 (hm (L+r) (by omega) (by omega)).symm
    rwa [show L+r - L=r by omega] at this
end Go.Ev
end

section
namespace Go.Proofs.Ytmincoafjnnkpaa
open Go.Ev
set_option maxRecDepth 100000
set_option linter.unusedSimpArgs false
set_option linter.unusedVariables false
set_option maxHeartbeats 2000000
def Ows (h:H) (M:List AO) (idx:Nat) (cells:List AV) (v:AV):Prop:=(cells=[]∧v = .nils)∨(cells≠[]∧v = .sl (nx h idx) 0 cells.length none 1∧M[idx]? = some (.cells (zBz cells) 22))
theorem Ows.sl {h:H} (wf:Wf h) {M:List AO} {idx:Nat} {cells:List AV} {v:AV} (x:Ows h M idx cells v) (w:Nat):Sl (X h M w) v 1 cells.length cells:=by
  rcases x with ⟨rfl,rfl⟩|⟨_,rfl,hM⟩
  · exact Sl.nil _ _
  · exact Sl.new wf (by rw [Nat.mul_one]) hM
theorem Ows.flat {h:H} {M:List AO} {idx:Nat} {cells:List AV} {v:AV} (x:Ows h M idx cells v):AV.cells v=[v]∧oneB v=true:=by
  rcases x with ⟨rfl,rfl⟩|⟨_,rfl,hM⟩ <;> exact ⟨rfl,rfl⟩
theorem Ows.keep {h:H} {M M':List AO} {idx:Nat} {cells:List AV} {v:AV} (x:Ows h M idx cells v) (k:cells≠[] → ∀ o,M[idx]? = some o→M'[idx]? = some o):Ows h M' idx cells v:=by
  rcases x with ⟨rfl,rfl⟩|⟨h0,rfl,hM⟩
  · exact .inl ⟨rfl,rfl⟩
  · exact .inr ⟨h0,rfl,k h0 _ hM⟩
theorem Ows.app {h:H} (wf:Wf h) {M:List AO} {idx:Nat} {cells:List AV} {v:AV} (x:Ows h M idx cells v) (y:AV) (hy:oneB y=true) (hn:cells.length≤1000) :
    ∃ v' M',Ows h M' (M.length+1) (cells++[y]) v'∧M'.length=M.length+2∧(∀ k o,(cells=[]∨k≠idx)→M[k]? = some o→M'[k]? = some o) ∧ ∀ w,h.clock≤w → ∃ w',h.clock≤w'∧w'≤w ∧
      appendE Try.prog 42 (reszT Try.prog 42 v) (.sl (nx h M.length) 0 1 (some 1) 1) (X h (M++[.cells (zBz [y]) 22]) w) = .ok v' (X h M' w'):=by
  have hs : ∀ w,srcCells (X h (M++[.cells (zBz [y]) 22]) w) 1 (.sl (nx h M.length) 0 1 (some 1) 1)=some (1,[y]):=fun w=>src_new (e:=22) wf (by rw [yXy];rfl) rfl
  have hlen:(M++[AO.cells (zBz [y]) 22]).length=M.length+1:=by rw [List.length_append];rfl
  have hne:cells++[y]≠[]:=by simp
  rcases x with ⟨rfl,rfl⟩|⟨h0,rfl,hM⟩
  · refine ⟨.sl (nx h (M.length+1)) 0 1 none 1,(M++[.cells (zBz [y]) 22])++[.cells (zBz [y]) 22],.inr ⟨hne,rfl,?_⟩,?_,?_,fun w hw=>⟨w,hw,Nat.le_refl _,?_⟩⟩
    rotate_right 1
    · have happ:=xGy (P:=Try.prog) (t:=42) (w:=w) wf un_42 zRy el_22 (n:=1) (by omega) (by decide) (by decide) (hs w) rfl
      rw [hlen] at happ
      rw [yXv]
      exact happ
    · rw [List.getElem?_append_right (by simp)];simp
    · simp
    · intro k o _ ho
      rw [List.append_assoc,List.getElem?_append_left (zLw ho)];exact ho
  · have hlt:=zLw hM
    have hM':(M++[AO.cells (zBz [y]) 22])[idx]? = some (.cells (zBz cells) 22):=by rw [List.getElem?_append_left hlt];exact hM
    refine ⟨.sl (nx h (M.length+1)) 0 (cells++[y]).length none 1,(M++[AO.cells (zBz [y]) 22]).set idx AO.dead++[AO.cells (zBz (cells++[y])) 22],.inr ⟨hne,rfl,?_⟩,?_,?_,fun w hw=>⟨min (h.clock+idx) w,by omega,Nat.min_le_right _ _,?_⟩⟩
    rotate_right 1
    · have happ:=yVv (P:=Try.prog) (t:=42) (w:=w) wf un_42 zRy el_22 (n:=1) (len:=cells.length) (by omega) (by decide) (by decide) hM' (by rw [Nat.mul_one]) (hs w) rfl (by rw [yUx,hy];rfl)
      rw [hlen] at happ
      rw [yUv,List.length_append]
      exact happ
    · rw [List.getElem?_append_right (by simp)];simp
    · simp
    · intro k o hk ho
      have hkl:=zLw ho
      have hki:k≠idx:=hk.resolve_left h0
      rw [List.getElem?_append_left (by simp;omega),List.getElem?_set_ne (Ne.symm hki),List.getElem?_append_left hkl];exact ho

structure RowsAt (M:List AO) (L cnt:Nat) (ps:Nat→Nat) (rows:Nat→Nat→Bool):Prop where
  at_ : ∀ r,r<cnt→M[ps r]? = some (.cells (zBz ((mL (rows r) (L+1)).map bi)) 3)
  inj : ∀ r r',r<cnt→r'<cnt→ps r=ps r'→r=r'
noncomputable def rowV (h:H) (L:Nat) (ps:Nat→Nat) (r:Nat):AV:=.sl (nx h (ps r)) 0 (L+1) none 1
noncomputable def rowVs (h:H) (L cnt:Nat) (ps:Nat→Nat):List AV:=(List.range cnt).map (rowV h L ps)
theorem xOw (h:H) (L cnt:Nat) (ps:Nat→Nat):(rowVs h L cnt ps).length=cnt:=by unfold rowVs;simp
theorem rowVs_get (h:H) (L:Nat) (ps:Nat→Nat) {cnt r:Nat} (hr:r<cnt):(rowVs h L cnt ps)[r]? = some (rowV h L ps r):=by
  unfold rowVs
  rw [List.getElem?_map,List.getElem?_range hr];rfl
theorem Ows.row {h:H} (wf:Wf h) {M:List AO} {io L cnt:Nat} {ps:Nat→Nat} {v:AV} (x:Ows h M io (rowVs h L cnt ps) v) {r:Nat} (hr:r<cnt):indexAddrE Try.prog 42 v (.int .i64 (r:Int))=some (.ptr (nx h io) r) ∧ ∀ w,load1 (nx h io) r (X h M w)=some (rowV h L ps r):=by
  rcases x with ⟨h0,_⟩|⟨_,rfl,hM⟩
  · have:=xOw h L cnt ps
    rw [h0] at this
    exact absurd hr (by simp at this;omega)
  · refine ⟨?_,fun w=>?_⟩
    · have ht:toNatE (.int .i64 (r:Int))=some r:=by rw [yUw (by omega),Int.toNat_natCast]
      have hr':r<(rowVs h L cnt ps).length:=by rw [xOw];exact hr
      simp only [zQy,ht,zTw,yTy hr',Nat.zero_add,Nat.mul_one]
    · rw [zGy wf,hM]
      show cellAt (some (AO.cells (zBz (rowVs h L cnt ps)) 22)) r=_
      rw [yWx,rowVs_get h L ps hr]
theorem RowsAt.bit {h:H} (wf:Wf h) {M:List AO} {L cnt:Nat} {ps:Nat→Nat} {rows:Nat→Nat→Bool} (x:RowsAt M L cnt ps rows) {r j:Nat} (hr:r<cnt) (hj:j≤L):indexAddrE Try.prog 22 (rowV h L ps r) (.int .i64 (j:Int))=some (.ptr (nx h (ps r)) j) ∧ ∀ w,load1 (nx h (ps r)) j (X h M w)=some (bi (rows r j)):=by
  refine ⟨?_,fun w=>?_⟩
  · have ht:toNatE (.int .i64 (j:Int))=some j:=by rw [yUw (by omega),Int.toNat_natCast]
    have hj':j<L+1:=by omega
    unfold rowV
    simp only [zQy,ht,zPw,yTy hj',Nat.zero_add,Nat.mul_one]
  · rw [zGy wf,x.at_ r hr]
    show cellAt (some (AO.cells (zBz ((mL (rows r) (L+1)).map bi)) 3)) j=_
    rw [yWx,List.getElem?_map]
    unfold mL
    rw [List.getElem?_map,List.getElem?_range (by omega)];rfl
theorem mL_set (f:Nat→Bool) (n c:Nat) (v:Bool):((mL f n).map bi).set c (bi v)=(mL (fun j=>if j=c then v else f j) n).map bi:=by
  apply List.ext_getElem?
  intro i
  unfold mL
  rw [List.map_map,List.map_map]
  by_cases hi:i<n
  · by_cases hc:i=c
    · subst hc
      rw [List.getElem?_set_self (by simpa using hi),List.getElem?_map,List.getElem?_range hi]
      show some (bi v)=some (bi (if i=i then v else f i))
      rw [if_pos rfl]
    · rw [List.getElem?_set_ne (Ne.symm hc),List.getElem?_map,List.getElem?_map,List.getElem?_range hi]
      show some (bi (f i))=some (bi (if i=c then v else f i))
      rw [if_neg hc]
  · rw [List.getElem?_eq_none (by simp;omega),List.getElem?_eq_none (by simp;omega)]
theorem RowsAt.store {h:H} (wf:Wf h) {M:List AO} {L cnt:Nat} {ps:Nat→Nat} {rows:Nat→Nat→Bool} (x:RowsAt M L cnt ps rows) {r c:Nat} (hr:r<cnt) (hc:c≤L) (v:Bool) :
    ∃ M',RowsAt M' L cnt ps (fun r'=>if r'=r then (fun j=>if j=c then v else rows r j) else rows r')∧M'.length=M.length∧(∀ k,k≠ps r→M'[k]? = M[k]?) ∧ ∀ w,store1 (nx h (ps r)) c (bi v) (X h M w)=some (X h M' (min (h.clock+ps r) w)):=by
  have hM:=x.at_ r hr
  have hlt:=zLw hM
  refine ⟨M.set (ps r) (.cells (zBz ((mL (fun j=>if j=c then v else rows r j) (L+1)).map bi)) 3),⟨fun r' hr'=>?_,x.inj⟩,List.length_set,fun k hk=>List.getElem?_set_ne (Ne.symm hk),fun w=>?_⟩
  · by_cases e:r'=r
    · subst e
      rw [List.getElem?_set_self hlt,if_pos rfl]
    · rw [List.getElem?_set_ne (fun e2=>e (x.inj _ _ hr' hr e2.symm)),if_neg e]
      exact x.at_ r' hr'
  · have e:storeAt (some (.cells (zBz ((mL (rows r) (L+1)).map bi)) 3)) c (bi v)=some (.cells (zBz ((mL (fun j=>if j=c then v else rows r j) (L+1)).map bi)) 3):=by
      rw [ySw,show oneB (bi v)=true from rfl,cond_true,if_pos (by rw [List.length_map,yZy];omega),mL_set]
    rw [zFx wf,hM,e]
theorem Ows.type {h:H} {M:List AO} {io:Nat} {cells:List AV} {v:AV} (x:Ows h M io cells v) {p:Nat} {cs:List AV} (hp:M[p]? = some (.cells (zBz cs) 3)):cells=[]∨p≠io:=by
  rcases x with ⟨h0,_⟩|⟨_,_,hM⟩
  · exact .inl h0
  · refine .inr fun e=>?_
    rw [e,hM] at hp
    injection hp with hp
    injection hp with _ h2
    cases h2
theorem RowsAt.congr {M:List AO} {L cnt:Nat} {ps:Nat→Nat} {rows rows':Nat→Nat→Bool} (x:RowsAt M L cnt ps rows) (e : ∀ r,r<cnt → ∀ j,j≤L→rows r j=rows' r j):RowsAt M L cnt ps rows':=by
  refine ⟨fun r hr=>?_,x.inj⟩
  rw [x.at_ r hr]
  have:mL (rows r) (L+1)=mL (rows' r) (L+1):=by
    unfold mL
    exact List.map_congr_left fun j hj=>e r hr j (by have:=List.mem_range.1 hj;omega)
  rw [this]
theorem RowsAt.snoc {h:H} {M M2 M3:List AO} {L cnt io io3 p:Nat} {ps:Nat→Nat} {rows:Nat→Nat→Bool} {vo vo' v':AV} (x:RowsAt M L cnt ps rows) (hM2 : ∀ k o,k<M.length→M[k]? = some o→M2[k]? = some o)
    (ows2:Ows h M2 io (rowVs h L cnt ps) vo) (ows3:Ows h M3 io3 (rowVs h L cnt ps++[v']) vo') (hk3 : ∀ k o,(rowVs h L cnt ps=[]∨k≠io)→M2[k]? = some o→M3[k]? = some o)
    (hv:v' = .sl (nx h p) 0 (L+1) none 1) (hp:M2[p]? = some (.cells (zBz ((mL (rows cnt) (L+1)).map bi)) 3)) (hpl:M.length≤p) :
    Ows h M3 io3 (rowVs h L (cnt+1) (fun r=>if r=cnt then p else ps r)) vo'∧RowsAt M3 L (cnt+1) (fun r=>if r=cnt then p else ps r) rows:=by
  have e:rowVs h L (cnt+1) (fun r=>if r=cnt then p else ps r)=rowVs h L cnt ps++[v']:=by
    unfold rowVs
    rw [List.range_succ,List.map_append]
    congr 1
    · refine List.map_congr_left fun r hr=>?_
      have:=List.mem_range.1 hr
      show AV.sl (nx h (if r=cnt then p else ps r)) 0 (L+1) none 1=AV.sl (nx h (ps r)) 0 (L+1) none 1
      rw [if_neg (by omega)]
    · show [rowV h L _ cnt]=[v']
      show [AV.sl (nx h (if cnt=cnt then p else ps cnt)) 0 (L+1) none 1]=[v']
      rw [if_pos rfl,hv]
  refine ⟨by rw [e];exact ows3,fun r hr=>?_,fun r r' hr hr' he=>?_⟩
  · by_cases h1:r=cnt
    · subst h1
      show M3[if r=r then p else ps r]? = _
      rw [if_pos rfl]
      exact hk3 _ _ (ows2.type hp) hp
    · show M3[if r=cnt then p else ps r]? = _
      rw [if_neg h1]
      have h2:=x.at_ r (by omega)
      have h3:=hM2 _ _ (zLw h2) h2
      exact hk3 _ _ (ows2.type h3) h3
  · have hb : ∀ q,q<cnt→ps q<M.length:=fun q hq=>zLw (x.at_ q hq)
    by_cases h1:r=cnt
    · by_cases h2:r'=cnt
      · omega
      · have:=hb r' (by omega)
        simp only [h1,h2,if_true,if_false] at he
        omega
    · by_cases h2:r'=cnt
      · have:=hb r (by omega)
        simp only [h1,h2,if_true,if_false] at he
        omega
      · simp only [h1,h2,if_false] at he
        exact x.inj r r' (by omega) (by omega) he
def elimR (rows:Nat→Nat→Bool) (k p r q j:Nat):Bool:=if k<q∧q<r∧rows q p=true then (rows q j ^^ rows k j) else rows q j
def halfR (rows:Nat→Nat→Bool) (k r c q j:Nat):Bool:=if q=r∧j<c then (rows q j ^^ rows k j) else rows q j
theorem elimR_skip {rows:Nat→Nat→Bool} {k p r:Nat} (hc:rows r p=false) (q j:Nat):elimR rows k p r q j=elimR rows k p (r+1) q j:=by
  unfold elimR
  by_cases e:q=r
  · subst e
    rw [if_neg (by omega),if_neg (by rw [hc];simp)]
  · by_cases h:k<q∧q<r∧rows q p=true
    · rw [if_pos h,if_pos ⟨h.1,by omega,h.2.2⟩]
    · rw [if_neg h,if_neg fun x=>h ⟨x.1,by omega,x.2.2⟩]
theorem elimR_half {rows:Nat→Nat→Bool} {k p r c L:Nat} (hkr:k<r) (hc:rows r p=true) (hcL:L<c) (q:Nat) {j:Nat} (hj:j≤L):halfR (elimR rows k p r) k r c q j=elimR rows k p (r+1) q j:=by
  unfold halfR
  by_cases e:q=r
  · subst e
    rw [if_pos ⟨rfl,by omega⟩]
    unfold elimR
    rw [if_neg (by omega),if_neg (by omega),if_pos ⟨hkr,by omega,hc⟩]
  · rw [if_neg (by omega)]
    unfold elimR
    by_cases h:k<q∧q<r∧rows q p=true
    · rw [if_pos h,if_pos ⟨h.1,by omega,h.2.2⟩]
    · rw [if_neg h,if_neg fun x=>h ⟨x.1,by omega,x.2.2⟩]
theorem halfR_succ (rows:Nat→Nat→Bool) (k r c q j:Nat):(if q=r then (fun j=>if j=c then (rows r c ^^ rows k c) else halfR rows k r c r j) else halfR rows k r c q) j=halfR rows k r (c+1) q j:=by
  unfold halfR
  by_cases e:q=r
  · subst e
    rw [if_pos rfl]
    show (if j=c then _ else _)=_
    by_cases h:j=c
    · subst h
      rw [if_pos rfl,if_pos ⟨rfl,by omega⟩]
    · rw [if_neg h]
      by_cases h2:j<c
      · rw [if_pos ⟨rfl,h2⟩,if_pos ⟨rfl,by omega⟩]
      · rw [if_neg (by omega),if_neg (by omega)]
  · rw [if_neg e,if_neg (by omega),if_neg (by omega)]
end Go.Proofs.Ytmincoafjnnkpaa
end

section
namespace Go.Proofs.Ytmincoafjnnkpaa
open Go.Ev
set_option maxRecDepth 100000
set_option linter.unusedSimpArgs false
set_option linter.unusedVariables false
set_option maxHeartbeats 2000000
theorem tEvZ30 :type_of% (And.intro (And.intro (And.intro (And.intro (And.intro (And.intro (And.intro (@yQv) (@yQw)) (And.intro (@yQx) (@yQy))) (And.intro (And.intro (@yQz) (@yPv)) (And.intro (@ia_2) (And.intro (@ia_3) (@ia_4))))) (And.intro (And.intro (And.intro (@ia_5) (@yPw)) (And.intro (@yPx) (@yPy))) (And.intro (And.intro (@yPz) (@yOv)) (And.intro (@yOw) (And.intro (@zSy) (@yOx)))))) (And.intro (And.intro (And.intro (And.intro (@yOy) (@yOz)) (And.intro (@yNv) (@yNw))) (And.intro (And.intro (@yNx) (@yNy)) (And.intro (@yNz) (And.intro (@yMv) (@sz_2))))) (And.intro (And.intro (And.intro (@sz_3) (@sz_4)) (And.intro (@sz_5) (And.intro (@zRy) (@zZy)))) (And.intro (And.intro (@zZz) (@zYv)) (And.intro (@zYw) (And.intro (@zYx) (@zRw))))))) (And.intro (And.intro (And.intro (And.intro (And.intro (@zYy) (@zYz)) (And.intro (@zXv) (@zQx))) (And.intro (And.intro (@zXw) (@zXx)) (And.intro (@zXy) (And.intro (@zXz) (@zWv))))) (And.intro (And.intro (And.intro (@ze_2) (@ze_3)) (And.intro (@ze_4) (And.intro (@ze_5) (@zWw)))) (And.intro (And.intro (@zWx) (@zWy)) (And.intro (@zWz) (And.intro (@zVv) (@zVw)))))) (And.intro (And.intro (And.intro (And.intro (@zVx) (@zVy)) (And.intro (@zVz) (@zUv))) (And.intro (And.intro (@zUw) (@zUx)) (And.intro (@zUy) (And.intro (@zUz) (@zTv))))) (And.intro (And.intro (And.intro (@zNw) (@zNx)) (And.intro (@zNy) (And.intro (@zNz) (@zMv)))) (And.intro (And.intro (@zMw) (@zMx)) (And.intro (@zMy) (And.intro (@zMz) (@yMw)))))))) (And.intro (And.intro (And.intro (And.intro (And.intro (And.intro (@yMx) (@yMy)) (And.intro (@yMz) (@yLv))) (And.intro (And.intro (@yLw) (@yLx)) (And.intro (@yLy) (And.intro (@yLz) (@yKv))))) (And.intro (And.intro (And.intro (@yKw) (@yKx)) (And.intro (@yKy) (@yKz))) (And.intro (And.intro (@yJv) (@yJw)) (And.intro (@yJx) (And.intro (@yJy) (@yJz)))))) (And.intro (And.intro (And.intro (And.intro (@yIv) (@yIw)) (And.intro (@yIx) (@yIy))) (And.intro (And.intro (@yIz) (@yHv)) (And.intro (@yHw) (And.intro (@yHx) (@yHy))))) (And.intro (And.intro (And.intro (@yHz) (@yGv)) (And.intro (@yGw) (And.intro (@yGx) (@yGy)))) (And.intro (And.intro (@yGz) (@yFv)) (And.intro (@yFw) (And.intro (@yFx) (@yFy))))))) (And.intro (And.intro (And.intro (And.intro (And.intro (@yFz) (@yEv)) (And.intro (@yEw) (@yEx))) (And.intro (And.intro (@yEy) (@yEz)) (And.intro (@yDv) (And.intro (@yDw) (@yDx))))) (And.intro (And.intro (And.intro (@yDy) (@yDz)) (And.intro (@yCv) (And.intro (@yCw) (@yCx)))) (And.intro (And.intro (@zSv) (@yCy)) (And.intro (@yCz) (And.intro (@yBv) (@yBw)))))) (And.intro (And.intro (And.intro (And.intro (@yBx) (@yBy)) (And.intro (@yBz) (@yAv))) (And.intro (And.intro (@yAw) (@yAx)) (And.intro (@yAy) (And.intro (@yAz) (@zZv))))) (And.intro (And.intro (And.intro (@zZw) (@zZx)) (And.intro (@zPw) (And.intro (@zTw) (@zTx)))) (And.intro (And.intro (@zRz) (@zTy)) (And.intro (@zQv) (And.intro (@zTz) (@zSz))))))))):=And.intro (And.intro (And.intro (And.intro (And.intro (And.intro (And.intro (@yQv) (@yQw)) (And.intro (@yQx) (@yQy))) (And.intro (And.intro (@yQz) (@yPv)) (And.intro (@ia_2) (And.intro (@ia_3) (@ia_4))))) (And.intro (And.intro (And.intro (@ia_5) (@yPw)) (And.intro (@yPx) (@yPy))) (And.intro (And.intro (@yPz) (@yOv)) (And.intro (@yOw) (And.intro (@zSy) (@yOx)))))) (And.intro (And.intro (And.intro (And.intro (@yOy) (@yOz)) (And.intro (@yNv) (@yNw))) (And.intro (And.intro (@yNx) (@yNy)) (And.intro (@yNz) (And.intro (@yMv) (@sz_2))))) (And.intro (And.intro (And.intro (@sz_3) (@sz_4)) (And.intro (@sz_5) (And.intro (@zRy) (@zZy)))) (And.intro (And.intro (@zZz) (@zYv)) (And.intro (@zYw) (And.intro (@zYx) (@zRw))))))) (And.intro (And.intro (And.intro (And.intro (And.intro (@zYy) (@zYz)) (And.intro (@zXv) (@zQx))) (And.intro (And.intro (@zXw) (@zXx)) (And.intro (@zXy) (And.intro (@zXz) (@zWv))))) (And.intro (And.intro (And.intro (@ze_2) (@ze_3)) (And.intro (@ze_4) (And.intro (@ze_5) (@zWw)))) (And.intro (And.intro (@zWx) (@zWy)) (And.intro (@zWz) (And.intro (@zVv) (@zVw)))))) (And.intro (And.intro (And.intro (And.intro (@zVx) (@zVy)) (And.intro (@zVz) (@zUv))) (And.intro (And.intro (@zUw) (@zUx)) (And.intro (@zUy) (And.intro (@zUz) (@zTv))))) (And.intro (And.intro (And.intro (@zNw) (@zNx)) (And.intro (@zNy) (And.intro (@zNz) (@zMv)))) (And.intro (And.intro (@zMw) (@zMx)) (And.intro (@zMy) (And.intro (@zMz) (@yMw)))))))) (And.intro (And.intro (And.intro (And.intro (And.intro (And.intro (@yMx) (@yMy)) (And.intro (@yMz) (@yLv))) (And.intro (And.intro (@yLw) (@yLx)) (And.intro (@yLy) (And.intro (@yLz) (@yKv))))) (And.intro (And.intro (And.intro (@yKw) (@yKx)) (And.intro (@yKy) (@yKz))) (And.intro (And.intro (@yJv) (@yJw)) (And.intro (@yJx) (And.intro (@yJy) (@yJz)))))) (And.intro (And.intro (And.intro (And.intro (@yIv) (@yIw)) (And.intro (@yIx) (@yIy))) (And.intro (And.intro (@yIz) (@yHv)) (And.intro (@yHw) (And.intro (@yHx) (@yHy))))) (And.intro (And.intro (And.intro (@yHz) (@yGv)) (And.intro (@yGw) (And.intro (@yGx) (@yGy)))) (And.intro (And.intro (@yGz) (@yFv)) (And.intro (@yFw) (And.intro (@yFx) (@yFy))))))) (And.intro (And.intro (And.intro (And.intro (And.intro (@yFz) (@yEv)) (And.intro (@yEw) (@yEx))) (And.intro (And.intro (@yEy) (@yEz)) (And.intro (@yDv) (And.intro (@yDw) (@yDx))))) (And.intro (And.intro (And.intro (@yDy) (@yDz)) (And.intro (@yCv) (And.intro (@yCw) (@yCx)))) (And.intro (And.intro (@zSv) (@yCy)) (And.intro (@yCz) (And.intro (@yBv) (@yBw)))))) (And.intro (And.intro (And.intro (And.intro (@yBx) (@yBy)) (And.intro (@yBz) (@yAv))) (And.intro (And.intro (@yAw) (@yAx)) (And.intro (@yAy) (And.intro (@yAz) (@zZv))))) (And.intro (And.intro (And.intro (@zZw) (@zZx)) (And.intro (@zPw) (And.intro (@zTw) (@zTx)))) (And.intro (And.intro (@zRz) (@zTy)) (And.intro (@zQv) (And.intro (@zTz) (@zSz))))))))
theorem solved (bs:List Bool) (hb:bs.length≤128) (L:Nat) (hL:L≤bs.length) (a:AV) (h:H) (wf:Wf h) (hs:Sl h a 1 bs.length (bs.map bi)) :
    ∃ b:Bool,(b=true ↔ ∃ T,T<2 ^ L∧Makes T L (sq bs) bs.length)∧(om Try.prog KK).call (.fn 57 [a,ii (L:Int)]) h = .ok (.bool b) h:=by
  suffices hW:WV ((om Try.prog KK).call (.fn 57 [a,ii (L:Int)]) h) fun r h'=>∃ b:Bool,(b=true ↔ ∃ T,T<2 ^ L∧Makes T L (sq bs) bs.length)∧r = .bool b∧h'=h by
    obtain ⟨r,h',e,b,h1,rfl,rfl⟩:=hW
    exact ⟨b,h1,e⟩
  have hl : ∀ h',lenE Try.prog 22 a h'=some (ii (bs.length:Int)):=fun h'=>hs.len yRy
  obtain ⟨f1,f2⟩:=zPx hs
  have hsol:=sol_eqs (s:=sq bs) hL
  generalize hn:bs.length=n at *
  generalize hsq:sq bs=s at *
  have hgets : ∀ i,i<n → ∃ id off,indexAddrE Try.prog 22 a (.int .i64 (i:Int))=some (.ptr id off) ∧ ∀ l w,load1 id off (X h l w)=some (bi (s i)):=fun i hi=>by
    have:=bget wf (bs:=bs) (a:=a) (by rw [hn];exact hs) (i:=i) (by omega)
    rw [hsq] at this
    exact this
  have hrz : ∀ id off l c esz,reszT Try.prog 22 (.sl id off l (some c) esz) = .sl id off l (some c) 1:=fun _ _ _ _ _=>yTz yRy sz_3
  have hrz2 : ∀ id off l c esz,reszT Try.prog 42 (.sl id off l (some c) esz) = .sl id off l (some c) 1:=fun _ _ _ _ _=>yTz un_42 zRy
  refine zLx (fn:=Try.f57) Try.func57 rfl rfl rfl rfl rfl ?_
  simp only [zKv]
  (repeat' (first
  | (with_reducible first|refine zJx ?_|refine zGv ?_|refine zFz ?_|refine zEv ?_|refine zFy ?_|refine zJw ?_|refine zHz ?_|refine zCz ?_|refine zDw ?_|refine zCy ?_|refine zCv ?_|refine zEx ?_|refine zDz ?_|refine zCx ?_|refine zBx ?_|refine zEz ?_|refine zEy ?_|refine zAw ?_|refine zBy ?_)
  | refine zDy ?_|refine zEw rfl ?_|refine zIv ?_|refine zJy ?_
  | ((first|refine zGw rfl rfl rfl rfl rfl fun K_ hK_=>?_|refine zGx rfl rfl rfl rfl rfl fun K_ hK_=>?_);simp only [zAz,zDx,zGz,↓reduceIte,reduceCtorEq,Nat.reduceEqDiff,Bool.not_true,Bool.not_false];refine hK_ _ ?_;clear hK_ K_)
  | refine zDv (by decide) ?_
  | ((try first|refine zKx rfl rfl rfl ?_|refine zIw rfl rfl ?_|refine zKw rfl rfl rfl ?_|refine zJz rfl rfl ?_);(refine zIx fun Q_ hQ_=>?_;simp (disch:=first|omega|(simp only [List.length_cons,List.length_nil,List.length_append];omega)) only [bb,bp,zKv,↓reduceIte,reduceCtorEq,Nat.reduceEqDiff,Nat.reduceLT,Nat.reduceLeDiff,Nat.reduceAdd,Nat.reduceMul,Nat.reduceSub,Nat.reduceBEq,Int.reduceToNat,cond_true,cond_false,eq_self,beq_self_eq_true,hl,f1,f2,zFw wf,zGy wf,zBv wf,zFx wf,zAy wf,zAx,tEvZ30,zIy,zIz,zHv,zHw,zAv wf];first|(refine zCw (Q:=Q_) (fun hp_=>?_) (fun hp_=>?_) <;> first|(exfalso;omega)|(refine hQ_ _ _ ?_;clear hQ_ Q_))|(refine zBw (Q:=Q_) (fun hp_=>?_) (fun hp_=>?_) <;> first|(exfalso;omega)|(refine hQ_ _ _ ?_;clear hQ_ Q_))|(refine hQ_ _ _ ?_;clear hQ_ Q_)))
  | (refine zHy fun K_ hK_=>?_;simp (disch:=omega) only [zFv,zAz,zHx,↓reduceIte,reduceCtorEq,Nat.reduceEqDiff,Nat.reduceLT];refine hK_ _ ?_;clear hK_ K_)))
  refine zOx (α:=Nat) (fun (i:Nat) f d h'=>L≤i∧i≤n∧f 0=a∧f 1=ii (L:Int)∧f 6=ii (i:Int)∧d=[] ∧
    ∃ M vo io ps w,f 5=vo∧Ows h M io (rowVs h L (i - L) ps) vo∧RowsAt M L (i - L) ps (eqs L s)∧h.clock≤w∧w≤h.clock+M.length∧h'=X h M w) (fun i=>n - i) ?_ (n+1) L (by omega) ?_
  · rintro i f d h' ⟨hLi,hin,g0,g1,g6,rfl,M,vo,io,ps,w,g5,ows,rat,hw,hwl,rfl⟩
    obtain ⟨go1,go2⟩:=ows.flat
    by_cases hlt:i<n
    ·
      (repeat' (first
  | (with_reducible first|refine zJx ?_|refine zGv ?_|refine zFz ?_|refine zEv ?_|refine zFy ?_|refine zJw ?_|refine zHz ?_|refine zCz ?_|refine zDw ?_|refine zCy ?_|refine zCv ?_|refine zEx ?_|refine zDz ?_|refine zCx ?_|refine zBx ?_|refine zEz ?_|refine zEy ?_|refine zAw ?_|refine zBy ?_)
  | refine zDy ?_|refine zEw rfl ?_|refine zIv ?_|refine zJy ?_
  | ((first|refine zGw rfl rfl rfl rfl rfl fun K_ hK_=>?_|refine zGx rfl rfl rfl rfl rfl fun K_ hK_=>?_);simp only [zAz,zDx,zGz,↓reduceIte,reduceCtorEq,Nat.reduceEqDiff,Bool.not_true,Bool.not_false];refine hK_ _ ?_;clear hK_ K_)
  | refine zDv (by decide) ?_
  | ((try first|refine zKx rfl rfl rfl ?_|refine zIw rfl rfl ?_|refine zKw rfl rfl rfl ?_|refine zJz rfl rfl ?_);(refine zIx fun Q_ hQ_=>?_;simp (disch:=first|omega|(simp only [List.length_cons,List.length_nil,List.length_append];omega)) only [bb,bp,zKv,↓reduceIte,reduceCtorEq,Nat.reduceEqDiff,Nat.reduceLT,Nat.reduceLeDiff,Nat.reduceAdd,Nat.reduceMul,Nat.reduceSub,Nat.reduceBEq,Int.reduceToNat,cond_true,cond_false,eq_self,beq_self_eq_true,hl,f1,f2,go1,go2,g0,g1,g5,g6,zFw wf,zGy wf,zBv wf,zFx wf,zAy wf,zAx,tEvZ30,zIy,zIz,zHv,zHw,zAv wf];first|(refine zCw (Q:=Q_) (fun hp_=>?_) (fun hp_=>?_) <;> first|(exfalso;omega)|(refine hQ_ _ _ ?_;clear hQ_ Q_))|(refine zBw (Q:=Q_) (fun hp_=>?_) (fun hp_=>?_) <;> first|(exfalso;omega)|(refine hQ_ _ _ ?_;clear hQ_ Q_))|(refine hQ_ _ _ ?_;clear hQ_ Q_)))
  | (refine zHy fun K_ hK_=>?_;simp (disch:=omega) only [zFv,zAz,zHx,↓reduceIte,reduceCtorEq,Nat.reduceEqDiff,Nat.reduceLT];refine hK_ _ ?_;clear hK_ K_)))
      refine zOx (α:=Nat) (fun (j:Nat) f d h'=>j≤L∧f 0=a∧f 1=ii (L:Int)∧f 5=vo∧f 6=ii (i:Int)∧f 8=ii ((j+1:Nat):Int)∧d=[] ∧
        ∃ M' v7 i7 w',f 7=v7∧Own h M' i7 ((mL (eqs L s (i - L)) j).map bi) v7∧(j=0∨M.length≤i7)∧M.length≤M'.length∧(∀ k o,k<M.length→M[k]? = some o→M'[k]? = some o)∧h.clock≤w'∧w'≤h.clock+M'.length∧h'=X h M' w') (fun j=>L - j) ?_ (L+1) 0 (by omega) ?_
      · rintro j f d h' ⟨hj,g0,g1,g5,g6,g8,rfl,M',v7,i7,w',g7,own,hi7,hMl,hkeep,hw',hwl',rfl⟩
        obtain ⟨g71,g72⟩:=own.flat
        have hlen7:((mL (eqs L s (i - L)) j).map bi).length=j:=by rw [List.length_map,yZy]
        by_cases hjl:j<L
        · obtain ⟨id,off,hix,hld⟩:=hgets (i - (j+1)) (by omega)
          have hij:(i:Int) - ((j+1:Nat):Int)=((i - (j+1):Nat):Int):=by omega
          have hval:s (i - (j+1))=eqs L s (i - L) j:=by unfold eqs;rw [if_pos hjl,show L+(i - L) - 1 - j=i - (j+1) by omega]
          rw [hval] at hld
          obtain ⟨v',M2,own',hl2,hk2,happ⟩:=own.app wf (bi (eqs L s (i - L) j)) rfl (by rw [hlen7];omega)
          obtain ⟨w2,hw21,hw22,happ⟩:=happ w' hw'
          have eq1:(mL (eqs L s (i - L)) (j+1)).map bi=(mL (eqs L s (i - L)) j).map bi++[bi (eqs L s (i - L) j)]:=by rw [mL_succ,List.map_append];rfl
          rw [← eq1] at own'
          obtain ⟨g73,g74⟩:=own'.flat
          have ho:oneB (bi (eqs L s (i - L) j))=true:=rfl
          have ho':AV.cells (bi (eqs L s (i - L) j))=[bi (eqs L s (i - L) j)]:=rfl
          generalize bi (eqs L s (i - L) j)=y at *
          have hle:((j+1:Nat):Int)≤(L:Int):=by omega
          have hj2:((j+1:Nat):Int)+1=((j+1+1:Nat):Int):=by omega
          (repeat' (first
  | (with_reducible first|refine zJx ?_|refine zGv ?_|refine zFz ?_|refine zEv ?_|refine zFy ?_|refine zJw ?_|refine zHz ?_|refine zCz ?_|refine zDw ?_|refine zCy ?_|refine zCv ?_|refine zEx ?_|refine zDz ?_|refine zCx ?_|refine zBx ?_|refine zEz ?_|refine zEy ?_|refine zAw ?_|refine zBy ?_)
  | refine zDy ?_|refine zEw rfl ?_|refine zIv ?_|refine zJy ?_
  | ((first|refine zGw rfl rfl rfl rfl rfl fun K_ hK_=>?_|refine zGx rfl rfl rfl rfl rfl fun K_ hK_=>?_);simp only [zAz,zDx,zGz,↓reduceIte,reduceCtorEq,Nat.reduceEqDiff,Bool.not_true,Bool.not_false];refine hK_ _ ?_;clear hK_ K_)
  | refine zDv (by decide) ?_
  | ((try first|refine zKx rfl rfl rfl ?_|refine zIw rfl rfl ?_|refine zKw rfl rfl rfl ?_|refine zJz rfl rfl ?_);(refine zIx fun Q_ hQ_=>?_;simp (disch:=first|omega|(simp only [List.length_cons,List.length_nil,List.length_append];omega)) only [bb,bp,zKv,↓reduceIte,reduceCtorEq,Nat.reduceEqDiff,Nat.reduceLT,Nat.reduceLeDiff,Nat.reduceAdd,Nat.reduceMul,Nat.reduceSub,Nat.reduceBEq,Int.reduceToNat,cond_true,cond_false,eq_self,beq_self_eq_true,hl,f1,f2,go1,go2,g71,g72,g73,g74,g0,g1,g5,g6,g7,g8,hij,hix,hld,ho,ho',happ,hrz,hj2,zQv,zFw wf,zGy wf,zBv wf,zFx wf,zAy wf,zAx,tEvZ30,zIy,zIz,zHv,zHw,zAv wf];first|(refine zCw (Q:=Q_) (fun hp_=>?_) (fun hp_=>?_) <;> first|(exfalso;omega)|(refine hQ_ _ _ ?_;clear hQ_ Q_))|(refine zBw (Q:=Q_) (fun hp_=>?_) (fun hp_=>?_) <;> first|(exfalso;omega)|(refine hQ_ _ _ ?_;clear hQ_ Q_))|(refine hQ_ _ _ ?_;clear hQ_ Q_)))
  | (refine zHy fun K_ hK_=>?_;simp (disch:=omega) only [zFv,zAz,zHx,↓reduceIte,reduceCtorEq,Nat.reduceEqDiff,Nat.reduceLT];refine hK_ _ ?_;clear hK_ K_)))
          refine zKz (j+1) (by omega) ⟨hjl,by simp only [zAz,↓reduceIte,reduceCtorEq,Nat.reduceEqDiff];exact g0,by simp only [zAz,↓reduceIte,reduceCtorEq,Nat.reduceEqDiff];exact g1,by simp only [zAz,↓reduceIte,reduceCtorEq,Nat.reduceEqDiff];exact g5,by simp only [zAz,↓reduceIte,reduceCtorEq,Nat.reduceEqDiff];exact g6,by simp only [zAz,↓reduceIte,reduceCtorEq,Nat.reduceEqDiff];try rfl,rfl,M2,v',_,w2,by simp only [zAz,↓reduceIte,reduceCtorEq,Nat.reduceEqDiff],own',.inr (by omega),by omega,fun k o hk ho=>hk2 k o (hi7.elim (fun h=>.inl (by subst h;rfl)) fun h=>.inr (by omega)) (hkeep k o hk ho),hw21,by omega,rfl⟩
        · have hjL:j=L:=by omega
          subst hjL
          have hle : ¬ ((j+1:Nat):Int)≤(j:Int):=by omega
          obtain ⟨id,off,hix,hld⟩:=hgets i hlt
          have hval:s i=eqs j s (i - j) j:=by unfold eqs;rw [if_neg (Nat.lt_irrefl j),show j+(i - j)=i by omega]
          rw [hval] at hld
          obtain ⟨v',M2,own',hl2,hk2,happ⟩:=own.app wf (bi (eqs j s (i - j) j)) rfl (by rw [hlen7];omega)
          obtain ⟨w2,hw21,hw22,happ⟩:=happ w' hw'
          have eq1:(mL (eqs j s (i - j)) (j+1)).map bi=(mL (eqs j s (i - j)) j).map bi++[bi (eqs j s (i - j) j)]:=by rw [mL_succ,List.map_append];rfl
          rw [← eq1] at own'
          obtain ⟨g73,g74⟩:=own'.flat
          have hkeep2 : ∀ k o,k<M.length→M[k]? = some o→M2[k]? = some o:=fun k o hk ho=>hk2 k o (hi7.elim (fun h=>.inl (by subst h;rfl)) fun h=>.inr (by omega)) (hkeep k o hk ho)
          have ows2:Ows h M2 io (rowVs h j (i - j) ps) vo:=ows.keep fun _ o ho=>hkeep2 io o (zLw ho) ho
          obtain ⟨vo',M3,ows3,hl3,hk3,happ2⟩:=ows2.app wf v' g74 (by rw [xOw];omega)
          obtain ⟨w3,hw31,hw32,happ2⟩:=happ2 w2 hw21
          obtain ⟨go3,go4⟩:=ows3.flat
          have ho:oneB (bi (eqs j s (i - j) j))=true:=rfl
          have ho':AV.cells (bi (eqs j s (i - j) j))=[bi (eqs j s (i - j) j)]:=rfl
          have hv':v' = .sl (nx h (M'.length+1)) 0 (j+1) none 1∧M2[M'.length+1]? = some (.cells (zBz ((mL (eqs j s (i - j)) (j+1)).map bi)) 3):=by
            rcases own' with ⟨h0,_⟩|⟨_,h1,h2⟩
            · exact absurd (congrArg List.length h0) (by rw [List.length_map,yZy];simp)
            · rw [List.length_map,yZy] at h1
              exact ⟨h1,h2⟩
          have hnew:Ows h M3 (M2.length+1) (rowVs h j (i+1 - j) (fun r=>if r=i - j then M'.length+1 else ps r)) vo'∧RowsAt M3 j (i+1 - j) (fun r=>if r=i - j then M'.length+1 else ps r) (eqs j s):=by
            rw [show i+1 - j=(i - j)+1 by omega]
            exact rat.snoc hkeep2 ows2 ows3 hk3 hv'.1 hv'.2 (by omega)
          (repeat' (first
  | (with_reducible first|refine zJx ?_|refine zGv ?_|refine zFz ?_|refine zEv ?_|refine zFy ?_|refine zJw ?_|refine zHz ?_|refine zCz ?_|refine zDw ?_|refine zCy ?_|refine zCv ?_|refine zEx ?_|refine zDz ?_|refine zCx ?_|refine zBx ?_|refine zEz ?_|refine zEy ?_|refine zAw ?_|refine zBy ?_)
  | refine zDy ?_|refine zEw rfl ?_|refine zIv ?_|refine zJy ?_
  | ((first|refine zGw rfl rfl rfl rfl rfl fun K_ hK_=>?_|refine zGx rfl rfl rfl rfl rfl fun K_ hK_=>?_);simp only [zAz,zDx,zGz,↓reduceIte,reduceCtorEq,Nat.reduceEqDiff,Bool.not_true,Bool.not_false];refine hK_ _ ?_;clear hK_ K_)
  | refine zDv (by decide) ?_
  | ((try first|refine zKx rfl rfl rfl ?_|refine zIw rfl rfl ?_|refine zKw rfl rfl rfl ?_|refine zJz rfl rfl ?_);(refine zIx fun Q_ hQ_=>?_;simp (disch:=first|omega|(simp only [List.length_cons,List.length_nil,List.length_append];omega)) only [bb,bp,zKv,↓reduceIte,reduceCtorEq,Nat.reduceEqDiff,Nat.reduceLT,Nat.reduceLeDiff,Nat.reduceAdd,Nat.reduceMul,Nat.reduceSub,Nat.reduceBEq,Int.reduceToNat,cond_true,cond_false,eq_self,beq_self_eq_true,hl,f1,f2,go1,go2,go3,go4,g71,g72,g73,g74,g0,g1,g5,g6,g7,g8,hix,hld,ho,ho',happ,happ2,hrz,hrz2,zQv,zTz,zFw wf,zGy wf,zBv wf,zFx wf,zAy wf,zAx,tEvZ30,zIy,zIz,zHv,zHw,zAv wf];first|(refine zCw (Q:=Q_) (fun hp_=>?_) (fun hp_=>?_) <;> first|(exfalso;omega)|(refine hQ_ _ _ ?_;clear hQ_ Q_))|(refine zBw (Q:=Q_) (fun hp_=>?_) (fun hp_=>?_) <;> first|(exfalso;omega)|(refine hQ_ _ _ ?_;clear hQ_ Q_))|(refine hQ_ _ _ ?_;clear hQ_ Q_)))
  | (refine zHy fun K_ hK_=>?_;simp (disch:=omega) only [zFv,zAz,zHx,↓reduceIte,reduceCtorEq,Nat.reduceEqDiff,Nat.reduceLT];refine hK_ _ ?_;clear hK_ K_)))
          exact zKz (i+1) (by omega) ⟨by omega,by omega,by simp only [zAz,↓reduceIte,reduceCtorEq,Nat.reduceEqDiff];exact g0,by simp only [zAz,↓reduceIte,reduceCtorEq,Nat.reduceEqDiff];exact g1,by simp only [zAz,↓reduceIte,reduceCtorEq,Nat.reduceEqDiff];rfl,rfl,M3,vo',_,_,w3,by simp only [zAz,↓reduceIte,reduceCtorEq,Nat.reduceEqDiff],hnew.1,hnew.2,hw31,by omega,rfl⟩
      · exact ⟨Nat.zero_le _,by simp only [zAz,↓reduceIte,reduceCtorEq,Nat.reduceEqDiff];exact g0,by simp only [zAz,↓reduceIte,reduceCtorEq,Nat.reduceEqDiff];exact g1,by simp only [zAz,↓reduceIte,reduceCtorEq,Nat.reduceEqDiff];exact g5,by simp only [zAz,↓reduceIte,reduceCtorEq,Nat.reduceEqDiff];exact g6,by simp only [zAz,↓reduceIte,reduceCtorEq,Nat.reduceEqDiff];try rfl,rfl,M,.nils,0,w,by simp only [zAz,↓reduceIte,reduceCtorEq,Nat.reduceEqDiff],.inl ⟨rfl,rfl⟩,.inl rfl,Nat.le_refl _,fun _ _ _ h=>h,hw,hwl,rfl⟩
    · have hie:i=n:=by omega
      subst hie
      have hm : ∃ m,m=i - L:=⟨_,rfl⟩
      obtain ⟨m,hm⟩:=hm
      rw [← hm] at ows rat hsol
      have hlo : ∀ h',lenE Try.prog 42 vo h'=some (ii (m:Int)):=fun h'=>by
        have:=(ows.sl wf w).len un_42 (h':=h')
        rwa [xOw] at this
      (repeat' (first
  | (with_reducible first|refine zJx ?_|refine zGv ?_|refine zFz ?_|refine zEv ?_|refine zFy ?_|refine zJw ?_|refine zHz ?_|refine zCz ?_|refine zDw ?_|refine zCy ?_|refine zCv ?_|refine zEx ?_|refine zDz ?_|refine zCx ?_|refine zBx ?_|refine zEz ?_|refine zEy ?_|refine zAw ?_|refine zBy ?_)
  | refine zDy ?_|refine zEw rfl ?_|refine zIv ?_|refine zJy ?_
  | ((first|refine zGw rfl rfl rfl rfl rfl fun K_ hK_=>?_|refine zGx rfl rfl rfl rfl rfl fun K_ hK_=>?_);simp only [zAz,zDx,zGz,↓reduceIte,reduceCtorEq,Nat.reduceEqDiff,Bool.not_true,Bool.not_false];refine hK_ _ ?_;clear hK_ K_)
  | refine zDv (by decide) ?_
  | ((try first|refine zKx rfl rfl rfl ?_|refine zIw rfl rfl ?_|refine zKw rfl rfl rfl ?_|refine zJz rfl rfl ?_);(refine zIx fun Q_ hQ_=>?_;simp (disch:=first|omega|(simp only [List.length_cons,List.length_nil,List.length_append];omega)) only [bb,bp,zKv,↓reduceIte,reduceCtorEq,Nat.reduceEqDiff,Nat.reduceLT,Nat.reduceLeDiff,Nat.reduceAdd,Nat.reduceMul,Nat.reduceSub,Nat.reduceBEq,Int.reduceToNat,cond_true,cond_false,eq_self,beq_self_eq_true,hl,f1,f2,go1,go2,g0,g1,g5,g6,zFw wf,zGy wf,zBv wf,zFx wf,zAy wf,zAx,tEvZ30,zIy,zIz,zHv,zHw,zAv wf];first|(refine zCw (Q:=Q_) (fun hp_=>?_) (fun hp_=>?_) <;> first|(exfalso;omega)|(refine hQ_ _ _ ?_;clear hQ_ Q_))|(refine zBw (Q:=Q_) (fun hp_=>?_) (fun hp_=>?_) <;> first|(exfalso;omega)|(refine hQ_ _ _ ?_;clear hQ_ Q_))|(refine hQ_ _ _ ?_;clear hQ_ Q_)))
  | (refine zHy fun K_ hK_=>?_;simp (disch:=omega) only [zFv,zAz,zHx,↓reduceIte,reduceCtorEq,Nat.reduceEqDiff,Nat.reduceLT];refine hK_ _ ?_;clear hK_ K_)))
      refine zOx (α:=Nat) (fun (k:Nat) f d h'=>k≤m∧f 0=a∧f 1=ii (L:Int)∧f 5=vo∧f 9=ii (k:Int)∧d=[] ∧
        ∃ M rows w,Ows h M io (rowVs h L m ps) vo∧RowsAt M L m ps rows∧(SolF L m 0 (eqs L s) ↔ SolF L m k rows)∧h.clock≤w∧w≤h.clock+M.length∧h'=X h M w) (fun k=>m - k) ?_ (m+1) 0 (by omega) ?_
      · clear ows rat hw g0 g1 g5 g6
        rintro k f d h' ⟨hk,g0,g1,g5,g9,rfl,M,rows,w,ows,rat,hso,hw,hwl,rfl⟩
        by_cases hkm:k<m
        · obtain ⟨hixk,hldk⟩:=ows.row wf (r:=k) hkm
          have hck:AV.cells (rowV h L ps k)=[rowV h L ps k]:=rfl
          have hok:oneB (rowV h L ps k)=true:=rfl
          (repeat' (first
  | (with_reducible first|refine zJx ?_|refine zGv ?_|refine zFz ?_|refine zEv ?_|refine zFy ?_|refine zJw ?_|refine zHz ?_|refine zCz ?_|refine zDw ?_|refine zCy ?_|refine zCv ?_|refine zEx ?_|refine zDz ?_|refine zCx ?_|refine zBx ?_|refine zEz ?_|refine zEy ?_|refine zAw ?_|refine zBy ?_)
  | refine zDy ?_|refine zEw rfl ?_|refine zIv ?_|refine zJy ?_
  | ((first|refine zGw rfl rfl rfl rfl rfl fun K_ hK_=>?_|refine zGx rfl rfl rfl rfl rfl fun K_ hK_=>?_);simp only [zAz,zDx,zGz,↓reduceIte,reduceCtorEq,Nat.reduceEqDiff,Bool.not_true,Bool.not_false];refine hK_ _ ?_;clear hK_ K_)
  | refine zDv (by decide) ?_
  | ((try first|refine zKx rfl rfl rfl ?_|refine zIw rfl rfl ?_|refine zKw rfl rfl rfl ?_|refine zJz rfl rfl ?_);(refine zIx fun Q_ hQ_=>?_;simp (disch:=first|omega|(simp only [List.length_cons,List.length_nil,List.length_append];omega)) only [bb,bp,zKv,↓reduceIte,reduceCtorEq,Nat.reduceEqDiff,Nat.reduceLT,Nat.reduceLeDiff,Nat.reduceAdd,Nat.reduceMul,Nat.reduceSub,Nat.reduceBEq,Int.reduceToNat,cond_true,cond_false,eq_self,beq_self_eq_true,hl,hlo,f1,f2,go1,go2,g0,g1,g5,g9,zFw wf,zGy wf,zBv wf,zFx wf,zAy wf,zAx,tEvZ30,zIy,zIz,zHv,zHw,zAv wf];first|(refine zCw (Q:=Q_) (fun hp_=>?_) (fun hp_=>?_) <;> first|(exfalso;omega)|(refine hQ_ _ _ ?_;clear hQ_ Q_))|(refine zBw (Q:=Q_) (fun hp_=>?_) (fun hp_=>?_) <;> first|(exfalso;omega)|(refine hQ_ _ _ ?_;clear hQ_ Q_))|(refine hQ_ _ _ ?_;clear hQ_ Q_)))
  | (refine zHy fun K_ hK_=>?_;simp (disch:=omega) only [zFv,zAz,zHx,↓reduceIte,reduceCtorEq,Nat.reduceEqDiff,Nat.reduceLT];refine hK_ _ ?_;clear hK_ K_)))
          refine zOx (α:=Nat) (fun (p:Nat) f d h'=>p≤L∧(∀ j,j<p→rows k j=false)∧f 0=a∧f 1=ii (L:Int)∧f 5=vo∧f 9=ii (k:Int)∧f 10=ii (p:Int)∧d=[]∧h'=X h M w) (fun p=>L - p) ?_ (L+1) 0 (by omega) ?_
          · clear g0 g1 g5 g9
            rintro p f d h' ⟨hp,hz,g0,g1,g5,g9,g10,rfl,rfl⟩
            obtain ⟨hixb,hldb⟩:=rat.bit wf (r:=k) (j:=p) hkm hp
            by_cases hpL:p<L
            · cases hb:rows k p
              · have hld0 : ∀ w,load1 (nx h (ps k)) p (X h M w)=some (ii 0):=fun w=>by rw [hldb w,hb];rfl
                (repeat' (first
  | (with_reducible first|refine zJx ?_|refine zGv ?_|refine zFz ?_|refine zEv ?_|refine zFy ?_|refine zJw ?_|refine zHz ?_|refine zCz ?_|refine zDw ?_|refine zCy ?_|refine zCv ?_|refine zEx ?_|refine zDz ?_|refine zCx ?_|refine zBx ?_|refine zEz ?_|refine zEy ?_|refine zAw ?_|refine zBy ?_)
  | refine zDy ?_|refine zEw rfl ?_|refine zIv ?_|refine zJy ?_
  | ((first|refine zGw rfl rfl rfl rfl rfl fun K_ hK_=>?_|refine zGx rfl rfl rfl rfl rfl fun K_ hK_=>?_);simp only [zAz,zDx,zGz,↓reduceIte,reduceCtorEq,Nat.reduceEqDiff,Bool.not_true,Bool.not_false];refine hK_ _ ?_;clear hK_ K_)
  | refine zDv (by decide) ?_
  | ((try first|refine zKx rfl rfl rfl ?_|refine zIw rfl rfl ?_|refine zKw rfl rfl rfl ?_|refine zJz rfl rfl ?_);(refine zIx fun Q_ hQ_=>?_;simp (disch:=first|omega|(simp only [List.length_cons,List.length_nil,List.length_append];omega)) only [bb,bp,zKv,↓reduceIte,reduceCtorEq,Nat.reduceEqDiff,Nat.reduceLT,Nat.reduceLeDiff,Nat.reduceAdd,Nat.reduceMul,Nat.reduceSub,Nat.reduceBEq,Int.reduceToNat,cond_true,cond_false,eq_self,beq_self_eq_true,hl,hlo,f1,f2,go1,go2,g0,g1,g5,g9,g10,hixk,hldk,hck,hok,hixb,hld0,zFw wf,zGy wf,zBv wf,zFx wf,zAy wf,zAx,tEvZ30,zIy,zIz,zHv,zHw,zAv wf];first|(refine zCw (Q:=Q_) (fun hp_=>?_) (fun hp_=>?_) <;> first|(exfalso;omega)|(refine hQ_ _ _ ?_;clear hQ_ Q_))|(refine zBw (Q:=Q_) (fun hp_=>?_) (fun hp_=>?_) <;> first|(exfalso;omega)|(refine hQ_ _ _ ?_;clear hQ_ Q_))|(refine hQ_ _ _ ?_;clear hQ_ Q_)))
  | (refine zHy fun K_ hK_=>?_;simp (disch:=omega) only [zFv,zAz,zHx,↓reduceIte,reduceCtorEq,Nat.reduceEqDiff,Nat.reduceLT];refine hK_ _ ?_;clear hK_ K_)))
                exact zKz (p+1) (by omega) ⟨hpL,fun j hj=>by
                  by_cases e:j=p
                  · rw [e,hb]
                  · exact hz j (by omega),by simp only [zAz,↓reduceIte,reduceCtorEq,Nat.reduceEqDiff];exact g0,by simp only [zAz,↓reduceIte,reduceCtorEq,Nat.reduceEqDiff];exact g1,by simp only [zAz,↓reduceIte,reduceCtorEq,Nat.reduceEqDiff];exact g5,by simp only [zAz,↓reduceIte,reduceCtorEq,Nat.reduceEqDiff];exact g9,by simp only [zAz,↓reduceIte,reduceCtorEq,Nat.reduceEqDiff];rfl,rfl,rfl⟩
              · have hld1 : ∀ w,load1 (nx h (ps k)) p (X h M w)=some (ii 1):=fun w=>by rw [hldb w,hb];rfl
                (repeat' (first
  | (with_reducible first|refine zJx ?_|refine zGv ?_|refine zFz ?_|refine zEv ?_|refine zFy ?_|refine zJw ?_|refine zHz ?_|refine zCz ?_|refine zDw ?_|refine zCy ?_|refine zCv ?_|refine zEx ?_|refine zDz ?_|refine zCx ?_|refine zBx ?_|refine zEz ?_|refine zEy ?_|refine zAw ?_|refine zBy ?_)
  | refine zDy ?_|refine zEw rfl ?_|refine zIv ?_|refine zJy ?_
  | ((first|refine zGw rfl rfl rfl rfl rfl fun K_ hK_=>?_|refine zGx rfl rfl rfl rfl rfl fun K_ hK_=>?_);simp only [zAz,zDx,zGz,↓reduceIte,reduceCtorEq,Nat.reduceEqDiff,Bool.not_true,Bool.not_false];refine hK_ _ ?_;clear hK_ K_)
  | refine zDv (by decide) ?_
  | ((try first|refine zKx rfl rfl rfl ?_|refine zIw rfl rfl ?_|refine zKw rfl rfl rfl ?_|refine zJz rfl rfl ?_);(refine zIx fun Q_ hQ_=>?_;simp (disch:=first|omega|(simp only [List.length_cons,List.length_nil,List.length_append];omega)) only [bb,bp,zKv,↓reduceIte,reduceCtorEq,Nat.reduceEqDiff,Nat.reduceLT,Nat.reduceLeDiff,Nat.reduceAdd,Nat.reduceMul,Nat.reduceSub,Nat.reduceBEq,Int.reduceToNat,cond_true,cond_false,eq_self,beq_self_eq_true,hl,hlo,f1,f2,go1,go2,g0,g1,g5,g9,g10,hixk,hldk,hck,hok,hixb,hld1,zFw wf,zGy wf,zBv wf,zFx wf,zAy wf,zAx,tEvZ30,zIy,zIz,zHv,zHw,zAv wf];first|(refine zCw (Q:=Q_) (fun hp_=>?_) (fun hp_=>?_) <;> first|(exfalso;omega)|(refine hQ_ _ _ ?_;clear hQ_ Q_))|(refine zBw (Q:=Q_) (fun hp_=>?_) (fun hp_=>?_) <;> first|(exfalso;omega)|(refine hQ_ _ _ ?_;clear hQ_ Q_))|(refine hQ_ _ _ ?_;clear hQ_ Q_)))
  | (refine zHy fun K_ hK_=>?_;simp (disch:=omega) only [zFv,zAz,zHx,↓reduceIte,reduceCtorEq,Nat.reduceEqDiff,Nat.reduceLT];refine hK_ _ ?_;clear hK_ K_)))
                refine zOx (α:=Nat) (fun (r:Nat) f d h'=>k<r∧r≤m∧f 0=a∧f 1=ii (L:Int)∧f 5=vo∧f 9=ii (k:Int)∧f 10=ii (p:Int)∧f 11=ii (r:Int)∧d=[] ∧
                  ∃ M w,Ows h M io (rowVs h L m ps) vo∧RowsAt M L m ps (elimR rows k p r)∧h.clock≤w∧w≤h.clock+M.length∧h'=X h M w) (fun r=>m - r) ?_ (m+1) (k+1) (by omega) ?_
                · clear g0 g1 g5 g9 g10
                  rintro r f d h' ⟨hkr,hr,g0,g1,g5,g9,g10,g11,rfl,M,w,ows,rat,hw,hwl,rfl⟩
                  by_cases hrm:r<m
                  · obtain ⟨hixr,hldr⟩:=ows.row wf (r:=r) hrm
                    have hcr:AV.cells (rowV h L ps r)=[rowV h L ps r]:=rfl
                    have hor:oneB (rowV h L ps r)=true:=rfl
                    obtain ⟨hixc,hldc⟩:=rat.bit wf (r:=r) (j:=p) hrm hp
                    have hee:elimR rows k p r r p=rows r p:=by unfold elimR;rw [if_neg (by omega)]
                    rw [hee] at hldc
                    cases hc:rows r p
                    · have hld0 : ∀ w,load1 (nx h (ps r)) p (X h M w)=some (ii 0):=fun w=>by rw [hldc w,hc];rfl
                      (repeat' (first
  | (with_reducible first|refine zJx ?_|refine zGv ?_|refine zFz ?_|refine zEv ?_|refine zFy ?_|refine zJw ?_|refine zHz ?_|refine zCz ?_|refine zDw ?_|refine zCy ?_|refine zCv ?_|refine zEx ?_|refine zDz ?_|refine zCx ?_|refine zBx ?_|refine zEz ?_|refine zEy ?_|refine zAw ?_|refine zBy ?_)
  | refine zDy ?_|refine zEw rfl ?_|refine zIv ?_|refine zJy ?_
  | ((first|refine zGw rfl rfl rfl rfl rfl fun K_ hK_=>?_|refine zGx rfl rfl rfl rfl rfl fun K_ hK_=>?_);simp only [zAz,zDx,zGz,↓reduceIte,reduceCtorEq,Nat.reduceEqDiff,Bool.not_true,Bool.not_false];refine hK_ _ ?_;clear hK_ K_)
  | refine zDv (by decide) ?_
  | ((try first|refine zKx rfl rfl rfl ?_|refine zIw rfl rfl ?_|refine zKw rfl rfl rfl ?_|refine zJz rfl rfl ?_);(refine zIx fun Q_ hQ_=>?_;simp (disch:=first|omega|(simp only [List.length_cons,List.length_nil,List.length_append];omega)) only [bb,bp,zKv,↓reduceIte,reduceCtorEq,Nat.reduceEqDiff,Nat.reduceLT,Nat.reduceLeDiff,Nat.reduceAdd,Nat.reduceMul,Nat.reduceSub,Nat.reduceBEq,Int.reduceToNat,cond_true,cond_false,eq_self,beq_self_eq_true,hl,hlo,f1,f2,go1,go2,g0,g1,g5,g9,g10,g11,hixr,hldr,hcr,hor,hixc,hld0,zFw wf,zGy wf,zBv wf,zFx wf,zAy wf,zAx,tEvZ30,zIy,zIz,zHv,zHw,zAv wf];first|(refine zCw (Q:=Q_) (fun hp_=>?_) (fun hp_=>?_) <;> first|(exfalso;omega)|(refine hQ_ _ _ ?_;clear hQ_ Q_))|(refine zBw (Q:=Q_) (fun hp_=>?_) (fun hp_=>?_) <;> first|(exfalso;omega)|(refine hQ_ _ _ ?_;clear hQ_ Q_))|(refine hQ_ _ _ ?_;clear hQ_ Q_)))
  | (refine zHy fun K_ hK_=>?_;simp (disch:=omega) only [zFv,zAz,zHx,↓reduceIte,reduceCtorEq,Nat.reduceEqDiff,Nat.reduceLT];refine hK_ _ ?_;clear hK_ K_)))
                      exact zKz (r+1) (by omega) ⟨by omega,hrm,by simp only [zAz,↓reduceIte,reduceCtorEq,Nat.reduceEqDiff];exact g0,by simp only [zAz,↓reduceIte,reduceCtorEq,Nat.reduceEqDiff];exact g1,by simp only [zAz,↓reduceIte,reduceCtorEq,Nat.reduceEqDiff];exact g5,by simp only [zAz,↓reduceIte,reduceCtorEq,Nat.reduceEqDiff];exact g9,by simp only [zAz,↓reduceIte,reduceCtorEq,Nat.reduceEqDiff];exact g10,by simp only [zAz,↓reduceIte,reduceCtorEq,Nat.reduceEqDiff];rfl,rfl,M,w,ows,rat.congr fun q hq j hj=>elimR_skip hc q j,hw,hwl,rfl⟩
                    · have hld2 : ∀ w,load1 (nx h (ps r)) p (X h M w)=some (ii 1):=fun w=>by rw [hldc w,hc];rfl
                      (repeat' (first
  | (with_reducible first|refine zJx ?_|refine zGv ?_|refine zFz ?_|refine zEv ?_|refine zFy ?_|refine zJw ?_|refine zHz ?_|refine zCz ?_|refine zDw ?_|refine zCy ?_|refine zCv ?_|refine zEx ?_|refine zDz ?_|refine zCx ?_|refine zBx ?_|refine zEz ?_|refine zEy ?_|refine zAw ?_|refine zBy ?_)
  | refine zDy ?_|refine zEw rfl ?_|refine zIv ?_|refine zJy ?_
  | ((first|refine zGw rfl rfl rfl rfl rfl fun K_ hK_=>?_|refine zGx rfl rfl rfl rfl rfl fun K_ hK_=>?_);simp only [zAz,zDx,zGz,↓reduceIte,reduceCtorEq,Nat.reduceEqDiff,Bool.not_true,Bool.not_false];refine hK_ _ ?_;clear hK_ K_)
  | refine zDv (by decide) ?_
  | ((try first|refine zKx rfl rfl rfl ?_|refine zIw rfl rfl ?_|refine zKw rfl rfl rfl ?_|refine zJz rfl rfl ?_);(refine zIx fun Q_ hQ_=>?_;simp (disch:=first|omega|(simp only [List.length_cons,List.length_nil,List.length_append];omega)) only [bb,bp,zKv,↓reduceIte,reduceCtorEq,Nat.reduceEqDiff,Nat.reduceLT,Nat.reduceLeDiff,Nat.reduceAdd,Nat.reduceMul,Nat.reduceSub,Nat.reduceBEq,Int.reduceToNat,cond_true,cond_false,eq_self,beq_self_eq_true,hl,hlo,f1,f2,go1,go2,g0,g1,g5,g9,g10,g11,hixr,hldr,hcr,hor,hixc,hld2,zFw wf,zGy wf,zBv wf,zFx wf,zAy wf,zAx,tEvZ30,zIy,zIz,zHv,zHw,zAv wf];first|(refine zCw (Q:=Q_) (fun hp_=>?_) (fun hp_=>?_) <;> first|(exfalso;omega)|(refine hQ_ _ _ ?_;clear hQ_ Q_))|(refine zBw (Q:=Q_) (fun hp_=>?_) (fun hp_=>?_) <;> first|(exfalso;omega)|(refine hQ_ _ _ ?_;clear hQ_ Q_))|(refine hQ_ _ _ ?_;clear hQ_ Q_)))
  | (refine zHy fun K_ hK_=>?_;simp (disch:=omega) only [zFv,zAz,zHx,↓reduceIte,reduceCtorEq,Nat.reduceEqDiff,Nat.reduceLT];refine hK_ _ ?_;clear hK_ K_)))
                      refine zOx (α:=Nat) (fun (c:Nat) f d h'=>c≤L+1∧f 0=a∧f 1=ii (L:Int)∧f 5=vo∧f 9=ii (k:Int)∧f 10=ii (p:Int)∧f 11=ii (r:Int)∧f 12=ii (c:Int)∧d=[] ∧
                        ∃ M w,Ows h M io (rowVs h L m ps) vo∧RowsAt M L m ps (halfR (elimR rows k p r) k r c)∧h.clock≤w∧w≤h.clock+M.length∧h'=X h M w) (fun c=>L+1 - c) ?_ (L+2) 0 (by omega) ?_
                      · clear g0 g1 g5 g9 g10 g11
                        rintro c f d h' ⟨hcl,g0,g1,g5,g9,g10,g11,g12,rfl,M,w,ows,rat,hw,hwl,rfl⟩
                        by_cases hcL:c≤L
                        · obtain ⟨hixr,hldr⟩:=ows.row wf (r:=r) hrm
                          obtain ⟨hixk,hldk⟩:=ows.row wf (r:=k) hkm
                          obtain ⟨hix1,hld1⟩:=rat.bit wf (r:=r) (j:=c) hrm hcL
                          obtain ⟨hix2,hld2⟩:=rat.bit wf (r:=k) (j:=c) hkm hcL
                          have e1:halfR (elimR rows k p r) k r c r c=elimR rows k p r r c:=by unfold halfR;rw [if_neg (by omega)]
                          have e2:halfR (elimR rows k p r) k r c k c=elimR rows k p r k c:=by unfold halfR;rw [if_neg (by omega)]
                          rw [e1] at hld1
                          rw [e2] at hld2
                          obtain ⟨M2,rat2,hl2,hk2,hst⟩:=rat.store wf hrm hcL (elimR rows k p r r c ^^ elimR rows k p r k c)
                          have ows2:Ows h M2 io (rowVs h L m ps) vo:=ows.keep fun h0 o ho=>by
                            rw [hk2 io fun e=>((ows.type (rat.at_ r hrm)).resolve_left h0) e.symm];exact ho
                          have hadd:=add_bi (elimR rows k p r r c) (elimR rows k p r k c)
                          have n2:(2:Int)≠0:=by decide
                          have hle:(c:Int)≤(L:Int):=by omega
                          have hob:oneB (bi (elimR rows k p r r c ^^ elimR rows k p r k c))=true:=rfl
                          have hob2:AV.cells (bi (elimR rows k p r r c ^^ elimR rows k p r k c))=[bi (elimR rows k p r r c ^^ elimR rows k p r k c)]:=rfl
                          have hx0:(0:Int)≤(((elimR rows k p r r c).toNat:Nat):Int)∧(((elimR rows k p r r c).toNat:Nat):Int)≤1:=by cases elimR rows k p r r c <;> simp
                          have hy0:(0:Int)≤(((elimR rows k p r k c).toNat:Nat):Int)∧(((elimR rows k p r k c).toNat:Nat):Int)≤1:=by cases elimR rows k p r k c <;> simp
                          generalize hx1:(((elimR rows k p r r c).toNat:Nat):Int)=x1 at *
                          generalize hy1:(((elimR rows k p r k c).toNat:Nat):Int)=y1 at *
                          have hld1 : ∀ w,load1 (nx h (ps r)) c (X h M w)=some (ii x1):=fun w=>by rw [hld1 w,← hx1]
                          have hld2 : ∀ w,load1 (nx h (ps k)) c (X h M w)=some (ii y1):=fun w=>by rw [hld2 w,← hy1]
                          have hck:AV.cells (rowV h L ps k)=[rowV h L ps k]:=rfl
                          have hok:oneB (rowV h L ps k)=true:=rfl
                          (repeat' (first
  | (with_reducible first|refine zJx ?_|refine zGv ?_|refine zFz ?_|refine zEv ?_|refine zFy ?_|refine zJw ?_|refine zHz ?_|refine zCz ?_|refine zDw ?_|refine zCy ?_|refine zCv ?_|refine zEx ?_|refine zDz ?_|refine zCx ?_|refine zBx ?_|refine zEz ?_|refine zEy ?_|refine zAw ?_|refine zBy ?_)
  | refine zDy ?_|refine zEw rfl ?_|refine zIv ?_|refine zJy ?_
  | ((first|refine zGw rfl rfl rfl rfl rfl fun K_ hK_=>?_|refine zGx rfl rfl rfl rfl rfl fun K_ hK_=>?_);simp only [zAz,zDx,zGz,↓reduceIte,reduceCtorEq,Nat.reduceEqDiff,Bool.not_true,Bool.not_false];refine hK_ _ ?_;clear hK_ K_)
  | refine zDv (by decide) ?_
  | ((try first|refine zKx rfl rfl rfl ?_|refine zIw rfl rfl ?_|refine zKw rfl rfl rfl ?_|refine zJz rfl rfl ?_);(refine zIx fun Q_ hQ_=>?_;simp (disch:=first|omega|(simp only [List.length_cons,List.length_nil,List.length_append];omega)) only [bb,bp,zKv,↓reduceIte,reduceCtorEq,Nat.reduceEqDiff,Nat.reduceLT,Nat.reduceLeDiff,Nat.reduceAdd,Nat.reduceMul,Nat.reduceSub,Nat.reduceBEq,Int.reduceToNat,cond_true,cond_false,eq_self,beq_self_eq_true,hl,hlo,f1,f2,go1,go2,g0,g1,g5,g9,g10,g11,g12,zFw wf,zGy wf,zBv wf,zFx wf,zAy wf,zAx,tEvZ30,zIy,zIz,zHv,zHw,zAv wf];first|(refine zCw (Q:=Q_) (fun hp_=>?_) (fun hp_=>?_) <;> first|(exfalso;omega)|(refine hQ_ _ _ ?_;clear hQ_ Q_))|(refine zBw (Q:=Q_) (fun hp_=>?_) (fun hp_=>?_) <;> first|(exfalso;omega)|(refine hQ_ _ _ ?_;clear hQ_ Q_))|(refine hQ_ _ _ ?_;clear hQ_ Q_)))
  | (refine zHy fun K_ hK_=>?_;simp (disch:=omega) only [zFv,zAz,zHx,↓reduceIte,reduceCtorEq,Nat.reduceEqDiff,Nat.reduceLT];refine hK_ _ ?_;clear hK_ K_)))
                          refine zOw [.no,.no,.no,.no,.no,.no,.no,.no,.no,.no,.no,.no,.no,.no,.no,.no,.no,.no,.no,.no,.no,.full,.full] (by kernel_rfl) ?_
                          (repeat' (first
  | (with_reducible first|refine zJx ?_|refine zGv ?_|refine zFz ?_|refine zEv ?_|refine zFy ?_|refine zJw ?_|refine zHz ?_|refine zCz ?_|refine zDw ?_|refine zCy ?_|refine zCv ?_|refine zEx ?_|refine zDz ?_|refine zCx ?_|refine zBx ?_|refine zEz ?_|refine zEy ?_|refine zAw ?_|refine zBy ?_)
  | refine zDy ?_|refine zEw rfl ?_|refine zIv ?_|refine zJy ?_
  | ((first|refine zGw rfl rfl rfl rfl rfl fun K_ hK_=>?_|refine zGx rfl rfl rfl rfl rfl fun K_ hK_=>?_);simp only [zAz,zDx,zGz,↓reduceIte,reduceCtorEq,Nat.reduceEqDiff,Bool.not_true,Bool.not_false];refine hK_ _ ?_;clear hK_ K_)
  | refine zDv (by decide) ?_
  | ((try first|refine zKx rfl rfl rfl ?_|refine zIw rfl rfl ?_|refine zKw rfl rfl rfl ?_|refine zJz rfl rfl ?_);(refine zIx fun Q_ hQ_=>?_;simp (disch:=first|omega|(simp only [List.length_cons,List.length_nil,List.length_append];omega)) only [bb,bp,zKv,↓reduceIte,reduceCtorEq,Nat.reduceEqDiff,Nat.reduceLT,Nat.reduceLeDiff,Nat.reduceAdd,Nat.reduceMul,Nat.reduceSub,Nat.reduceBEq,Int.reduceToNat,cond_true,cond_false,eq_self,beq_self_eq_true,hl,hlo,f1,f2,go1,go2,g0,g1,g5,g9,g10,g11,g12,hixr,hldr,hixk,hldk,hcr,hor,hck,hok,hix1,hld1,hix2,hld2,xTv n2,hadd,hob,hob2,hst,zFw wf,zGy wf,tEvZ30,zIy,zIz,zHv,zHw,zAv wf];first|(refine zCw (Q:=Q_) (fun hp_=>?_) (fun hp_=>?_) <;> first|(exfalso;omega)|(refine hQ_ _ _ ?_;clear hQ_ Q_))|(refine zBw (Q:=Q_) (fun hp_=>?_) (fun hp_=>?_) <;> first|(exfalso;omega)|(refine hQ_ _ _ ?_;clear hQ_ Q_))|(refine hQ_ _ _ ?_;clear hQ_ Q_)))
  | (refine zHy fun K_ hK_=>?_;simp (disch:=omega) only [zFv,zAz,zHx,↓reduceIte,reduceCtorEq,Nat.reduceEqDiff,Nat.reduceLT];refine hK_ _ ?_;clear hK_ K_)))
                          exact zKz (c+1) (by omega) ⟨by omega,by simp only [zAz,↓reduceIte,reduceCtorEq,Nat.reduceEqDiff];exact g0,by simp only [zAz,↓reduceIte,reduceCtorEq,Nat.reduceEqDiff];exact g1,by simp only [zAz,↓reduceIte,reduceCtorEq,Nat.reduceEqDiff];exact g5,by simp only [zAz,↓reduceIte,reduceCtorEq,Nat.reduceEqDiff];exact g9,by simp only [zAz,↓reduceIte,reduceCtorEq,Nat.reduceEqDiff];exact g10,by simp only [zAz,↓reduceIte,reduceCtorEq,Nat.reduceEqDiff];exact g11,by simp only [zAz,↓reduceIte,reduceCtorEq,Nat.reduceEqDiff];rfl,rfl,M2,_,ows2,rat2.congr fun q hq j hj=>halfR_succ _ _ _ _ q j,by omega,by omega,rfl⟩
                        · have hce:c=L+1:=by omega
                          have hnle : ¬ (c:Int)≤(L:Int):=by omega
                          (repeat' (first
  | (with_reducible first|refine zJx ?_|refine zGv ?_|refine zFz ?_|refine zEv ?_|refine zFy ?_|refine zJw ?_|refine zHz ?_|refine zCz ?_|refine zDw ?_|refine zCy ?_|refine zCv ?_|refine zEx ?_|refine zDz ?_|refine zCx ?_|refine zBx ?_|refine zEz ?_|refine zEy ?_|refine zAw ?_|refine zBy ?_)
  | refine zDy ?_|refine zEw rfl ?_|refine zIv ?_|refine zJy ?_
  | ((first|refine zGw rfl rfl rfl rfl rfl fun K_ hK_=>?_|refine zGx rfl rfl rfl rfl rfl fun K_ hK_=>?_);simp only [zAz,zDx,zGz,↓reduceIte,reduceCtorEq,Nat.reduceEqDiff,Bool.not_true,Bool.not_false];refine hK_ _ ?_;clear hK_ K_)
  | refine zDv (by decide) ?_
  | ((try first|refine zKx rfl rfl rfl ?_|refine zIw rfl rfl ?_|refine zKw rfl rfl rfl ?_|refine zJz rfl rfl ?_);(refine zIx fun Q_ hQ_=>?_;simp (disch:=first|omega|(simp only [List.length_cons,List.length_nil,List.length_append];omega)) only [bb,bp,zKv,↓reduceIte,reduceCtorEq,Nat.reduceEqDiff,Nat.reduceLT,Nat.reduceLeDiff,Nat.reduceAdd,Nat.reduceMul,Nat.reduceSub,Nat.reduceBEq,Int.reduceToNat,cond_true,cond_false,eq_self,beq_self_eq_true,hl,hlo,f1,f2,go1,go2,g0,g1,g5,g9,g10,g11,g12,zFw wf,zGy wf,zBv wf,zFx wf,zAy wf,zAx,tEvZ30,zIy,zIz,zHv,zHw,zAv wf];first|(refine zCw (Q:=Q_) (fun hp_=>?_) (fun hp_=>?_) <;> first|(exfalso;omega)|(refine hQ_ _ _ ?_;clear hQ_ Q_))|(refine zBw (Q:=Q_) (fun hp_=>?_) (fun hp_=>?_) <;> first|(exfalso;omega)|(refine hQ_ _ _ ?_;clear hQ_ Q_))|(refine hQ_ _ _ ?_;clear hQ_ Q_)))
  | (refine zHy fun K_ hK_=>?_;simp (disch:=omega) only [zFv,zAz,zHx,↓reduceIte,reduceCtorEq,Nat.reduceEqDiff,Nat.reduceLT];refine hK_ _ ?_;clear hK_ K_)))
                          exact zKz (r+1) (by omega) ⟨by omega,hrm,by simp only [zAz,↓reduceIte,reduceCtorEq,Nat.reduceEqDiff];exact g0,by simp only [zAz,↓reduceIte,reduceCtorEq,Nat.reduceEqDiff];exact g1,by simp only [zAz,↓reduceIte,reduceCtorEq,Nat.reduceEqDiff];exact g5,by simp only [zAz,↓reduceIte,reduceCtorEq,Nat.reduceEqDiff];exact g9,by simp only [zAz,↓reduceIte,reduceCtorEq,Nat.reduceEqDiff];exact g10,by simp only [zAz,↓reduceIte,reduceCtorEq,Nat.reduceEqDiff];rfl,rfl,M,w,ows,rat.congr fun q hq j hj=>elimR_half hkr hc (by omega) q hj,hw,hwl,rfl⟩
                      · exact ⟨Nat.zero_le _,by simp only [zAz,↓reduceIte,reduceCtorEq,Nat.reduceEqDiff];exact g0,by simp only [zAz,↓reduceIte,reduceCtorEq,Nat.reduceEqDiff];exact g1,by simp only [zAz,↓reduceIte,reduceCtorEq,Nat.reduceEqDiff];exact g5,by simp only [zAz,↓reduceIte,reduceCtorEq,Nat.reduceEqDiff];exact g9,by simp only [zAz,↓reduceIte,reduceCtorEq,Nat.reduceEqDiff];exact g10,by simp only [zAz,↓reduceIte,reduceCtorEq,Nat.reduceEqDiff];exact g11,by simp only [zAz,↓reduceIte,reduceCtorEq,Nat.reduceEqDiff];rfl,rfl,M,w,ows,rat.congr fun q hq j hj=>by unfold halfR;rw [if_neg (by omega)],hw,hwl,rfl⟩
                  · have hre:r=m:=by omega
                    subst hre
                    (repeat' (first
  | (with_reducible first|refine zJx ?_|refine zGv ?_|refine zFz ?_|refine zEv ?_|refine zFy ?_|refine zJw ?_|refine zHz ?_|refine zCz ?_|refine zDw ?_|refine zCy ?_|refine zCv ?_|refine zEx ?_|refine zDz ?_|refine zCx ?_|refine zBx ?_|refine zEz ?_|refine zEy ?_|refine zAw ?_|refine zBy ?_)
  | refine zDy ?_|refine zEw rfl ?_|refine zIv ?_|refine zJy ?_
  | ((first|refine zGw rfl rfl rfl rfl rfl fun K_ hK_=>?_|refine zGx rfl rfl rfl rfl rfl fun K_ hK_=>?_);simp only [zAz,zDx,zGz,↓reduceIte,reduceCtorEq,Nat.reduceEqDiff,Bool.not_true,Bool.not_false];refine hK_ _ ?_;clear hK_ K_)
  | refine zDv (by decide) ?_
  | ((try first|refine zKx rfl rfl rfl ?_|refine zIw rfl rfl ?_|refine zKw rfl rfl rfl ?_|refine zJz rfl rfl ?_);(refine zIx fun Q_ hQ_=>?_;simp (disch:=first|omega|(simp only [List.length_cons,List.length_nil,List.length_append];omega)) only [bb,bp,zKv,↓reduceIte,reduceCtorEq,Nat.reduceEqDiff,Nat.reduceLT,Nat.reduceLeDiff,Nat.reduceAdd,Nat.reduceMul,Nat.reduceSub,Nat.reduceBEq,Int.reduceToNat,cond_true,cond_false,eq_self,beq_self_eq_true,hl,hlo,f1,f2,go1,go2,g0,g1,g5,g9,g10,g11,zFw wf,zGy wf,zBv wf,zFx wf,zAy wf,zAx,tEvZ30,zIy,zIz,zHv,zHw,zAv wf];first|(refine zCw (Q:=Q_) (fun hp_=>?_) (fun hp_=>?_) <;> first|(exfalso;omega)|(refine hQ_ _ _ ?_;clear hQ_ Q_))|(refine zBw (Q:=Q_) (fun hp_=>?_) (fun hp_=>?_) <;> first|(exfalso;omega)|(refine hQ_ _ _ ?_;clear hQ_ Q_))|(refine hQ_ _ _ ?_;clear hQ_ Q_)))
  | (refine zHy fun K_ hK_=>?_;simp (disch:=omega) only [zFv,zAz,zHx,↓reduceIte,reduceCtorEq,Nat.reduceEqDiff,Nat.reduceLT];refine hK_ _ ?_;clear hK_ K_)))
                    exact zKz (k+1) (by omega) ⟨hkm,by simp only [zAz,↓reduceIte,reduceCtorEq,Nat.reduceEqDiff];exact g0,by simp only [zAz,↓reduceIte,reduceCtorEq,Nat.reduceEqDiff];exact g1,by simp only [zAz,↓reduceIte,reduceCtorEq,Nat.reduceEqDiff];exact g5,by simp only [zAz,↓reduceIte,reduceCtorEq,Nat.reduceEqDiff];rfl,rfl,M,elimR rows k p r,w,ows,rat,hso.trans (sol_elim hkm hpL hb fun q h1 h2 j hj=>by
                      unfold elimR
                      by_cases e:rows q p=true
                      · rw [if_pos ⟨h1,h2,e⟩,if_pos e]
                      · rw [if_neg fun x=>e x.2.2,if_neg e]),hw,hwl,rfl⟩
                · exact ⟨by omega,by omega,by simp only [zAz,↓reduceIte,reduceCtorEq,Nat.reduceEqDiff];exact g0,by simp only [zAz,↓reduceIte,reduceCtorEq,Nat.reduceEqDiff];exact g1,by simp only [zAz,↓reduceIte,reduceCtorEq,Nat.reduceEqDiff];exact g5,by simp only [zAz,↓reduceIte,reduceCtorEq,Nat.reduceEqDiff];exact g9,by simp only [zAz,↓reduceIte,reduceCtorEq,Nat.reduceEqDiff];exact g10,by simp only [zAz,↓reduceIte,reduceCtorEq,Nat.reduceEqDiff];rfl,rfl,M,w,ows,rat.congr fun q hq j hj=>by unfold elimR;rw [if_neg (by omega)],hw,hwl,rfl⟩
            · have hpe:p=L:=by omega
              cases hb:rows k p
              · have hld0 : ∀ w,load1 (nx h (ps k)) p (X h M w)=some (ii 0):=fun w=>by rw [hldb w,hb];rfl
                subst hpe
                (repeat' (first
  | (with_reducible first|refine zJx ?_|refine zGv ?_|refine zFz ?_|refine zEv ?_|refine zFy ?_|refine zJw ?_|refine zHz ?_|refine zCz ?_|refine zDw ?_|refine zCy ?_|refine zCv ?_|refine zEx ?_|refine zDz ?_|refine zCx ?_|refine zBx ?_|refine zEz ?_|refine zEy ?_|refine zAw ?_|refine zBy ?_)
  | refine zDy ?_|refine zEw rfl ?_|refine zIv ?_|refine zJy ?_
  | ((first|refine zGw rfl rfl rfl rfl rfl fun K_ hK_=>?_|refine zGx rfl rfl rfl rfl rfl fun K_ hK_=>?_);simp only [zAz,zDx,zGz,↓reduceIte,reduceCtorEq,Nat.reduceEqDiff,Bool.not_true,Bool.not_false];refine hK_ _ ?_;clear hK_ K_)
  | refine zDv (by decide) ?_
  | ((try first|refine zKx rfl rfl rfl ?_|refine zIw rfl rfl ?_|refine zKw rfl rfl rfl ?_|refine zJz rfl rfl ?_);(refine zIx fun Q_ hQ_=>?_;simp (disch:=first|omega|(simp only [List.length_cons,List.length_nil,List.length_append];omega)) only [bb,bp,zKv,↓reduceIte,reduceCtorEq,Nat.reduceEqDiff,Nat.reduceLT,Nat.reduceLeDiff,Nat.reduceAdd,Nat.reduceMul,Nat.reduceSub,Nat.reduceBEq,Int.reduceToNat,cond_true,cond_false,eq_self,beq_self_eq_true,hl,hlo,f1,f2,go1,go2,g0,g1,g5,g9,g10,hixk,hldk,hck,hok,hixb,hld0,zFw wf,zGy wf,zBv wf,zFx wf,zAy wf,zAx,tEvZ30,zIy,zIz,zHv,zHw,zAv wf];first|(refine zCw (Q:=Q_) (fun hp_=>?_) (fun hp_=>?_) <;> first|(exfalso;omega)|(refine hQ_ _ _ ?_;clear hQ_ Q_))|(refine zBw (Q:=Q_) (fun hp_=>?_) (fun hp_=>?_) <;> first|(exfalso;omega)|(refine hQ_ _ _ ?_;clear hQ_ Q_))|(refine hQ_ _ _ ?_;clear hQ_ Q_)))
  | (refine zHy fun K_ hK_=>?_;simp (disch:=omega) only [zFv,zAz,zHx,↓reduceIte,reduceCtorEq,Nat.reduceEqDiff,Nat.reduceLT];refine hK_ _ ?_;clear hK_ K_)))
                exact zKz (k+1) (by omega) ⟨hkm,by simp only [zAz,↓reduceIte,reduceCtorEq,Nat.reduceEqDiff];exact g0,by simp only [zAz,↓reduceIte,reduceCtorEq,Nat.reduceEqDiff];exact g1,by simp only [zAz,↓reduceIte,reduceCtorEq,Nat.reduceEqDiff];exact g5,by simp only [zAz,↓reduceIte,reduceCtorEq,Nat.reduceEqDiff];rfl,rfl,M,rows,w,ows,rat,hso.trans ⟨fun x=>((sol_none hkm hz).1 x).2,fun x=>(sol_none hkm hz).2 ⟨hb,x⟩⟩,hw,hwl,rfl⟩
              · have hld1 : ∀ w,load1 (nx h (ps k)) p (X h M w)=some (ii 1):=fun w=>by rw [hldb w,hb];rfl
                subst hpe
                (repeat' (first
  | (with_reducible first|refine zJx ?_|refine zGv ?_|refine zFz ?_|refine zEv ?_|refine zFy ?_|refine zJw ?_|refine zHz ?_|refine zCz ?_|refine zDw ?_|refine zCy ?_|refine zCv ?_|refine zEx ?_|refine zDz ?_|refine zCx ?_|refine zBx ?_|refine zEz ?_|refine zEy ?_|refine zAw ?_|refine zBy ?_)
  | refine zDy ?_|refine zEw rfl ?_|refine zIv ?_|refine zJy ?_
  | ((first|refine zGw rfl rfl rfl rfl rfl fun K_ hK_=>?_|refine zGx rfl rfl rfl rfl rfl fun K_ hK_=>?_);simp only [zAz,zDx,zGz,↓reduceIte,reduceCtorEq,Nat.reduceEqDiff,Bool.not_true,Bool.not_false];refine hK_ _ ?_;clear hK_ K_)
  | refine zDv (by decide) ?_
  | ((try first|refine zKx rfl rfl rfl ?_|refine zIw rfl rfl ?_|refine zKw rfl rfl rfl ?_|refine zJz rfl rfl ?_);(refine zIx fun Q_ hQ_=>?_;simp (disch:=first|omega|(simp only [List.length_cons,List.length_nil,List.length_append];omega)) only [bb,bp,zKv,↓reduceIte,reduceCtorEq,Nat.reduceEqDiff,Nat.reduceLT,Nat.reduceLeDiff,Nat.reduceAdd,Nat.reduceMul,Nat.reduceSub,Nat.reduceBEq,Int.reduceToNat,cond_true,cond_false,eq_self,beq_self_eq_true,hl,hlo,f1,f2,go1,go2,g0,g1,g5,g9,g10,hixk,hldk,hck,hok,hixb,hld1,zFw wf,zGy wf,zBv wf,zFx wf,zAy wf,zAx,tEvZ30,zIy,zIz,zHv,zHw,zAv wf];first|(refine zCw (Q:=Q_) (fun hp_=>?_) (fun hp_=>?_) <;> first|(exfalso;omega)|(refine hQ_ _ _ ?_;clear hQ_ Q_))|(refine zBw (Q:=Q_) (fun hp_=>?_) (fun hp_=>?_) <;> first|(exfalso;omega)|(refine hQ_ _ _ ?_;clear hQ_ Q_))|(refine hQ_ _ _ ?_;clear hQ_ Q_)))
  | (refine zHy fun K_ hK_=>?_;simp (disch:=omega) only [zFv,zAz,zHx,↓reduceIte,reduceCtorEq,Nat.reduceEqDiff,Nat.reduceLT];refine hK_ _ ?_;clear hK_ K_)))
                (refine zKy _ _ rfl (ret1 (by decide)) ?_;simp only [zAz,↓reduceIte,reduceCtorEq,Nat.reduceEqDiff];refine zLz rfl (by omega) ?_)
                refine ⟨false,⟨fun x=>Bool.noConfusion x,fun x=>?_⟩,rfl,rfl⟩
                have:=((sol_none hkm hz).1 (hso.1 (hsol.2 x))).1
                rw [hb] at this
                exact Bool.noConfusion this
          · exact ⟨Nat.zero_le _,fun j hj=>absurd hj (Nat.not_lt_zero j),by simp only [zAz,↓reduceIte,reduceCtorEq,Nat.reduceEqDiff];exact g0,by simp only [zAz,↓reduceIte,reduceCtorEq,Nat.reduceEqDiff];exact g1,by simp only [zAz,↓reduceIte,reduceCtorEq,Nat.reduceEqDiff];exact g5,by simp only [zAz,↓reduceIte,reduceCtorEq,Nat.reduceEqDiff];exact g9,by simp only [zAz,↓reduceIte,reduceCtorEq,Nat.reduceEqDiff];rfl,rfl,rfl⟩
        · have hke:k=m:=by omega
          subst hke
          (repeat' (first
  | (with_reducible first|refine zJx ?_|refine zGv ?_|refine zFz ?_|refine zEv ?_|refine zFy ?_|refine zJw ?_|refine zHz ?_|refine zCz ?_|refine zDw ?_|refine zCy ?_|refine zCv ?_|refine zEx ?_|refine zDz ?_|refine zCx ?_|refine zBx ?_|refine zEz ?_|refine zEy ?_|refine zAw ?_|refine zBy ?_)
  | refine zDy ?_|refine zEw rfl ?_|refine zIv ?_|refine zJy ?_
  | ((first|refine zGw rfl rfl rfl rfl rfl fun K_ hK_=>?_|refine zGx rfl rfl rfl rfl rfl fun K_ hK_=>?_);simp only [zAz,zDx,zGz,↓reduceIte,reduceCtorEq,Nat.reduceEqDiff,Bool.not_true,Bool.not_false];refine hK_ _ ?_;clear hK_ K_)
  | refine zDv (by decide) ?_
  | ((try first|refine zKx rfl rfl rfl ?_|refine zIw rfl rfl ?_|refine zKw rfl rfl rfl ?_|refine zJz rfl rfl ?_);(refine zIx fun Q_ hQ_=>?_;simp (disch:=first|omega|(simp only [List.length_cons,List.length_nil,List.length_append];omega)) only [bb,bp,zKv,↓reduceIte,reduceCtorEq,Nat.reduceEqDiff,Nat.reduceLT,Nat.reduceLeDiff,Nat.reduceAdd,Nat.reduceMul,Nat.reduceSub,Nat.reduceBEq,Int.reduceToNat,cond_true,cond_false,eq_self,beq_self_eq_true,hl,hlo,f1,f2,go1,go2,g0,g1,g5,g9,zFw wf,zGy wf,zBv wf,zFx wf,zAy wf,zAx,tEvZ30,zIy,zIz,zHv,zHw,zAv wf];first|(refine zCw (Q:=Q_) (fun hp_=>?_) (fun hp_=>?_) <;> first|(exfalso;omega)|(refine hQ_ _ _ ?_;clear hQ_ Q_))|(refine zBw (Q:=Q_) (fun hp_=>?_) (fun hp_=>?_) <;> first|(exfalso;omega)|(refine hQ_ _ _ ?_;clear hQ_ Q_))|(refine hQ_ _ _ ?_;clear hQ_ Q_)))
  | (refine zHy fun K_ hK_=>?_;simp (disch:=omega) only [zFv,zAz,zHx,↓reduceIte,reduceCtorEq,Nat.reduceEqDiff,Nat.reduceLT];refine hK_ _ ?_;clear hK_ K_)))
          (refine zKy _ _ rfl (ret1 (by decide)) ?_;simp only [zAz,↓reduceIte,reduceCtorEq,Nat.reduceEqDiff];refine zLz rfl (by omega) ?_)
          exact ⟨true,⟨fun _=>hsol.1 (hso.2 ⟨fun _=>false,fun r h1 h2=>by omega⟩),fun _=>rfl⟩,rfl,rfl⟩
      · exact ⟨Nat.zero_le _,by simp only [zAz,↓reduceIte,reduceCtorEq,Nat.reduceEqDiff];exact g0,by simp only [zAz,↓reduceIte,reduceCtorEq,Nat.reduceEqDiff];exact g1,by simp only [zAz,↓reduceIte,reduceCtorEq,Nat.reduceEqDiff];exact g5,by simp only [zAz,↓reduceIte,reduceCtorEq,Nat.reduceEqDiff];rfl,rfl,M,eqs L s,w,ows,rat,Iff.rfl,hw,hwl,rfl⟩
  · exact ⟨Nat.le_refl _,hL,by simp only [zAz,↓reduceIte,reduceCtorEq,Nat.reduceEqDiff],by simp only [zAz,↓reduceIte,reduceCtorEq,Nat.reduceEqDiff],by simp only [zAz,↓reduceIte,reduceCtorEq,Nat.reduceEqDiff];try rfl,rfl,[],.nils,0,fun _=>0,h.clock,by simp only [zAz,↓reduceIte,reduceCtorEq,Nat.reduceEqDiff],.inl ⟨by rw [Nat.sub_self];rfl,rfl⟩,⟨fun r hr=>by omega,fun r r' hr=>by omega⟩,Nat.le_refl _,Nat.le_refl _,rfl⟩
end Go.Proofs.Ytmincoafjnnkpaa
end

section
namespace Go.Proofs.Ytmincoafjnnkpaa
open Go.Ev
set_option maxRecDepth 100000
set_option linter.unusedSimpArgs false
set_option linter.unusedVariables false
set_option maxHeartbeats 2000000
theorem tEvZ20 :type_of% (And.intro (And.intro (And.intro (And.intro (And.intro (And.intro (And.intro (@yQv) (@yQw)) (And.intro (@yQx) (@yQy))) (And.intro (And.intro (@yQz) (@yPv)) (And.intro (@ia_2) (And.intro (@ia_3) (@ia_4))))) (And.intro (And.intro (And.intro (@ia_5) (@yPw)) (And.intro (@yPx) (@yPy))) (And.intro (And.intro (@yPz) (@yOv)) (And.intro (@yOw) (And.intro (@zSy) (@yOx)))))) (And.intro (And.intro (And.intro (And.intro (@yOy) (@yOz)) (And.intro (@yNv) (@yNw))) (And.intro (And.intro (@yNx) (@yNy)) (And.intro (@yNz) (And.intro (@yMv) (@sz_2))))) (And.intro (And.intro (And.intro (@sz_3) (@sz_4)) (And.intro (@sz_5) (And.intro (@zRy) (@zZy)))) (And.intro (And.intro (@zZz) (@zYv)) (And.intro (@zYw) (And.intro (@zYx) (@zRw))))))) (And.intro (And.intro (And.intro (And.intro (And.intro (@zYy) (@zYz)) (And.intro (@zXv) (@zQx))) (And.intro (And.intro (@zXw) (@zXx)) (And.intro (@zXy) (And.intro (@zXz) (@zWv))))) (And.intro (And.intro (And.intro (@ze_2) (@ze_3)) (And.intro (@ze_4) (And.intro (@ze_5) (@zWw)))) (And.intro (And.intro (@zWx) (@zWy)) (And.intro (@zWz) (And.intro (@zVv) (@zVw)))))) (And.intro (And.intro (And.intro (And.intro (@zVx) (@zVy)) (And.intro (@zVz) (@zUv))) (And.intro (And.intro (@zUw) (@zUx)) (And.intro (@zUy) (And.intro (@zUz) (@zTv))))) (And.intro (And.intro (And.intro (@zNw) (@zNx)) (And.intro (@zNy) (And.intro (@zNz) (@zMv)))) (And.intro (And.intro (@zMw) (@zMx)) (And.intro (@zMy) (And.intro (@zMz) (@yMw)))))))) (And.intro (And.intro (And.intro (And.intro (And.intro (And.intro (@yMx) (@yMy)) (And.intro (@yMz) (@yLv))) (And.intro (And.intro (@yLw) (@yLx)) (And.intro (@yLy) (And.intro (@yLz) (@yKv))))) (And.intro (And.intro (And.intro (@yKw) (@yKx)) (And.intro (@yKy) (@yKz))) (And.intro (And.intro (@yJv) (@yJw)) (And.intro (@yJx) (And.intro (@yJy) (@yJz)))))) (And.intro (And.intro (And.intro (And.intro (@yIv) (@yIw)) (And.intro (@yIx) (@yIy))) (And.intro (And.intro (@yIz) (@yHv)) (And.intro (@yHw) (And.intro (@yHx) (@yHy))))) (And.intro (And.intro (And.intro (@yHz) (@yGv)) (And.intro (@yGw) (And.intro (@yGx) (@yGy)))) (And.intro (And.intro (@yGz) (@yFv)) (And.intro (@yFw) (And.intro (@yFx) (@yFy))))))) (And.intro (And.intro (And.intro (And.intro (And.intro (@yFz) (@yEv)) (And.intro (@yEw) (@yEx))) (And.intro (And.intro (@yEy) (@yEz)) (And.intro (@yDv) (And.intro (@yDw) (@yDx))))) (And.intro (And.intro (And.intro (@yDy) (@yDz)) (And.intro (@yCv) (And.intro (@yCw) (@yCx)))) (And.intro (And.intro (@zSv) (@yCy)) (And.intro (@yCz) (And.intro (@yBv) (@yBw)))))) (And.intro (And.intro (And.intro (And.intro (@yBx) (@yBy)) (And.intro (@yBz) (@yAv))) (And.intro (And.intro (@yAw) (@yAx)) (And.intro (@yAy) (And.intro (@yAz) (@zZv))))) (And.intro (And.intro (And.intro (@zZw) (@zZx)) (And.intro (@zPw) (And.intro (@zTw) (@zTx)))) (And.intro (And.intro (@zRz) (@zTy)) (And.intro (@zQv) (And.intro (@zTz) (@zSz))))))))):=And.intro (And.intro (And.intro (And.intro (And.intro (And.intro (And.intro (@yQv) (@yQw)) (And.intro (@yQx) (@yQy))) (And.intro (And.intro (@yQz) (@yPv)) (And.intro (@ia_2) (And.intro (@ia_3) (@ia_4))))) (And.intro (And.intro (And.intro (@ia_5) (@yPw)) (And.intro (@yPx) (@yPy))) (And.intro (And.intro (@yPz) (@yOv)) (And.intro (@yOw) (And.intro (@zSy) (@yOx)))))) (And.intro (And.intro (And.intro (And.intro (@yOy) (@yOz)) (And.intro (@yNv) (@yNw))) (And.intro (And.intro (@yNx) (@yNy)) (And.intro (@yNz) (And.intro (@yMv) (@sz_2))))) (And.intro (And.intro (And.intro (@sz_3) (@sz_4)) (And.intro (@sz_5) (And.intro (@zRy) (@zZy)))) (And.intro (And.intro (@zZz) (@zYv)) (And.intro (@zYw) (And.intro (@zYx) (@zRw))))))) (And.intro (And.intro (And.intro (And.intro (And.intro (@zYy) (@zYz)) (And.intro (@zXv) (@zQx))) (And.intro (And.intro (@zXw) (@zXx)) (And.intro (@zXy) (And.intro (@zXz) (@zWv))))) (And.intro (And.intro (And.intro (@ze_2) (@ze_3)) (And.intro (@ze_4) (And.intro (@ze_5) (@zWw)))) (And.intro (And.intro (@zWx) (@zWy)) (And.intro (@zWz) (And.intro (@zVv) (@zVw)))))) (And.intro (And.intro (And.intro (And.intro (@zVx) (@zVy)) (And.intro (@zVz) (@zUv))) (And.intro (And.intro (@zUw) (@zUx)) (And.intro (@zUy) (And.intro (@zUz) (@zTv))))) (And.intro (And.intro (And.intro (@zNw) (@zNx)) (And.intro (@zNy) (And.intro (@zNz) (@zMv)))) (And.intro (And.intro (@zMw) (@zMx)) (And.intro (@zMy) (And.intro (@zMz) (@yMw)))))))) (And.intro (And.intro (And.intro (And.intro (And.intro (And.intro (@yMx) (@yMy)) (And.intro (@yMz) (@yLv))) (And.intro (And.intro (@yLw) (@yLx)) (And.intro (@yLy) (And.intro (@yLz) (@yKv))))) (And.intro (And.intro (And.intro (@yKw) (@yKx)) (And.intro (@yKy) (@yKz))) (And.intro (And.intro (@yJv) (@yJw)) (And.intro (@yJx) (And.intro (@yJy) (@yJz)))))) (And.intro (And.intro (And.intro (And.intro (@yIv) (@yIw)) (And.intro (@yIx) (@yIy))) (And.intro (And.intro (@yIz) (@yHv)) (And.intro (@yHw) (And.intro (@yHx) (@yHy))))) (And.intro (And.intro (And.intro (@yHz) (@yGv)) (And.intro (@yGw) (And.intro (@yGx) (@yGy)))) (And.intro (And.intro (@yGz) (@yFv)) (And.intro (@yFw) (And.intro (@yFx) (@yFy))))))) (And.intro (And.intro (And.intro (And.intro (And.intro (@yFz) (@yEv)) (And.intro (@yEw) (@yEx))) (And.intro (And.intro (@yEy) (@yEz)) (And.intro (@yDv) (And.intro (@yDw) (@yDx))))) (And.intro (And.intro (And.intro (@yDy) (@yDz)) (And.intro (@yCv) (And.intro (@yCw) (@yCx)))) (And.intro (And.intro (@zSv) (@yCy)) (And.intro (@yCz) (And.intro (@yBv) (@yBw)))))) (And.intro (And.intro (And.intro (And.intro (@yBx) (@yBy)) (And.intro (@yBz) (@yAv))) (And.intro (And.intro (@yAw) (@yAx)) (And.intro (@yAy) (And.intro (@yAz) (@zZv))))) (And.intro (And.intro (And.intro (@zZw) (@zZx)) (And.intro (@zPw) (And.intro (@zTw) (@zTx)))) (And.intro (And.intro (@zRz) (@zTy)) (And.intro (@zQv) (And.intro (@zTz) (@zSz))))))))
def profOf (l:List Att):List Nat:=l.foldl (fun P a=>P++List.replicate ((a.at_+1).toNat - P.length) a.L) []
theorem xFz (l:List Att) (a:Att):profOf (l++[a])=profOf l++List.replicate ((a.at_+1).toNat - (profOf l).length) a.L:=by unfold profOf;rw [List.foldl_append];rfl
theorem chain_prof {s:Nat→Bool} {l:List Att} {T L p:Nat} {prof:List Nat} (h:Chain s l T L p prof):profOf l=prof:=by
  induction h with
  | nil=>rfl
  | @snoc l T L p q prof hc hpq w hq ih=>
    rw [xFz,ih,hc.facts.len]
    congr 2
theorem chain_max {s:Nat→Bool} {l:List Att} {T L p q:Nat} {prof:List Nat} (h:Chain s l T L p prof) (hpq:p≤q) (w:Wrong T L s q):max L ((bestA l).L+((q:Int) - (bestA l).at_).toNat)=max L (q+1 - L):=by
  obtain ⟨ne,lt,le,p_le,cx,makes,best,by_,len,prof_,mono⟩:=h.facts
  have hbB:(bestA l).bound=(bestA l).at_+1 - ((bestA l).L:Int):=rfl
  have hlq:=w.le
  have:(bestA l).at_<(q:Int):=by
    rcases by_ with h|⟨_,q',h,h2,_⟩
    · rw [h];show (-1:Int)<_;omega
    · omega
  omega
def Jumps (P:List Nat):Prop:=∀ (k u v:Nat),P[k]? = some u→P[k+1]? = some v→v=u∨v+u=k+1
theorem chain_jumps {s:Nat→Bool} {l:List Att} {T L p:Nat} {prof:List Nat} (h:Chain s l T L p prof):Jumps prof ∧ ∀ u,0<p→prof[p - 1]? = some u→L=u∨L+u=p:=by
  induction h with
  | nil=>exact ⟨fun k u v h=>by simp at h,fun u h=>by omega⟩
  | @snoc l T L p q prof hc hpq w hq ih=>
    have hmx:=chain_max hc hpq w
    have hlen:=hc.facts.len
    obtain ⟨j1,j2⟩:=ih
    have hget : ∀ k,p≤k → ∀ v,(prof++List.replicate (q+1 - p) L)[k]? = some v→v=L:=fun k hk v hv=>by
      rw [List.getElem?_append_right (by omega),List.getElem?_replicate] at hv
      split at hv
      · cases hv;rfl
      · cases hv
    have hlow : ∀ k,k<p→(prof++List.replicate (q+1 - p) L)[k]? = prof[k]?:=fun k hk=>List.getElem?_append_left (by omega)
    refine ⟨fun k u v hu hv=>?_,fun u _ hu=>?_⟩
    · by_cases h1:k+1<p
      · rw [hlow _ (by omega)] at hu
        rw [hlow _ h1] at hv
        exact j1 k u v hu hv
      · have hv2:=hget (k+1) (by omega) v hv
        by_cases h2:k<p
        · rw [hlow _ h2] at hu
          have h3:k=p - 1:=by omega
          rw [h3] at hu
          rcases j2 u (by omega) hu with h|h
          · exact .inl (by omega)
          · exact .inr (by omega)
        · have hu2:=hget k (by omega) u hu
          exact .inl (by omega)
    · have:=hget (q+1 - 1) (by omega) u hu
      have hlq:=w.le
      rw [hmx]
      omega
structure ProfOK (s:Nat→Bool) (n:Nat) (F:List Nat):Prop where
  len:F.length=n+1
  cx : ∀ k,k≤n → ∃ Lk:Nat,F[k]? = some Lk∧Cpx s k Lk
  jumps:Jumps F
  le : ∀ (k u:Nat),F[k]? = some u→u≤n
theorem prof_ok {s:Nat→Bool} {l:List Att} {T L p n:Nat} {prof:List Nat} (h:Chain s l T L p prof) (hp:p≤n) (hm:Makes T L s n):profOf (l++[⟨T,L,(n:Int)⟩])=prof++List.replicate (n+1 - p) L∧ProfOK s n (prof++List.replicate (n+1 - p) L):=by
  have hf:=h.facts
  have hlen:=hf.len
  obtain ⟨j1,j2⟩:=chain_jumps h
  have hLn:L≤n:=by have:=hf.le;omega
  have hget : ∀ k,p≤k → ∀ v,(prof++List.replicate (n+1 - p) L)[k]? = some v→v=L:=fun k hk v hv=>by
    rw [List.getElem?_append_right (by omega),List.getElem?_replicate] at hv
    split at hv
    · cases hv;rfl
    · cases hv
  have hlow : ∀ k,k<p→(prof++List.replicate (n+1 - p) L)[k]? = prof[k]?:=fun k hk=>List.getElem?_append_left (by omega)
  refine ⟨?_,by rw [List.length_append,List.length_replicate];omega,fun k hk=>?_,fun k u v hu hv=>?_,fun k u hu=>?_⟩
  · rw [xFz,chain_prof h,hlen]
    congr 2
  · by_cases h1:k<p
    · rw [hlow k h1];exact hf.prof_ k h1
    · exact ⟨L,by rw [List.getElem?_append_right (by omega),List.getElem?_replicate,if_pos (by omega)],⟨⟨T,hf.lt,hm.less hk⟩,fun T' L' h'=>hf.cx.least T' L' (h'.less (by omega))⟩⟩
  · by_cases h1:k+1<p
    · rw [hlow _ (by omega)] at hu
      rw [hlow _ h1] at hv
      exact j1 k u v hu hv
    · have hv2:=hget (k+1) (by omega) v hv
      by_cases h2:k<p
      · rw [hlow _ h2] at hu
        have h3:k=p - 1:=by omega
        rw [h3] at hu
        rcases j2 u (by omega) hu with h|h
        · exact .inl (by omega)
        · exact .inr (by omega)
      · have hu2:=hget k (by omega) u hu
        exact .inl (by omega)
  · by_cases h1:k<p
    · rw [hlow k h1] at hu
      have:=hf.mono k u hu
      omega
    · have:=hget k (by omega) u hu
      omega
theorem profErr (xs:List Int) (a:AV) (h:H) (wf:Wf h) (hs:Sl h a 1 xs.length (xs.map ii)) (hne:errB xs≠0):(om Try.prog KK).call (.fn 23 [a]) h = .ok (.tup [.nils,ii (errB xs)]) h:=by
  obtain ⟨f1,f2⟩:=zPx hs
  have c1 : ∀ (l:List AO) (w:Nat),w≤h.clock+l.length→(om Try.prog KK).call (.fn 18 [a]) (X h l w) = .ok (ii (errB xs)) (X h l w):=fun l w hw=>checkBits xs a _ (wf.X hw) (hs.up wf l w)
  generalize errB xs=e at *
  refine zSx (zLx (fn:=Try.f23) Try.func23 rfl rfl rfl rfl rfl ?_)
  simp only [zKv]
  (repeat' (first
  | (with_reducible first|refine zJx ?_|refine zGv ?_|refine zFz ?_|refine zEv ?_|refine zFy ?_|refine zJw ?_|refine zHz ?_|refine zCz ?_|refine zDw ?_|refine zCy ?_|refine zCv ?_|refine zEx ?_|refine zDz ?_|refine zCx ?_|refine zBx ?_|refine zEz ?_|refine zEy ?_|refine zAw ?_|refine zBy ?_)
  | refine zDy ?_|refine zEw rfl ?_|refine zIv ?_|refine zJy ?_
  | ((first|refine zGw rfl rfl rfl rfl rfl fun K_ hK_=>?_|refine zGx rfl rfl rfl rfl rfl fun K_ hK_=>?_);simp only [zAz,zDx,zGz,↓reduceIte,reduceCtorEq,Nat.reduceEqDiff,Bool.not_true,Bool.not_false];refine hK_ _ ?_;clear hK_ K_)
  | refine zDv (by decide) ?_
  | ((try first|refine zKx rfl rfl rfl ?_|refine zIw rfl rfl ?_|refine zKw rfl rfl rfl ?_|refine zJz rfl rfl ?_);(refine zIx fun Q_ hQ_=>?_;simp (disch:=first|omega|(simp only [List.length_cons,List.length_nil,List.length_append];omega)) only [bb,bp,zKv,↓reduceIte,reduceCtorEq,Nat.reduceEqDiff,Nat.reduceLT,Nat.reduceLeDiff,Nat.reduceAdd,Nat.reduceMul,Nat.reduceSub,Nat.reduceBEq,Int.reduceToNat,cond_true,cond_false,eq_self,beq_self_eq_true,f1,f2,zFw wf,zGy wf,zBv wf,zFx wf,zAy wf,zAx,tEvZ20,zIy,zIz,zHv,zHw,zAv wf];first|(refine zCw (Q:=Q_) (fun hp_=>?_) (fun hp_=>?_) <;> first|(exfalso;omega)|(refine hQ_ _ _ ?_;clear hQ_ Q_))|(refine zBw (Q:=Q_) (fun hp_=>?_) (fun hp_=>?_) <;> first|(exfalso;omega)|(refine hQ_ _ _ ?_;clear hQ_ Q_))|(refine hQ_ _ _ ?_;clear hQ_ Q_)|(refine zPz (c1 _ _ (by first|omega|(simp only [List.length_append,List.length_cons,List.length_nil];omega))) ?_;refine hQ_ _ _ ?_;clear hQ_ Q_)))
  | (refine zHy fun K_ hK_=>?_;simp (disch:=omega) only [zFv,zAz,zHx,↓reduceIte,reduceCtorEq,Nat.reduceEqDiff,Nat.reduceLT];refine hK_ _ ?_;clear hK_ K_)))
  all_goals (refine zKy _ _ rfl (ret2 (by decide) (by decide)) ?_;simp only [zAz,↓reduceIte,reduceCtorEq,Nat.reduceEqDiff];refine zLz rfl (by omega) ?_)
  all_goals exact ⟨rfl,rfl⟩
theorem AttsAt.get {h:H} (wf:Wf h) {M:List AO} {idx:Nat} {l:List Att} {v:AV} (x:AttsAt h M idx l v) {i:Nat} (hi:i<l.length):indexAddrE Try.prog 63 v (.int .i64 (i:Int))=some (.ptr (nx h idx) (i * 4)) ∧ ∀ J w,loadAgg (nx h idx) (i * 4) (some 4) (X h (M++J) w)=some (.agg (attC l[i])):=by
  have hia:indexAddrE Try.prog 63 v (.int .i64 (i:Int))=some (.ptr (nx h idx) (i * 4)):=by
    obtain ⟨cap,rfl,_,_⟩:=x
    have ht:toNatE (.int .i64 (i:Int))=some i:=by rw [yUw (by omega),Int.toNat_natCast]
    simp only [zQy,ht,zRz,yTy hi,Nat.zero_add]
  refine ⟨hia,fun J w=>?_⟩
  obtain ⟨id,off,hix,hld⟩:=((x.more J).sl wf h.clock).at (wf.X (by omega)) hi zRz
  rw [hia] at hix
  cases hix
  have h1:=(hld [] w).2
  rw [X_X,List.append_nil,flat_at xAy hi] at h1
  exact h1
abbrev ni (k:Nat):AV:=ii (k:Int)
theorem profile (xs:List Int) (he:errB xs=0) (a:AV) (hc:CapU 1 a) (h:H) (wf:Wf h) (hs:Sl h a 1 xs.length (xs.map ii)) :
    ∃ F v M,ProfOK (sq (bitL xs)) xs.length F∧CapU 1 v∧(∀ J w,Sl (X h (M++J) w) v 1 F.length (F.map ni))∧(om Try.prog KK).call (.fn 23 [a]) h = .ok (.tup [v,ii 0]) (X h M h.w):=by
  suffices hW:WV ((om Try.prog KK).call (.fn 23 [a]) h) fun r h'=>∃ F v M,ProfOK (sq (bitL xs)) xs.length F∧CapU 1 v∧(∀ J w,Sl (X h (M++J) w) v 1 F.length (F.map ni))∧r = .tup [v,ii 0]∧h'=X h M h.w by
    obtain ⟨r,h',e,F,v,M,h1,h2,h3,rfl,rfl⟩:=hW
    exact ⟨F,v,M,h1,h2,h3,e⟩
  obtain ⟨hx1,hx2⟩:=xDx he
  have hxl:=zNv xs
  have hs':Sl h a 1 (bitL xs).length ((bitL xs).map bi):=by rw [zNv,← hx2];exact hs
  have hl : ∀ h',lenE Try.prog 22 a h'=some (ii (xs.length:Int)):=fun h'=>hs.len yRy
  obtain ⟨f1,f2⟩:=zPx hs
  have c1 : ∀ (l:List AO) (w:Nat),w≤h.clock+l.length→(om Try.prog KK).call (.fn 18 [a]) (X h l w) = .ok (ii 0) (X h l w):=fun l w hw=>by rw [checkBits xs a _ (wf.X hw) (hs.up wf l w),he]
  obtain ⟨l,T,L,p,prof,v,M,idx,hch,hp,hm,hat,e⟩:=seek (bitL xs) (by omega) a hc (X h [] h.clock) (wf.X (by simp)) (hs'.up wf _ _)
  rw [X_X,X_w,List.nil_append] at e
  rw [hxl] at hp hm
  have hf:=hch.facts
  obtain ⟨hok,hln⟩:=chain_ok hch
  have hL:L≤xs.length:=by have:=hf.le;omega
  obtain ⟨hpe,hpo⟩:=prof_ok hch hp hm
  obtain ⟨fv1,fv2⟩:=zPx (hat.sl (wf.X (by simp)) h.clock)
  have hat0:AttsAt h (M++[.cells (zBz [uu (T % 2 ^ 64),uu (T >>> 64),ii (L:Int)]) 59]) idx l v:=by
    obtain ⟨cap,hve,hM,hcap⟩:=hat.more [.cells (zBz [uu (T % 2 ^ 64),uu (T >>> 64),ii (L:Int)]) 59]
    exact ⟨cap,by rw [hve,nx_X];rw [List.length_nil,Nat.zero_add],hM,hcap⟩
  obtain ⟨v',M',hat',hlen',hkeep,happ⟩:=hat0.app wf ⟨T,L,(xs.length:Int)⟩ (by omega)
  generalize hlst:l++[(⟨T,L,(xs.length:Int)⟩:Att)]=lst at *
  obtain ⟨w',hw1,hw2,happ⟩:=happ h.clock
  have hwe:w'=h.clock:=by omega
  subst hwe
  obtain ⟨fw1,fw2⟩:=zPx (hat'.sl wf h.clock)
  unfold attC at happ
  simp only [List.append_assoc,List.cons_append,List.nil_append,List.length_append,List.length_cons,List.length_nil,Nat.zero_add] at happ
  have hrz : ∀ id off l c esz,reszT Try.prog 63 (.sl id off l (some c) esz) = .sl id off l (some c) 4:=fun _ _ _ _ _=>yTz un_63 zQx
  have hrz2 : ∀ id off l c esz,reszT Try.prog 22 (.sl id off l (some c) esz) = .sl id off l (some c) 1:=fun _ _ _ _ _=>yTz yRy sz_3
  have hlv : ∀ h',lenE Try.prog 63 v' h'=some (ii (lst.length:Int)):=fun h'=>(hat'.sl wf h.clock).len un_63
  unfold rg at e
  refine zLx (fn:=Try.f23) Try.func23 rfl rfl rfl rfl rfl ?_
  simp only [zKv]
  (repeat' (first
  | (with_reducible first|refine zJx ?_|refine zGv ?_|refine zFz ?_|refine zEv ?_|refine zFy ?_|refine zJw ?_|refine zHz ?_|refine zCz ?_|refine zDw ?_|refine zCy ?_|refine zCv ?_|refine zEx ?_|refine zDz ?_|refine zCx ?_|refine zBx ?_|refine zEz ?_|refine zEy ?_|refine zAw ?_|refine zBy ?_)
  | refine zDy ?_|refine zEw rfl ?_|refine zIv ?_|refine zJy ?_
  | ((first|refine zGw rfl rfl rfl rfl rfl fun K_ hK_=>?_|refine zGx rfl rfl rfl rfl rfl fun K_ hK_=>?_);simp only [zAz,zDx,zGz,↓reduceIte,reduceCtorEq,Nat.reduceEqDiff,Bool.not_true,Bool.not_false];refine hK_ _ ?_;clear hK_ K_)
  | refine zDv (by decide) ?_
  | ((try first|refine zKx rfl rfl rfl ?_|refine zIw rfl rfl ?_|refine zKw rfl rfl rfl ?_|refine zJz rfl rfl ?_);(refine zIx fun Q_ hQ_=>?_;simp (disch:=first|omega|(simp only [List.length_cons,List.length_nil,List.length_append];omega)) only [bb,bp,zKv,↓reduceIte,reduceCtorEq,Nat.reduceEqDiff,Nat.reduceLT,Nat.reduceLeDiff,Nat.reduceAdd,Nat.reduceMul,Nat.reduceSub,Nat.reduceBEq,Int.reduceToNat,cond_true,cond_false,eq_self,beq_self_eq_true,hl,hlv,f1,f2,fv1,fv2,fw1,fw2,happ,hrz,zSz,zFw wf,zGy wf,zBv wf,zFx wf,zAy wf,zAx,tEvZ20,zIy,zIz,zHv,zHw,zAv wf];first|(refine zCw (Q:=Q_) (fun hp_=>?_) (fun hp_=>?_) <;> first|(exfalso;omega)|(refine hQ_ _ _ ?_;clear hQ_ Q_))|(refine zBw (Q:=Q_) (fun hp_=>?_) (fun hp_=>?_) <;> first|(exfalso;omega)|(refine hQ_ _ _ ?_;clear hQ_ Q_))|(refine hQ_ _ _ ?_;clear hQ_ Q_)|(refine zPz (c1 _ _ (by first|omega|(simp only [List.length_append,List.length_cons,List.length_nil];omega))) ?_;refine hQ_ _ _ ?_;clear hQ_ Q_)|(refine zPz (e) ?_;refine hQ_ _ _ ?_;clear hQ_ Q_)))
  | (refine zHy fun K_ hK_=>?_;simp (disch:=omega) only [zFv,zAz,zHx,↓reduceIte,reduceCtorEq,Nat.reduceEqDiff,Nat.reduceLT];refine hK_ _ ?_;clear hK_ K_)))
  have hsl':=fun G w=>(hat'.more G).sl wf w
  have hin : ∀ (k:Nat),oneB (ni k)=true:=fun _=>rfl
  have hokl : ∀ x ∈ lst,OkA x:=by
    rw [← hlst]
    intro x hx
    rcases List.mem_append.1 hx with h|h
    · exact hok x h
    · rw [List.mem_singleton.1 h]
      exact ⟨⟨by show (-1:Int)≤(xs.length:Int);omega,by show (xs.length:Int)≤128;omega⟩,by show L≤128;omega⟩
  have hlstn:lst.length≤200:=by rw [← hlst,List.length_append];simp;have:=hf.p_le;omega
  have hPl : ∀ i,(profOf (lst.take i)).length≤129:=fun i=>by
    induction i with
    | zero=>rw [List.take_zero];exact Nat.zero_le _
    | succ i ih=>
      by_cases hi:i<lst.length
      · rw [List.take_succ_eq_append_getElem hi,xFz,List.length_append,List.length_replicate]
        have:=(hokl _ (List.getElem_mem hi)).1.2
        omega
      · rw [List.take_of_length_le (by omega)];rw [List.take_of_length_le (by omega)] at ih;exact ih
  refine zOx (α:=Nat) (fun (i:Nat) f d h'=>i≤lst.length∧f 26=v'∧f 27=ii (lst.length:Int)∧f 28=ii (i:Int)∧d=[] ∧
    ∃ pv G w,f 7=pv∧Grow h M' G pv 1 3 (profOf (lst.take i)).length ((profOf (lst.take i)).map ni)∧h.clock≤w∧h'=X h (M'++G) w) (fun i=>lst.length - i) ?_ (lst.length+1) 0 (by omega) ?_
  · rintro i f d h' ⟨hi,g26,g27,g28,rfl,pv,G,w,g7,hg,hw,rfl⟩
    obtain ⟨fp1,fp2⟩:=hg.flat
    by_cases hlt:i<lst.length
    · obtain ⟨hix,hld⟩:=hat'.get wf hlt
      have hPi:=hPl i
      have e1:profOf (lst.take (i+1))=profOf (lst.take i)++List.replicate ((lst[i].at_+1).toNat - (profOf (lst.take i)).length) lst[i].L:=by rw [List.take_succ_eq_append_getElem hlt,xFz]
      have hxok:=hokl _ (List.getElem_mem hlt)
      generalize hP:profOf (lst.take i)=P at *
      generalize hxe:lst[i]=x at *
      obtain ⟨⟨ho1,ho2⟩,ho3⟩:=hxok
      unfold attC at hld
      generalize hid:nx h (M.length+2)=idv at *
      generalize nx h ((M++[AO.cells (zBz [uu (T % 2 ^ 64),uu (T >>> 64),ii (L:Int)]) 59]).length+1)=ida at *
      (repeat' (first
  | (with_reducible first|refine zJx ?_|refine zGv ?_|refine zFz ?_|refine zEv ?_|refine zFy ?_|refine zJw ?_|refine zHz ?_|refine zCz ?_|refine zDw ?_|refine zCy ?_|refine zCv ?_|refine zEx ?_|refine zDz ?_|refine zCx ?_|refine zBx ?_|refine zEz ?_|refine zEy ?_|refine zAw ?_|refine zBy ?_)
  | refine zDy ?_|refine zEw rfl ?_|refine zIv ?_|refine zJy ?_
  | ((first|refine zGw rfl rfl rfl rfl rfl fun K_ hK_=>?_|refine zGx rfl rfl rfl rfl rfl fun K_ hK_=>?_);simp only [zAz,zDx,zGz,↓reduceIte,reduceCtorEq,Nat.reduceEqDiff,Bool.not_true,Bool.not_false];refine hK_ _ ?_;clear hK_ K_)
  | refine zDv (by decide) ?_
  | ((try first|refine zKx rfl rfl rfl ?_|refine zIw rfl rfl ?_|refine zKw rfl rfl rfl ?_|refine zJz rfl rfl ?_);(refine zIx fun Q_ hQ_=>?_;simp (disch:=first|omega|(simp only [List.length_cons,List.length_nil,List.length_append];omega)) only [bb,bp,zKv,↓reduceIte,reduceCtorEq,Nat.reduceEqDiff,Nat.reduceLT,Nat.reduceLeDiff,Nat.reduceAdd,Nat.reduceMul,Nat.reduceSub,Nat.reduceBEq,Int.reduceToNat,cond_true,cond_false,eq_self,beq_self_eq_true,hl,hlv,f1,f2,fw1,fw2,fp1,fp2,g7,g26,g27,g28,hix,hld,zFw wf,zGy wf,zBv wf,zFx wf,zAy wf,zAx,tEvZ20,zIy,zIz,zHv,zHw,zAv wf];first|(refine zCw (Q:=Q_) (fun hp_=>?_) (fun hp_=>?_) <;> first|(exfalso;omega)|(refine hQ_ _ _ ?_;clear hQ_ Q_))|(refine zBw (Q:=Q_) (fun hp_=>?_) (fun hp_=>?_) <;> first|(exfalso;omega)|(refine hQ_ _ _ ?_;clear hQ_ Q_))|(refine hQ_ _ _ ?_;clear hQ_ Q_)))
  | (refine zHy fun K_ hK_=>?_;simp (disch:=omega) only [zFv,zAz,zHx,↓reduceIte,reduceCtorEq,Nat.reduceEqDiff,Nat.reduceLT];refine hK_ _ ?_;clear hK_ K_)))
      have lx : ∀ {G':List AO},G'[G.length]? = some (.cells (zBz [uu (x.T % 2 ^ 64),uu (x.T >>> 64),ii (x.L:Int),ii x.at_]) 67) → ∀ J w,load1 (nx h (M'.length+G.length)) 3 (X h (M'++(G'++J)) w)=some (ii x.at_)∧load1 (nx h (M'.length+G.length)) 2 (X h (M'++(G'++J)) w)=some (ii (x.L:Int)):=fun {G'} hG J w=>by
        rw [zGy wf,zGy wf,xIy,List.getElem?_append_left (zLw hG),hG]
        exact ⟨rfl,rfl⟩
      refine zOx (α:=Nat) (fun (c:Nat) f d h'=>P.length+c≤max P.length (x.at_+1).toNat∧f 9 = .ptr (nx h (M'.length+G.length)) 0∧f 26=v'∧f 27=ii (lst.length:Int)∧f 28=ii (i:Int)∧d=[] ∧
        ∃ pv G' w,f 7=pv∧Grow h M' G' pv 1 3 (P.length+c) ((P++List.replicate c x.L).map ni)∧G'[G.length]? = some (.cells (zBz [uu (x.T % 2 ^ 64),uu (x.T >>> 64),ii (x.L:Int),ii x.at_]) 67)∧h.clock≤w∧h'=X h (M'++G') w) (fun c=>300 - c) ?_ 301 0 (by omega) ?_
      · rintro c f d h' ⟨hcn,g9,g26,g27,g28,rfl,pv,G',w,g7,hg,hG9,hw,rfl⟩
        obtain ⟨fp1,fp2⟩:=hg.flat
        have lx1:=fun J w=>(lx hG9 J w).1
        have lx2:=fun J w=>(lx hG9 J w).2
        have lx10:=fun w=>by have:=lx1 [] w;rwa [List.append_nil] at this
        have lx20:=fun w=>by have:=lx2 [] w;rwa [List.append_nil] at this
        have hlp : ∀ h',lenE Try.prog 22 pv h'=some (ii ((P.length+c:Nat):Int)):=fun h'=>(hg.sl wf h.clock).len yRy
        by_cases hcl:P.length+c<max P.length (x.at_+1).toNat
        · have hle:((P.length+c:Nat):Int)≤x.at_:=by omega
          obtain ⟨pv',G'',hg',hk',happ2⟩:=(hg.more [.cells (zBz [ni x.L]) 3]).appendK (P:=Try.prog) wf yRy sz_3 el_3 (x:=.sl (nx h (M'.length+G'.length)) 0 1 (some 1) 1) (n:=1) (new:=[ni x.L]) (by omega) (by omega) (by decide) rfl rfl (fun w=>src_new (e:=3) wf (by rw [← List.append_assoc,show M'.length+G'.length=(M'++G').length by simp];simp) rfl)
          obtain ⟨w',hw1,hw2,happ2⟩:=happ2 w hw
          have hG9':=hk' G.length _ 67 (by decide) (by rw [List.getElem?_append_left (zLw hG9)];exact hG9)
          have hr:reszT Try.prog 22 pv=pv:=hg.resz 22
          have e3:(P++List.replicate (c+1) x.L).map ni=(P++List.replicate c x.L).map ni++[ni x.L]:=by
            rw [List.replicate_succ',← List.append_assoc,List.map_append];rfl
          rw [← e3] at hg'
          obtain ⟨fq1,fq2⟩:=hg'.flat
          (repeat' (first
  | (with_reducible first|refine zJx ?_|refine zGv ?_|refine zFz ?_|refine zEv ?_|refine zFy ?_|refine zJw ?_|refine zHz ?_|refine zCz ?_|refine zDw ?_|refine zCy ?_|refine zCv ?_|refine zEx ?_|refine zDz ?_|refine zCx ?_|refine zBx ?_|refine zEz ?_|refine zEy ?_|refine zAw ?_|refine zBy ?_)
  | refine zDy ?_|refine zEw rfl ?_|refine zIv ?_|refine zJy ?_
  | ((first|refine zGw rfl rfl rfl rfl rfl fun K_ hK_=>?_|refine zGx rfl rfl rfl rfl rfl fun K_ hK_=>?_);simp only [zAz,zDx,zGz,↓reduceIte,reduceCtorEq,Nat.reduceEqDiff,Bool.not_true,Bool.not_false];refine hK_ _ ?_;clear hK_ K_)
  | refine zDv (by decide) ?_
  | ((try first|refine zKx rfl rfl rfl ?_|refine zIw rfl rfl ?_|refine zKw rfl rfl rfl ?_|refine zJz rfl rfl ?_);(refine zIx fun Q_ hQ_=>?_;simp (disch:=first|omega|(simp only [List.length_cons,List.length_nil,List.length_append];omega)) only [bb,bp,zKv,↓reduceIte,reduceCtorEq,Nat.reduceEqDiff,Nat.reduceLT,Nat.reduceLeDiff,Nat.reduceAdd,Nat.reduceMul,Nat.reduceSub,Nat.reduceBEq,Int.reduceToNat,cond_true,cond_false,eq_self,beq_self_eq_true,hl,hlv,hlp,f1,f2,fw1,fw2,fp1,fp2,fq1,fq2,g7,g9,g26,g27,g28,lx10,lx20,hr,hrz2,happ2,zQv,zFw wf,zGy wf,zBv wf,zFx wf,zAy wf,tEvZ20,zIy,zIz,zHv,zHw,zAv wf];first|(refine zCw (Q:=Q_) (fun hp_=>?_) (fun hp_=>?_) <;> first|(exfalso;omega)|(refine hQ_ _ _ ?_;clear hQ_ Q_))|(refine zBw (Q:=Q_) (fun hp_=>?_) (fun hp_=>?_) <;> first|(exfalso;omega)|(refine hQ_ _ _ ?_;clear hQ_ Q_))|(refine hQ_ _ _ ?_;clear hQ_ Q_)))
  | (refine zHy fun K_ hK_=>?_;simp (disch:=omega) only [zFv,zAz,zHx,↓reduceIte,reduceCtorEq,Nat.reduceEqDiff,Nat.reduceLT];refine hK_ _ ?_;clear hK_ K_)))
          exact zKz (c+1) (by omega) ⟨by omega,by simp only [zAz,↓reduceIte,reduceCtorEq,Nat.reduceEqDiff];exact g9,by simp only [zAz,↓reduceIte,reduceCtorEq,Nat.reduceEqDiff];exact g26,by simp only [zAz,↓reduceIte,reduceCtorEq,Nat.reduceEqDiff];exact g27,by simp only [zAz,↓reduceIte,reduceCtorEq,Nat.reduceEqDiff];exact g28,rfl,pv',G'',w',by simp only [zAz,↓reduceIte,reduceCtorEq,Nat.reduceEqDiff],hg',hG9',hw1,rfl⟩
        · have hle : ¬ ((P.length+c:Nat):Int)≤x.at_:=by omega
          have hce:c=(x.at_+1).toNat - P.length:=by omega
          (repeat' (first
  | (with_reducible first|refine zJx ?_|refine zGv ?_|refine zFz ?_|refine zEv ?_|refine zFy ?_|refine zJw ?_|refine zHz ?_|refine zCz ?_|refine zDw ?_|refine zCy ?_|refine zCv ?_|refine zEx ?_|refine zDz ?_|refine zCx ?_|refine zBx ?_|refine zEz ?_|refine zEy ?_|refine zAw ?_|refine zBy ?_)
  | refine zDy ?_|refine zEw rfl ?_|refine zIv ?_|refine zJy ?_
  | ((first|refine zGw rfl rfl rfl rfl rfl fun K_ hK_=>?_|refine zGx rfl rfl rfl rfl rfl fun K_ hK_=>?_);simp only [zAz,zDx,zGz,↓reduceIte,reduceCtorEq,Nat.reduceEqDiff,Bool.not_true,Bool.not_false];refine hK_ _ ?_;clear hK_ K_)
  | refine zDv (by decide) ?_
  | ((try first|refine zKx rfl rfl rfl ?_|refine zIw rfl rfl ?_|refine zKw rfl rfl rfl ?_|refine zJz rfl rfl ?_);(refine zIx fun Q_ hQ_=>?_;simp (disch:=first|omega|(simp only [List.length_cons,List.length_nil,List.length_append];omega)) only [bb,bp,zKv,↓reduceIte,reduceCtorEq,Nat.reduceEqDiff,Nat.reduceLT,Nat.reduceLeDiff,Nat.reduceAdd,Nat.reduceMul,Nat.reduceSub,Nat.reduceBEq,Int.reduceToNat,cond_true,cond_false,eq_self,beq_self_eq_true,hl,hlv,hlp,f1,f2,fw1,fw2,fp1,fp2,g7,g9,g26,g27,g28,lx10,lx20,zFw wf,zGy wf,zBv wf,zFx wf,zAy wf,tEvZ20,zIy,zIz,zHv,zHw,zAv wf];first|(refine zCw (Q:=Q_) (fun hp_=>?_) (fun hp_=>?_) <;> first|(exfalso;omega)|(refine hQ_ _ _ ?_;clear hQ_ Q_))|(refine zBw (Q:=Q_) (fun hp_=>?_) (fun hp_=>?_) <;> first|(exfalso;omega)|(refine hQ_ _ _ ?_;clear hQ_ Q_))|(refine hQ_ _ _ ?_;clear hQ_ Q_)))
  | (refine zHy fun K_ hK_=>?_;simp (disch:=omega) only [zFv,zAz,zHx,↓reduceIte,reduceCtorEq,Nat.reduceEqDiff,Nat.reduceLT];refine hK_ _ ?_;clear hK_ K_)))
          refine zKz (i+1) (by omega) ⟨hlt,by simp only [zAz,↓reduceIte,reduceCtorEq,Nat.reduceEqDiff];exact g26,by simp only [zAz,↓reduceIte,reduceCtorEq,Nat.reduceEqDiff];exact g27,by simp only [zAz,↓reduceIte,reduceCtorEq,Nat.reduceEqDiff];rfl,rfl,pv,G',w,by simp only [zAz,↓reduceIte,reduceCtorEq,Nat.reduceEqDiff];exact g7,?_,hw,rfl⟩
          rw [e1,← hce,List.length_append,List.length_replicate]
          exact hg
      · exact ⟨by omega,by simp only [zAz,↓reduceIte,reduceCtorEq,Nat.reduceEqDiff],by simp only [zAz,↓reduceIte,reduceCtorEq,Nat.reduceEqDiff];exact g26,by simp only [zAz,↓reduceIte,reduceCtorEq,Nat.reduceEqDiff];exact g27,by simp only [zAz,↓reduceIte,reduceCtorEq,Nat.reduceEqDiff];exact g28,rfl,pv,_,_,by simp only [zAz,↓reduceIte,reduceCtorEq,Nat.reduceEqDiff];exact g7,by rw [List.replicate_zero,List.append_nil,Nat.add_zero];exact hg.more _,by rw [List.getElem?_append_right (Nat.le_refl _),Nat.sub_self];rfl,by omega,rfl⟩
    · have hie:i=lst.length:=by omega
      subst hie
      rw [List.take_length] at hg
      rw [hpe] at hg
      (repeat' (first
  | (with_reducible first|refine zJx ?_|refine zGv ?_|refine zFz ?_|refine zEv ?_|refine zFy ?_|refine zJw ?_|refine zHz ?_|refine zCz ?_|refine zDw ?_|refine zCy ?_|refine zCv ?_|refine zEx ?_|refine zDz ?_|refine zCx ?_|refine zBx ?_|refine zEz ?_|refine zEy ?_|refine zAw ?_|refine zBy ?_)
  | refine zDy ?_|refine zEw rfl ?_|refine zIv ?_|refine zJy ?_
  | ((first|refine zGw rfl rfl rfl rfl rfl fun K_ hK_=>?_|refine zGx rfl rfl rfl rfl rfl fun K_ hK_=>?_);simp only [zAz,zDx,zGz,↓reduceIte,reduceCtorEq,Nat.reduceEqDiff,Bool.not_true,Bool.not_false];refine hK_ _ ?_;clear hK_ K_)
  | refine zDv (by decide) ?_
  | ((try first|refine zKx rfl rfl rfl ?_|refine zIw rfl rfl ?_|refine zKw rfl rfl rfl ?_|refine zJz rfl rfl ?_);(refine zIx fun Q_ hQ_=>?_;simp (disch:=first|omega|(simp only [List.length_cons,List.length_nil,List.length_append];omega)) only [bb,bp,zKv,↓reduceIte,reduceCtorEq,Nat.reduceEqDiff,Nat.reduceLT,Nat.reduceLeDiff,Nat.reduceAdd,Nat.reduceMul,Nat.reduceSub,Nat.reduceBEq,Int.reduceToNat,cond_true,cond_false,eq_self,beq_self_eq_true,hl,hlv,f1,f2,fw1,fw2,fp1,fp2,g7,g26,g27,g28,zFw wf,zGy wf,zBv wf,zFx wf,zAy wf,zAx,tEvZ20,zIy,zIz,zHv,zHw,zAv wf];first|(refine zCw (Q:=Q_) (fun hp_=>?_) (fun hp_=>?_) <;> first|(exfalso;omega)|(refine hQ_ _ _ ?_;clear hQ_ Q_))|(refine zBw (Q:=Q_) (fun hp_=>?_) (fun hp_=>?_) <;> first|(exfalso;omega)|(refine hQ_ _ _ ?_;clear hQ_ Q_))|(refine hQ_ _ _ ?_;clear hQ_ Q_)))
  | (refine zHy fun K_ hK_=>?_;simp (disch:=omega) only [zFv,zAz,zHx,↓reduceIte,reduceCtorEq,Nat.reduceEqDiff,Nat.reduceLT];refine hK_ _ ?_;clear hK_ K_)))
      refine zKy _ _ rfl (ret2 (by decide) (by decide)) ?_
      simp only [zAz,↓reduceIte,reduceCtorEq,Nat.reduceEqDiff]
      have hpos:0<(prof++List.replicate (xs.length+1 - p) L).length:=by rw [hpo.len];omega
      generalize prof++List.replicate (xs.length+1 - p) L=F at *
      obtain ⟨hgl,h1|⟨gi,hpv,hgg⟩⟩:=hg
      · omega
      · subst hpv
        refine xUz wf hw (fun hfl=>absurd (show false=true from hfl) (by decide)) (fun _=>?_)
        refine ⟨F,_,M'++G,hpo,capu_none,fun J w=>?_,rfl,rfl⟩
        exact Sl.new (k:=M'.length+gi) wf (by rw [List.length_map,Nat.mul_one]) (by rw [List.append_assoc,xIy,List.getElem?_append_left (zLw hgg)];exact hgg)
  · exact ⟨Nat.zero_le _,by simp only [zAz,↓reduceIte,reduceCtorEq,Nat.reduceEqDiff],by simp only [zAz,↓reduceIte,reduceCtorEq,Nat.reduceEqDiff],by simp only [zAz,↓reduceIte,reduceCtorEq,Nat.reduceEqDiff];try rfl,rfl,.nils,[],_,by simp only [zAz,↓reduceIte,reduceCtorEq,Nat.reduceEqDiff],by rw [List.take_zero];exact Grow.nil _ _ _ _ _,Nat.le_refl _,by rw [List.append_nil]⟩
end Go.Proofs.Ytmincoafjnnkpaa
end

section
namespace Go.Proofs.Ytmincoafjnnkpaa
open Go.Ev
set_option maxRecDepth 100000
set_option linter.unusedSimpArgs false
set_option linter.unusedVariables false
set_option maxHeartbeats 2000000
theorem cpx_congr {s t:Nat→Bool} {n L:Nat} (h:Cpx s n L) (e : ∀ i,i<n→s i=t i):Cpx t n L:=by
  obtain ⟨T,h1,h2⟩:=h.some
  exact ⟨⟨T,h1,makes_congr h2 e⟩,fun T' L' h'=>h.least T' L' (makes_congr h' fun i hi=>(e i hi).symm)⟩
end Go.Proofs.Ytmincoafjnnkpaa
end

section
namespace Go.Proofs.Ytmincoafjnnkpaa
open Go.Ev
set_option maxRecDepth 100000
set_option linter.unusedSimpArgs false
set_option linter.unusedVariables false
set_option maxHeartbeats 2000000
theorem tEvZ31 :type_of% (And.intro (And.intro (And.intro (And.intro (And.intro (And.intro (And.intro (@yQv) (@yQw)) (And.intro (@yQx) (@yQy))) (And.intro (And.intro (@yQz) (@yPv)) (And.intro (@ia_2) (And.intro (@ia_3) (@ia_4))))) (And.intro (And.intro (And.intro (@ia_5) (@yPw)) (And.intro (@yPx) (@yPy))) (And.intro (And.intro (@yPz) (@yOv)) (And.intro (@yOw) (And.intro (@zSy) (@yOx)))))) (And.intro (And.intro (And.intro (And.intro (@yOy) (@yOz)) (And.intro (@yNv) (@yNw))) (And.intro (And.intro (@yNx) (@yNy)) (And.intro (@yNz) (And.intro (@yMv) (@sz_2))))) (And.intro (And.intro (And.intro (@sz_3) (@sz_4)) (And.intro (@sz_5) (And.intro (@zRy) (@zZy)))) (And.intro (And.intro (@zZz) (@zYv)) (And.intro (@zYw) (And.intro (@zYx) (@zRw))))))) (And.intro (And.intro (And.intro (And.intro (And.intro (@zYy) (@zYz)) (And.intro (@zXv) (@zQx))) (And.intro (And.intro (@zXw) (@zXx)) (And.intro (@zXy) (And.intro (@zXz) (@zWv))))) (And.intro (And.intro (And.intro (@ze_2) (@ze_3)) (And.intro (@ze_4) (And.intro (@ze_5) (@zWw)))) (And.intro (And.intro (@zWx) (@zWy)) (And.intro (@zWz) (And.intro (@zVv) (@zVw)))))) (And.intro (And.intro (And.intro (And.intro (@zVx) (@zVy)) (And.intro (@zVz) (@zUv))) (And.intro (And.intro (@zUw) (@zUx)) (And.intro (@zUy) (And.intro (@zUz) (@zTv))))) (And.intro (And.intro (And.intro (@zNw) (@zNx)) (And.intro (@zNy) (And.intro (@zNz) (@zMv)))) (And.intro (And.intro (@zMw) (@zMx)) (And.intro (@zMy) (And.intro (@zMz) (@yMw)))))))) (And.intro (And.intro (And.intro (And.intro (And.intro (And.intro (@yMx) (@yMy)) (And.intro (@yMz) (@yLv))) (And.intro (And.intro (@yLw) (@yLx)) (And.intro (@yLy) (And.intro (@yLz) (@yKv))))) (And.intro (And.intro (And.intro (@yKw) (@yKx)) (And.intro (@yKy) (@yKz))) (And.intro (And.intro (@yJv) (@yJw)) (And.intro (@yJx) (And.intro (@yJy) (@yJz)))))) (And.intro (And.intro (And.intro (And.intro (@yIv) (@yIw)) (And.intro (@yIx) (@yIy))) (And.intro (And.intro (@yIz) (@yHv)) (And.intro (@yHw) (And.intro (@yHx) (@yHy))))) (And.intro (And.intro (And.intro (@yHz) (@yGv)) (And.intro (@yGw) (And.intro (@yGx) (@yGy)))) (And.intro (And.intro (@yGz) (@yFv)) (And.intro (@yFw) (And.intro (@yFx) (@yFy))))))) (And.intro (And.intro (And.intro (And.intro (And.intro (@yFz) (@yEv)) (And.intro (@yEw) (@yEx))) (And.intro (And.intro (@yEy) (@yEz)) (And.intro (@yDv) (And.intro (@yDw) (@yDx))))) (And.intro (And.intro (And.intro (@yDy) (@yDz)) (And.intro (@yCv) (And.intro (@yCw) (@yCx)))) (And.intro (And.intro (@zSv) (@yCy)) (And.intro (@yCz) (And.intro (@yBv) (@yBw)))))) (And.intro (And.intro (And.intro (And.intro (@yBx) (@yBy)) (And.intro (@yBz) (@yAv))) (And.intro (And.intro (@yAw) (@yAx)) (And.intro (@yAy) (And.intro (@yAz) (@zZv))))) (And.intro (And.intro (And.intro (@zZw) (@zZx)) (And.intro (@zPw) (And.intro (@zTw) (@zTx)))) (And.intro (And.intro (@zRz) (@zTy)) (And.intro (@zQv) (And.intro (@zTz) (@zSz))))))))):=And.intro (And.intro (And.intro (And.intro (And.intro (And.intro (And.intro (@yQv) (@yQw)) (And.intro (@yQx) (@yQy))) (And.intro (And.intro (@yQz) (@yPv)) (And.intro (@ia_2) (And.intro (@ia_3) (@ia_4))))) (And.intro (And.intro (And.intro (@ia_5) (@yPw)) (And.intro (@yPx) (@yPy))) (And.intro (And.intro (@yPz) (@yOv)) (And.intro (@yOw) (And.intro (@zSy) (@yOx)))))) (And.intro (And.intro (And.intro (And.intro (@yOy) (@yOz)) (And.intro (@yNv) (@yNw))) (And.intro (And.intro (@yNx) (@yNy)) (And.intro (@yNz) (And.intro (@yMv) (@sz_2))))) (And.intro (And.intro (And.intro (@sz_3) (@sz_4)) (And.intro (@sz_5) (And.intro (@zRy) (@zZy)))) (And.intro (And.intro (@zZz) (@zYv)) (And.intro (@zYw) (And.intro (@zYx) (@zRw))))))) (And.intro (And.intro (And.intro (And.intro (And.intro (@zYy) (@zYz)) (And.intro (@zXv) (@zQx))) (And.intro (And.intro (@zXw) (@zXx)) (And.intro (@zXy) (And.intro (@zXz) (@zWv))))) (And.intro (And.intro (And.intro (@ze_2) (@ze_3)) (And.intro (@ze_4) (And.intro (@ze_5) (@zWw)))) (And.intro (And.intro (@zWx) (@zWy)) (And.intro (@zWz) (And.intro (@zVv) (@zVw)))))) (And.intro (And.intro (And.intro (And.intro (@zVx) (@zVy)) (And.intro (@zVz) (@zUv))) (And.intro (And.intro (@zUw) (@zUx)) (And.intro (@zUy) (And.intro (@zUz) (@zTv))))) (And.intro (And.intro (And.intro (@zNw) (@zNx)) (And.intro (@zNy) (And.intro (@zNz) (@zMv)))) (And.intro (And.intro (@zMw) (@zMx)) (And.intro (@zMy) (And.intro (@zMz) (@yMw)))))))) (And.intro (And.intro (And.intro (And.intro (And.intro (And.intro (@yMx) (@yMy)) (And.intro (@yMz) (@yLv))) (And.intro (And.intro (@yLw) (@yLx)) (And.intro (@yLy) (And.intro (@yLz) (@yKv))))) (And.intro (And.intro (And.intro (@yKw) (@yKx)) (And.intro (@yKy) (@yKz))) (And.intro (And.intro (@yJv) (@yJw)) (And.intro (@yJx) (And.intro (@yJy) (@yJz)))))) (And.intro (And.intro (And.intro (And.intro (@yIv) (@yIw)) (And.intro (@yIx) (@yIy))) (And.intro (And.intro (@yIz) (@yHv)) (And.intro (@yHw) (And.intro (@yHx) (@yHy))))) (And.intro (And.intro (And.intro (@yHz) (@yGv)) (And.intro (@yGw) (And.intro (@yGx) (@yGy)))) (And.intro (And.intro (@yGz) (@yFv)) (And.intro (@yFw) (And.intro (@yFx) (@yFy))))))) (And.intro (And.intro (And.intro (And.intro (And.intro (@yFz) (@yEv)) (And.intro (@yEw) (@yEx))) (And.intro (And.intro (@yEy) (@yEz)) (And.intro (@yDv) (And.intro (@yDw) (@yDx))))) (And.intro (And.intro (And.intro (@yDy) (@yDz)) (And.intro (@yCv) (And.intro (@yCw) (@yCx)))) (And.intro (And.intro (@zSv) (@yCy)) (And.intro (@yCz) (And.intro (@yBv) (@yBw)))))) (And.intro (And.intro (And.intro (And.intro (@yBx) (@yBy)) (And.intro (@yBz) (@yAv))) (And.intro (And.intro (@yAw) (@yAx)) (And.intro (@yAy) (And.intro (@yAz) (@zZv))))) (And.intro (And.intro (And.intro (@zZw) (@zZx)) (And.intro (@zPw) (And.intro (@zTw) (@zTx)))) (And.intro (And.intro (@zRz) (@zTy)) (And.intro (@zQv) (And.intro (@zTz) (@zSz))))))))
theorem rComplexity (xs:List Int) (he:errB xs=0) (C:Nat) (hC:Cpx (sq (bitL xs)) xs.length C) (a:AV) (h:H) (wf:Wf h) (hs:Sl h a 1 xs.length (xs.map ii)):(om Try.prog KK).call (.fn 29 [a]) h = .ok (ii (C:Int)) h:=by
  obtain ⟨hx1,hx2⟩:=xDx he
  have hxl:=zNv xs
  have hs':Sl h a 1 (bitL xs).length ((bitL xs).map bi):=by rw [zNv,← hx2];exact hs
  have hCn:C≤xs.length:=hC.least 0 xs.length fun i h1 h2=>by omega
  have cs : ∀ L,L≤C→(om Try.prog KK).call (.fn 57 [a,ii (L:Int)]) (X h [] h.clock) = .ok (.bool (decide (L=C))) (X h [] h.clock):=fun L hL=>by
    obtain ⟨b,hb,e⟩:=solved (bitL xs) (by omega) L (by omega) a (X h [] h.clock) (wf.X (by simp)) (hs'.up wf _ _)
    rw [e,hxl] at *
    have:b=decide (L=C):=by
      by_cases h1:L=C
      · rw [decide_eq_true h1,hb,h1];exact hC.some
      · rw [decide_eq_false h1]
        cases hbb:b
        · rfl
        · obtain ⟨T,_,hm⟩:=hb.1 hbb
          have:=hC.least _ _ hm
          omega
    rw [this]
  obtain ⟨f1,f2⟩:=zPx hs
  refine zSx (zLx (fn:=Try.f29) Try.func29 rfl rfl rfl rfl rfl ?_)
  simp only [zKv]
  (repeat' (first
  | (with_reducible first|refine zJx ?_|refine zGv ?_|refine zFz ?_|refine zEv ?_|refine zFy ?_|refine zJw ?_|refine zHz ?_|refine zCz ?_|refine zDw ?_|refine zCy ?_|refine zCv ?_|refine zEx ?_|refine zDz ?_|refine zCx ?_|refine zBx ?_|refine zEz ?_|refine zEy ?_|refine zAw ?_|refine zBy ?_)
  | refine zDy ?_|refine zEw rfl ?_|refine zIv ?_|refine zJy ?_
  | ((first|refine zGw rfl rfl rfl rfl rfl fun K_ hK_=>?_|refine zGx rfl rfl rfl rfl rfl fun K_ hK_=>?_);simp only [zAz,zDx,zGz,↓reduceIte,reduceCtorEq,Nat.reduceEqDiff,Bool.not_true,Bool.not_false];refine hK_ _ ?_;clear hK_ K_)
  | refine zDv (by decide) ?_
  | ((try first|refine zKx rfl rfl rfl ?_|refine zIw rfl rfl ?_|refine zKw rfl rfl rfl ?_|refine zJz rfl rfl ?_);(refine zIx fun Q_ hQ_=>?_;simp (disch:=first|omega|(simp only [List.length_cons,List.length_nil,List.length_append];omega)) only [bb,bp,zKv,↓reduceIte,reduceCtorEq,Nat.reduceEqDiff,Nat.reduceLT,Nat.reduceLeDiff,Nat.reduceAdd,Nat.reduceMul,Nat.reduceSub,Nat.reduceBEq,Int.reduceToNat,cond_true,cond_false,eq_self,beq_self_eq_true,f1,f2,zFw wf,zGy wf,zBv wf,zFx wf,zAy wf,zAx,tEvZ31,zIy,zIz,zHv,zHw,zAv wf];first|(refine zCw (Q:=Q_) (fun hp_=>?_) (fun hp_=>?_) <;> first|(exfalso;omega)|(refine hQ_ _ _ ?_;clear hQ_ Q_))|(refine zBw (Q:=Q_) (fun hp_=>?_) (fun hp_=>?_) <;> first|(exfalso;omega)|(refine hQ_ _ _ ?_;clear hQ_ Q_))|(refine hQ_ _ _ ?_;clear hQ_ Q_)))
  | (refine zHy fun K_ hK_=>?_;simp (disch:=omega) only [zFv,zAz,zHx,↓reduceIte,reduceCtorEq,Nat.reduceEqDiff,Nat.reduceLT];refine hK_ _ ?_;clear hK_ K_)))
  refine zOx (α:=Nat) (fun (L:Nat) f d h'=>L≤C∧f 0=a∧f 3=ii (L:Int)∧d=[]∧h'=X h [] h.clock) (fun L=>C - L) ?_ (C+1) 0 (by omega) ?_
  · rintro L f d h' ⟨hL,g0,g3,rfl,rfl⟩
    have csL:=cs L hL
    clear cs
    by_cases hlt:L<C
    · rw [decide_eq_false (by omega)] at csL
      (repeat' (first
  | (with_reducible first|refine zJx ?_|refine zGv ?_|refine zFz ?_|refine zEv ?_|refine zFy ?_|refine zJw ?_|refine zHz ?_|refine zCz ?_|refine zDw ?_|refine zCy ?_|refine zCv ?_|refine zEx ?_|refine zDz ?_|refine zCx ?_|refine zBx ?_|refine zEz ?_|refine zEy ?_|refine zAw ?_|refine zBy ?_)
  | refine zDy ?_|refine zEw rfl ?_|refine zIv ?_|refine zJy ?_
  | ((first|refine zGw rfl rfl rfl rfl rfl fun K_ hK_=>?_|refine zGx rfl rfl rfl rfl rfl fun K_ hK_=>?_);simp only [zAz,zDx,zGz,↓reduceIte,reduceCtorEq,Nat.reduceEqDiff,Bool.not_true,Bool.not_false];refine hK_ _ ?_;clear hK_ K_)
  | refine zDv (by decide) ?_
  | ((try first|refine zKx rfl rfl rfl ?_|refine zIw rfl rfl ?_|refine zKw rfl rfl rfl ?_|refine zJz rfl rfl ?_);(refine zIx fun Q_ hQ_=>?_;simp (disch:=first|omega|(simp only [List.length_cons,List.length_nil,List.length_append];omega)) only [bb,bp,zKv,↓reduceIte,reduceCtorEq,Nat.reduceEqDiff,Nat.reduceLT,Nat.reduceLeDiff,Nat.reduceAdd,Nat.reduceMul,Nat.reduceSub,Nat.reduceBEq,Int.reduceToNat,cond_true,cond_false,eq_self,beq_self_eq_true,f1,f2,g0,g3,zFw wf,zGy wf,zBv wf,zFx wf,zAy wf,zAx,tEvZ31,zIy,zIz,zHv,zHw,zAv wf];first|(refine zCw (Q:=Q_) (fun hp_=>?_) (fun hp_=>?_) <;> first|(exfalso;omega)|(refine hQ_ _ _ ?_;clear hQ_ Q_))|(refine zBw (Q:=Q_) (fun hp_=>?_) (fun hp_=>?_) <;> first|(exfalso;omega)|(refine hQ_ _ _ ?_;clear hQ_ Q_))|(refine hQ_ _ _ ?_;clear hQ_ Q_)|(refine zPz (csL) ?_;refine hQ_ _ _ ?_;clear hQ_ Q_)))
  | (refine zHy fun K_ hK_=>?_;simp (disch:=omega) only [zFv,zAz,zHx,↓reduceIte,reduceCtorEq,Nat.reduceEqDiff,Nat.reduceLT];refine hK_ _ ?_;clear hK_ K_)))
      exact zKz (L+1) (by omega) ⟨hlt,by simp only [zAz,↓reduceIte,reduceCtorEq,Nat.reduceEqDiff];exact g0,by simp only [zAz,↓reduceIte,reduceCtorEq,Nat.reduceEqDiff];rfl,rfl,rfl⟩
    · have hLe:L=C:=by omega
      rw [decide_eq_true hLe] at csL
      subst hLe
      (repeat' (first
  | (with_reducible first|refine zJx ?_|refine zGv ?_|refine zFz ?_|refine zEv ?_|refine zFy ?_|refine zJw ?_|refine zHz ?_|refine zCz ?_|refine zDw ?_|refine zCy ?_|refine zCv ?_|refine zEx ?_|refine zDz ?_|refine zCx ?_|refine zBx ?_|refine zEz ?_|refine zEy ?_|refine zAw ?_|refine zBy ?_)
  | refine zDy ?_|refine zEw rfl ?_|refine zIv ?_|refine zJy ?_
  | ((first|refine zGw rfl rfl rfl rfl rfl fun K_ hK_=>?_|refine zGx rfl rfl rfl rfl rfl fun K_ hK_=>?_);simp only [zAz,zDx,zGz,↓reduceIte,reduceCtorEq,Nat.reduceEqDiff,Bool.not_true,Bool.not_false];refine hK_ _ ?_;clear hK_ K_)
  | refine zDv (by decide) ?_
  | ((try first|refine zKx rfl rfl rfl ?_|refine zIw rfl rfl ?_|refine zKw rfl rfl rfl ?_|refine zJz rfl rfl ?_);(refine zIx fun Q_ hQ_=>?_;simp (disch:=first|omega|(simp only [List.length_cons,List.length_nil,List.length_append];omega)) only [bb,bp,zKv,↓reduceIte,reduceCtorEq,Nat.reduceEqDiff,Nat.reduceLT,Nat.reduceLeDiff,Nat.reduceAdd,Nat.reduceMul,Nat.reduceSub,Nat.reduceBEq,Int.reduceToNat,cond_true,cond_false,eq_self,beq_self_eq_true,f1,f2,g0,g3,zFw wf,zGy wf,zBv wf,zFx wf,zAy wf,zAx,tEvZ31,zIy,zIz,zHv,zHw,zAv wf];first|(refine zCw (Q:=Q_) (fun hp_=>?_) (fun hp_=>?_) <;> first|(exfalso;omega)|(refine hQ_ _ _ ?_;clear hQ_ Q_))|(refine zBw (Q:=Q_) (fun hp_=>?_) (fun hp_=>?_) <;> first|(exfalso;omega)|(refine hQ_ _ _ ?_;clear hQ_ Q_))|(refine hQ_ _ _ ?_;clear hQ_ Q_)|(refine zPz (csL) ?_;refine hQ_ _ _ ?_;clear hQ_ Q_)))
  | (refine zHy fun K_ hK_=>?_;simp (disch:=omega) only [zFv,zAz,zHx,↓reduceIte,reduceCtorEq,Nat.reduceEqDiff,Nat.reduceLT];refine hK_ _ ?_;clear hK_ K_)))
      (refine zKy _ _ rfl (ret1 (by decide)) ?_;simp only [zAz,↓reduceIte,reduceCtorEq,Nat.reduceEqDiff];refine zLz rfl (by omega) ?_)
      exact ⟨rfl,rfl⟩
  · exact ⟨Nat.zero_le _,by simp only [zAz,↓reduceIte,reduceCtorEq,Nat.reduceEqDiff],by simp only [zAz,↓reduceIte,reduceCtorEq,Nat.reduceEqDiff];try rfl,rfl,rfl⟩
theorem rprofErr (xs:List Int) (a:AV) (h:H) (wf:Wf h) (hs:Sl h a 1 xs.length (xs.map ii)) (hne:errB xs≠0):(om Try.prog KK).call (.fn 24 [a]) h = .ok (.tup [.nils,ii (errB xs)]) h:=by
  obtain ⟨f1,f2⟩:=zPx hs
  have c1 : ∀ (l:List AO) (w:Nat),w≤h.clock+l.length→(om Try.prog KK).call (.fn 19 [a]) (X h l w) = .ok (ii (errB xs)) (X h l w):=fun l w hw=>rcheckBits xs a _ (wf.X hw) (hs.up wf l w)
  generalize errB xs=e at *
  refine zSx (zLx (fn:=Try.f24) Try.func24 rfl rfl rfl rfl rfl ?_)
  simp only [zKv]
  (repeat' (first
  | (with_reducible first|refine zJx ?_|refine zGv ?_|refine zFz ?_|refine zEv ?_|refine zFy ?_|refine zJw ?_|refine zHz ?_|refine zCz ?_|refine zDw ?_|refine zCy ?_|refine zCv ?_|refine zEx ?_|refine zDz ?_|refine zCx ?_|refine zBx ?_|refine zEz ?_|refine zEy ?_|refine zAw ?_|refine zBy ?_)
  | refine zDy ?_|refine zEw rfl ?_|refine zIv ?_|refine zJy ?_
  | ((first|refine zGw rfl rfl rfl rfl rfl fun K_ hK_=>?_|refine zGx rfl rfl rfl rfl rfl fun K_ hK_=>?_);simp only [zAz,zDx,zGz,↓reduceIte,reduceCtorEq,Nat.reduceEqDiff,Bool.not_true,Bool.not_false];refine hK_ _ ?_;clear hK_ K_)
  | refine zDv (by decide) ?_
  | ((try first|refine zKx rfl rfl rfl ?_|refine zIw rfl rfl ?_|refine zKw rfl rfl rfl ?_|refine zJz rfl rfl ?_);(refine zIx fun Q_ hQ_=>?_;simp (disch:=first|omega|(simp only [List.length_cons,List.length_nil,List.length_append];omega)) only [bb,bp,zKv,↓reduceIte,reduceCtorEq,Nat.reduceEqDiff,Nat.reduceLT,Nat.reduceLeDiff,Nat.reduceAdd,Nat.reduceMul,Nat.reduceSub,Nat.reduceBEq,Int.reduceToNat,cond_true,cond_false,eq_self,beq_self_eq_true,f1,f2,zFw wf,zGy wf,zBv wf,zFx wf,zAy wf,zAx,tEvZ31,zIy,zIz,zHv,zHw,zAv wf];first|(refine zCw (Q:=Q_) (fun hp_=>?_) (fun hp_=>?_) <;> first|(exfalso;omega)|(refine hQ_ _ _ ?_;clear hQ_ Q_))|(refine zBw (Q:=Q_) (fun hp_=>?_) (fun hp_=>?_) <;> first|(exfalso;omega)|(refine hQ_ _ _ ?_;clear hQ_ Q_))|(refine hQ_ _ _ ?_;clear hQ_ Q_)|(refine zPz (c1 _ _ (by first|omega|(simp only [List.length_append,List.length_cons,List.length_nil];omega))) ?_;refine hQ_ _ _ ?_;clear hQ_ Q_)))
  | (refine zHy fun K_ hK_=>?_;simp (disch:=omega) only [zFv,zAz,zHx,↓reduceIte,reduceCtorEq,Nat.reduceEqDiff,Nat.reduceLT];refine hK_ _ ?_;clear hK_ K_)))
  all_goals (refine zKy _ _ rfl (ret2 (by decide) (by decide)) ?_;simp only [zAz,↓reduceIte,reduceCtorEq,Nat.reduceEqDiff];refine zLz rfl (by omega) ?_)
  all_goals exact ⟨rfl,rfl⟩
theorem rProfile (xs:List Int) (he:errB xs=0) (F:List Nat) (hF:ProfOK (sq (bitL xs)) xs.length F) (a:AV) (hc:CapU 1 a) (h:H) (wf:Wf h) (hs:Sl h a 1 xs.length (xs.map ii)) :
    ∃ v M,(∀ J w,Sl (X h (M++J) w) v 1 F.length (F.map ni))∧(om Try.prog KK).call (.fn 24 [a]) h = .ok (.tup [v,ii 0]) (X h M h.w):=by
  suffices hW:WV ((om Try.prog KK).call (.fn 24 [a]) h) fun r h'=>∃ v M,(∀ J w,Sl (X h (M++J) w) v 1 F.length (F.map ni))∧r = .tup [v,ii 0]∧h'=X h M h.w by
    obtain ⟨r,h',e,v,M,h3,rfl,rfl⟩:=hW
    exact ⟨v,M,h3,e⟩
  obtain ⟨hx1,hx2⟩:=xDx he
  have hl : ∀ h',lenE Try.prog 22 a h'=some (ii (xs.length:Int)):=fun h'=>hs.len yRy
  obtain ⟨f1,f2⟩:=zPx hs
  have c1 : ∀ (l:List AO) (w:Nat),w≤h.clock+l.length→(om Try.prog KK).call (.fn 19 [a]) (X h l w) = .ok (ii 0) (X h l w):=fun l w hw=>by rw [rcheckBits xs a _ (wf.X hw) (hs.up wf l w),he]
  have hrz : ∀ id off l c esz,reszT Try.prog 22 (.sl id off l (some c) esz) = .sl id off l (some c) 1:=fun _ _ _ _ _=>yTz yRy sz_3
  have hFl:=hF.len
  refine zLx (fn:=Try.f24) Try.func24 rfl rfl rfl rfl rfl ?_
  simp only [zKv]
  (repeat' (first
  | (with_reducible first|refine zJx ?_|refine zGv ?_|refine zFz ?_|refine zEv ?_|refine zFy ?_|refine zJw ?_|refine zHz ?_|refine zCz ?_|refine zDw ?_|refine zCy ?_|refine zCv ?_|refine zEx ?_|refine zDz ?_|refine zCx ?_|refine zBx ?_|refine zEz ?_|refine zEy ?_|refine zAw ?_|refine zBy ?_)
  | refine zDy ?_|refine zEw rfl ?_|refine zIv ?_|refine zJy ?_
  | ((first|refine zGw rfl rfl rfl rfl rfl fun K_ hK_=>?_|refine zGx rfl rfl rfl rfl rfl fun K_ hK_=>?_);simp only [zAz,zDx,zGz,↓reduceIte,reduceCtorEq,Nat.reduceEqDiff,Bool.not_true,Bool.not_false];refine hK_ _ ?_;clear hK_ K_)
  | refine zDv (by decide) ?_
  | ((try first|refine zKx rfl rfl rfl ?_|refine zIw rfl rfl ?_|refine zKw rfl rfl rfl ?_|refine zJz rfl rfl ?_);(refine zIx fun Q_ hQ_=>?_;simp (disch:=first|omega|(simp only [List.length_cons,List.length_nil,List.length_append];omega)) only [bb,bp,zKv,↓reduceIte,reduceCtorEq,Nat.reduceEqDiff,Nat.reduceLT,Nat.reduceLeDiff,Nat.reduceAdd,Nat.reduceMul,Nat.reduceSub,Nat.reduceBEq,Int.reduceToNat,cond_true,cond_false,eq_self,beq_self_eq_true,hl,f1,f2,zFw wf,zGy wf,zBv wf,zFx wf,zAy wf,zAx,tEvZ31,zIy,zIz,zHv,zHw,zAv wf];first|(refine zCw (Q:=Q_) (fun hp_=>?_) (fun hp_=>?_) <;> first|(exfalso;omega)|(refine hQ_ _ _ ?_;clear hQ_ Q_))|(refine zBw (Q:=Q_) (fun hp_=>?_) (fun hp_=>?_) <;> first|(exfalso;omega)|(refine hQ_ _ _ ?_;clear hQ_ Q_))|(refine hQ_ _ _ ?_;clear hQ_ Q_)|(refine zPz (c1 _ _ (by first|omega|(simp only [List.length_append,List.length_cons,List.length_nil];omega))) ?_;refine hQ_ _ _ ?_;clear hQ_ Q_)))
  | (refine zHy fun K_ hK_=>?_;simp (disch:=omega) only [zFv,zAz,zHx,↓reduceIte,reduceCtorEq,Nat.reduceEqDiff,Nat.reduceLT];refine hK_ _ ?_;clear hK_ K_)))
  refine zOx (α:=Nat) (fun (i:Nat) f d h'=>i≤xs.length+1∧f 0=a∧f 5=ii (i:Int)∧d=[] ∧
    ∃ v M idx w,f 4=v∧Own h M idx ((F.take i).map ni) v∧h.clock≤w∧w≤h.clock+M.length∧h'=X h M w) (fun i=>xs.length+1 - i) ?_ (xs.length+2) 0 (by omega) ?_
  · rintro i f d h' ⟨hi,g0,g5,rfl,v,M,idx,w,g4,own,hw,hwl,rfl⟩
    obtain ⟨g41,g42⟩:=own.flat
    by_cases hlt:i<xs.length+1
    · obtain ⟨C,hFi,hCi⟩:=hF.cx i (by omega)
      have hCi:=cpx_congr hCi fun k hk=>(sq_bitL_take (xs:=xs) hk).symm
      have lc:(xs.take i).length=i:=by rw [List.length_take];omega
      obtain ⟨c,hcut,hsc,hcc⟩:=hs.cutTo (P:=Try.prog) (k:=i) (by omega) yRy sz_3 (by omega) hc
      rw [Nat.mul_one,← List.map_take] at hsc
      obtain ⟨fc1,fc2⟩:=zPx hsc
      have hle:(i:Int)≤(xs.length:Int):=by omega
      have cc:=rComplexity (xs.take i) (errB_take i he) C (by rw [lc];exact hCi) c (X h M w) (wf.X hwl) (by rw [lc];exact hsc.up wf _ _)
      have hlen4:((F.take i).map ni).length=i:=by rw [List.length_map,List.length_take];omega
      obtain ⟨v',M2,own',hl2,hk2,happ⟩:=own.app wf (ni C) rfl (by rw [hlen4];omega)
      obtain ⟨w2,hw21,hw22,happ⟩:=happ w hw
      have eq1:(F.take (i+1)).map ni=(F.take i).map ni++[ni C]:=by
        rw [List.take_succ_eq_append_getElem (by omega),List.map_append]
        have:F[i]'(by omega)=C:=by
          have:=List.getElem?_eq_getElem (l:=F) (i:=i) (by omega)
          rw [hFi] at this
          injection this with this
          exact this.symm
        rw [this];rfl
      rw [← eq1] at own'
      obtain ⟨g43,g44⟩:=own'.flat
      (repeat' (first
  | (with_reducible first|refine zJx ?_|refine zGv ?_|refine zFz ?_|refine zEv ?_|refine zFy ?_|refine zJw ?_|refine zHz ?_|refine zCz ?_|refine zDw ?_|refine zCy ?_|refine zCv ?_|refine zEx ?_|refine zDz ?_|refine zCx ?_|refine zBx ?_|refine zEz ?_|refine zEy ?_|refine zAw ?_|refine zBy ?_)
  | refine zDy ?_|refine zEw rfl ?_|refine zIv ?_|refine zJy ?_
  | ((first|refine zGw rfl rfl rfl rfl rfl fun K_ hK_=>?_|refine zGx rfl rfl rfl rfl rfl fun K_ hK_=>?_);simp only [zAz,zDx,zGz,↓reduceIte,reduceCtorEq,Nat.reduceEqDiff,Bool.not_true,Bool.not_false];refine hK_ _ ?_;clear hK_ K_)
  | refine zDv (by decide) ?_
  | ((try first|refine zKx rfl rfl rfl ?_|refine zIw rfl rfl ?_|refine zKw rfl rfl rfl ?_|refine zJz rfl rfl ?_);(refine zIx fun Q_ hQ_=>?_;simp (disch:=first|omega|(simp only [List.length_cons,List.length_nil,List.length_append];omega)) only [bb,bp,zKv,↓reduceIte,reduceCtorEq,Nat.reduceEqDiff,Nat.reduceLT,Nat.reduceLeDiff,Nat.reduceAdd,Nat.reduceMul,Nat.reduceSub,Nat.reduceBEq,Int.reduceToNat,cond_true,cond_false,eq_self,beq_self_eq_true,hl,f1,f2,fc1,fc2,g0,g4,g5,g41,g42,g43,g44,hcut,hle,happ,hrz,zQv,zFw wf,zGy wf,zBv wf,zFx wf,zAy wf,zAx,tEvZ31,zIy,zIz,zHv,zHw,zAv wf];first|(refine zCw (Q:=Q_) (fun hp_=>?_) (fun hp_=>?_) <;> first|(exfalso;omega)|(refine hQ_ _ _ ?_;clear hQ_ Q_))|(refine zBw (Q:=Q_) (fun hp_=>?_) (fun hp_=>?_) <;> first|(exfalso;omega)|(refine hQ_ _ _ ?_;clear hQ_ Q_))|(refine hQ_ _ _ ?_;clear hQ_ Q_)|(refine zPz (cc) ?_;refine hQ_ _ _ ?_;clear hQ_ Q_)))
  | (refine zHy fun K_ hK_=>?_;simp (disch:=omega) only [zFv,zAz,zHx,↓reduceIte,reduceCtorEq,Nat.reduceEqDiff,Nat.reduceLT];refine hK_ _ ?_;clear hK_ K_)))
      exact zKz (i+1) (by omega) ⟨by omega,by simp only [zAz,↓reduceIte,reduceCtorEq,Nat.reduceEqDiff];exact g0,by simp only [zAz,↓reduceIte,reduceCtorEq,Nat.reduceEqDiff];rfl,rfl,v',M2,_,w2,by simp only [zAz,↓reduceIte,reduceCtorEq,Nat.reduceEqDiff],own',hw21,by omega,rfl⟩
    · have hie:i=xs.length+1:=by omega
      subst hie
      have hnle : ¬ ((xs.length+1:Nat):Int)≤(xs.length:Int):=by omega
      (repeat' (first
  | (with_reducible first|refine zJx ?_|refine zGv ?_|refine zFz ?_|refine zEv ?_|refine zFy ?_|refine zJw ?_|refine zHz ?_|refine zCz ?_|refine zDw ?_|refine zCy ?_|refine zCv ?_|refine zEx ?_|refine zDz ?_|refine zCx ?_|refine zBx ?_|refine zEz ?_|refine zEy ?_|refine zAw ?_|refine zBy ?_)
  | refine zDy ?_|refine zEw rfl ?_|refine zIv ?_|refine zJy ?_
  | ((first|refine zGw rfl rfl rfl rfl rfl fun K_ hK_=>?_|refine zGx rfl rfl rfl rfl rfl fun K_ hK_=>?_);simp only [zAz,zDx,zGz,↓reduceIte,reduceCtorEq,Nat.reduceEqDiff,Bool.not_true,Bool.not_false];refine hK_ _ ?_;clear hK_ K_)
  | refine zDv (by decide) ?_
  | ((try first|refine zKx rfl rfl rfl ?_|refine zIw rfl rfl ?_|refine zKw rfl rfl rfl ?_|refine zJz rfl rfl ?_);(refine zIx fun Q_ hQ_=>?_;simp (disch:=first|omega|(simp only [List.length_cons,List.length_nil,List.length_append];omega)) only [bb,bp,zKv,↓reduceIte,reduceCtorEq,Nat.reduceEqDiff,Nat.reduceLT,Nat.reduceLeDiff,Nat.reduceAdd,Nat.reduceMul,Nat.reduceSub,Nat.reduceBEq,Int.reduceToNat,cond_true,cond_false,eq_self,beq_self_eq_true,hl,f1,f2,g0,g4,g5,g41,g42,hnle,zFw wf,zGy wf,zBv wf,zFx wf,zAy wf,zAx,tEvZ31,zIy,zIz,zHv,zHw,zAv wf];first|(refine zCw (Q:=Q_) (fun hp_=>?_) (fun hp_=>?_) <;> first|(exfalso;omega)|(refine hQ_ _ _ ?_;clear hQ_ Q_))|(refine zBw (Q:=Q_) (fun hp_=>?_) (fun hp_=>?_) <;> first|(exfalso;omega)|(refine hQ_ _ _ ?_;clear hQ_ Q_))|(refine hQ_ _ _ ?_;clear hQ_ Q_)))
  | (refine zHy fun K_ hK_=>?_;simp (disch:=omega) only [zFv,zAz,zHx,↓reduceIte,reduceCtorEq,Nat.reduceEqDiff,Nat.reduceLT];refine hK_ _ ?_;clear hK_ K_)))
      rw [List.take_of_length_le (by omega)] at own
      rcases own with ⟨h0,_⟩|⟨_,rfl,hM⟩
      · have:=congrArg List.length h0
        rw [List.length_map,hFl] at this
        exact absurd this (by simp)
      refine zKy _ _ rfl (ret2 (by decide) (by decide)) ?_
      simp only [zAz,↓reduceIte,reduceCtorEq,Nat.reduceEqDiff]
      refine xUz wf (by omega) (fun hfl=>absurd (show false=true from hfl) (by decide)) (fun _=>?_)
      refine ⟨_,M,fun J w=>?_,rfl,rfl⟩
      have e2:(M++J)[idx]? = some (.cells (zBz (F.map ni)) 3):=by rw [List.getElem?_append_left (zLw hM)];exact hM
      have:=Sl.new (w:=w) (cap:=none) (esz:=1) (len:=F.length) (m:=1) wf (by rw [Nat.mul_one,List.length_map]) e2
      rw [List.length_map]
      exact this
  · exact ⟨Nat.zero_le _,by simp only [zAz,↓reduceIte,reduceCtorEq,Nat.reduceEqDiff],by simp only [zAz,↓reduceIte,reduceCtorEq,Nat.reduceEqDiff];try rfl,rfl,.nils,[],0,h.clock,by simp only [zAz,↓reduceIte,reduceCtorEq,Nat.reduceEqDiff],.inl ⟨by rw [List.take_zero];rfl,rfl⟩,Nat.le_refl _,Nat.le_refl _,rfl⟩
end Go.Proofs.Ytmincoafjnnkpaa
end

section
namespace Go.Proofs.Ytmincoafjnnkpaa
open Go.Ev
set_option maxRecDepth 100000
set_option linter.unusedSimpArgs false
set_option linter.unusedVariables false
set_option maxHeartbeats 2000000
noncomputable def wr (T L:Nat) (s:Nat→Bool) (n:Nat):Nat:=by
  classical
  exact if h : ∃ r,WrongAt T L s n r then Classical.choose h else 0
def rightB (T L:Nat) (s:Nat→Bool) (q:Nat):Bool:=decide (L≤q) && (makesB T L s q && !makesB T L s (q+1))
def cpV (xs ts:List Int) (q:Int):Int × Int:=if err2 xs ts=0 then (if q<0∨(xs.length:Int)≤q then (0,3) else if rightB (bN (bitL ts)) ts.length (sq (bitL xs)) q.toNat then (q+1 - (ts.length:Int),0) else (0,14)) else (0,err2 xs ts)
end Go.Proofs.Ytmincoafjnnkpaa
end

section
namespace Go.Proofs.Ytmincoafjnnkpaa
open Go.Ev
set_option maxRecDepth 100000
set_option linter.unusedSimpArgs false
set_option linter.unusedVariables false
set_option maxHeartbeats 2000000
end Go.Proofs.Ytmincoafjnnkpaa
end

section
namespace Go.Proofs.Ytmincoafjnnkpaa
open Go.Ev
set_option maxRecDepth 100000
set_option linter.unusedSimpArgs false
set_option linter.unusedVariables false
set_option maxHeartbeats 2000000
end Go.Proofs.Ytmincoafjnnkpaa
end

section
namespace Go.Proofs.Ytmincoafjnnkpaa
open Go.Ev
set_option maxRecDepth 100000
set_option linter.unusedSimpArgs false
set_option linter.unusedVariables false
set_option maxHeartbeats 2000000
end Go.Proofs.Ytmincoafjnnkpaa
end

section
namespace Go.Proofs.Ytmincoafjnnkpaa
open Go.Ev
set_option maxRecDepth 100000
set_option linter.unusedSimpArgs false
set_option linter.unusedVariables false
set_option maxHeartbeats 2000000
theorem tEvZ32 :type_of% (And.intro (And.intro (And.intro (And.intro (And.intro (And.intro (And.intro (@yQv) (@yQw)) (And.intro (@yQx) (@yQy))) (And.intro (And.intro (@yQz) (@yPv)) (And.intro (@ia_2) (And.intro (@ia_3) (@ia_4))))) (And.intro (And.intro (And.intro (@ia_5) (@yPw)) (And.intro (@yPx) (@yPy))) (And.intro (And.intro (@yPz) (@yOv)) (And.intro (@yOw) (And.intro (@zSy) (@yOx)))))) (And.intro (And.intro (And.intro (And.intro (@yOy) (@yOz)) (And.intro (@yNv) (@yNw))) (And.intro (And.intro (@yNx) (@yNy)) (And.intro (@yNz) (And.intro (@yMv) (@sz_2))))) (And.intro (And.intro (And.intro (@sz_3) (@sz_4)) (And.intro (@sz_5) (And.intro (@zRy) (@zZy)))) (And.intro (And.intro (@zZz) (@zYv)) (And.intro (@zYw) (And.intro (@zYx) (@zRw))))))) (And.intro (And.intro (And.intro (And.intro (And.intro (@zYy) (@zYz)) (And.intro (@zXv) (@zQx))) (And.intro (And.intro (@zXw) (@zXx)) (And.intro (@zXy) (And.intro (@zXz) (@zWv))))) (And.intro (And.intro (And.intro (@ze_2) (@ze_3)) (And.intro (@ze_4) (And.intro (@ze_5) (@zWw)))) (And.intro (And.intro (@zWx) (@zWy)) (And.intro (@zWz) (And.intro (@zVv) (@zVw)))))) (And.intro (And.intro (And.intro (And.intro (@zVx) (@zVy)) (And.intro (@zVz) (@zUv))) (And.intro (And.intro (@zUw) (@zUx)) (And.intro (@zUy) (And.intro (@zUz) (@zTv))))) (And.intro (And.intro (And.intro (@zNw) (@zNx)) (And.intro (@zNy) (And.intro (@zNz) (@zMv)))) (And.intro (And.intro (@zMw) (@zMx)) (And.intro (@zMy) (And.intro (@zMz) (@yMw)))))))) (And.intro (And.intro (And.intro (And.intro (And.intro (And.intro (@yMx) (@yMy)) (And.intro (@yMz) (@yLv))) (And.intro (And.intro (@yLw) (@yLx)) (And.intro (@yLy) (And.intro (@yLz) (@yKv))))) (And.intro (And.intro (And.intro (@yKw) (@yKx)) (And.intro (@yKy) (@yKz))) (And.intro (And.intro (@yJv) (@yJw)) (And.intro (@yJx) (And.intro (@yJy) (@yJz)))))) (And.intro (And.intro (And.intro (And.intro (@yIv) (@yIw)) (And.intro (@yIx) (@yIy))) (And.intro (And.intro (@yIz) (@yHv)) (And.intro (@yHw) (And.intro (@yHx) (@yHy))))) (And.intro (And.intro (And.intro (@yHz) (@yGv)) (And.intro (@yGw) (And.intro (@yGx) (@yGy)))) (And.intro (And.intro (@yGz) (@yFv)) (And.intro (@yFw) (And.intro (@yFx) (@yFy))))))) (And.intro (And.intro (And.intro (And.intro (And.intro (@yFz) (@yEv)) (And.intro (@yEw) (@yEx))) (And.intro (And.intro (@yEy) (@yEz)) (And.intro (@yDv) (And.intro (@yDw) (@yDx))))) (And.intro (And.intro (And.intro (@yDy) (@yDz)) (And.intro (@yCv) (And.intro (@yCw) (@yCx)))) (And.intro (And.intro (@zSv) (@yCy)) (And.intro (@yCz) (And.intro (@yBv) (@yBw)))))) (And.intro (And.intro (And.intro (And.intro (@yBx) (@yBy)) (And.intro (@yBz) (@yAv))) (And.intro (And.intro (@yAw) (@yAx)) (And.intro (@yAy) (And.intro (@yAz) (@zZv))))) (And.intro (And.intro (And.intro (@zZw) (@zZx)) (And.intro (@zPw) (And.intro (@zTw) (@zTx)))) (And.intro (And.intro (@zRz) (@zTy)) (And.intro (@zQv) (And.intro (@zTz) (@zSz))))))))):=And.intro (And.intro (And.intro (And.intro (And.intro (And.intro (And.intro (@yQv) (@yQw)) (And.intro (@yQx) (@yQy))) (And.intro (And.intro (@yQz) (@yPv)) (And.intro (@ia_2) (And.intro (@ia_3) (@ia_4))))) (And.intro (And.intro (And.intro (@ia_5) (@yPw)) (And.intro (@yPx) (@yPy))) (And.intro (And.intro (@yPz) (@yOv)) (And.intro (@yOw) (And.intro (@zSy) (@yOx)))))) (And.intro (And.intro (And.intro (And.intro (@yOy) (@yOz)) (And.intro (@yNv) (@yNw))) (And.intro (And.intro (@yNx) (@yNy)) (And.intro (@yNz) (And.intro (@yMv) (@sz_2))))) (And.intro (And.intro (And.intro (@sz_3) (@sz_4)) (And.intro (@sz_5) (And.intro (@zRy) (@zZy)))) (And.intro (And.intro (@zZz) (@zYv)) (And.intro (@zYw) (And.intro (@zYx) (@zRw))))))) (And.intro (And.intro (And.intro (And.intro (And.intro (@zYy) (@zYz)) (And.intro (@zXv) (@zQx))) (And.intro (And.intro (@zXw) (@zXx)) (And.intro (@zXy) (And.intro (@zXz) (@zWv))))) (And.intro (And.intro (And.intro (@ze_2) (@ze_3)) (And.intro (@ze_4) (And.intro (@ze_5) (@zWw)))) (And.intro (And.intro (@zWx) (@zWy)) (And.intro (@zWz) (And.intro (@zVv) (@zVw)))))) (And.intro (And.intro (And.intro (And.intro (@zVx) (@zVy)) (And.intro (@zVz) (@zUv))) (And.intro (And.intro (@zUw) (@zUx)) (And.intro (@zUy) (And.intro (@zUz) (@zTv))))) (And.intro (And.intro (And.intro (@zNw) (@zNx)) (And.intro (@zNy) (And.intro (@zNz) (@zMv)))) (And.intro (And.intro (@zMw) (@zMx)) (And.intro (@zMy) (And.intro (@zMz) (@yMw)))))))) (And.intro (And.intro (And.intro (And.intro (And.intro (And.intro (@yMx) (@yMy)) (And.intro (@yMz) (@yLv))) (And.intro (And.intro (@yLw) (@yLx)) (And.intro (@yLy) (And.intro (@yLz) (@yKv))))) (And.intro (And.intro (And.intro (@yKw) (@yKx)) (And.intro (@yKy) (@yKz))) (And.intro (And.intro (@yJv) (@yJw)) (And.intro (@yJx) (And.intro (@yJy) (@yJz)))))) (And.intro (And.intro (And.intro (And.intro (@yIv) (@yIw)) (And.intro (@yIx) (@yIy))) (And.intro (And.intro (@yIz) (@yHv)) (And.intro (@yHw) (And.intro (@yHx) (@yHy))))) (And.intro (And.intro (And.intro (@yHz) (@yGv)) (And.intro (@yGw) (And.intro (@yGx) (@yGy)))) (And.intro (And.intro (@yGz) (@yFv)) (And.intro (@yFw) (And.intro (@yFx) (@yFy))))))) (And.intro (And.intro (And.intro (And.intro (And.intro (@yFz) (@yEv)) (And.intro (@yEw) (@yEx))) (And.intro (And.intro (@yEy) (@yEz)) (And.intro (@yDv) (And.intro (@yDw) (@yDx))))) (And.intro (And.intro (And.intro (@yDy) (@yDz)) (And.intro (@yCv) (And.intro (@yCw) (@yCx)))) (And.intro (And.intro (@zSv) (@yCy)) (And.intro (@yCz) (And.intro (@yBv) (@yBw)))))) (And.intro (And.intro (And.intro (And.intro (@yBx) (@yBy)) (And.intro (@yBz) (@yAv))) (And.intro (And.intro (@yAw) (@yAx)) (And.intro (@yAy) (And.intro (@yAz) (@zZv))))) (And.intro (And.intro (And.intro (@zZw) (@zZx)) (And.intro (@zPw) (And.intro (@zTw) (@zTx)))) (And.intro (And.intro (@zRz) (@zTy)) (And.intro (@zQv) (And.intro (@zTz) (@zSz))))))))
theorem ni_ii (F:List Nat):F.map ni=(F.map fun n:Nat=>(n:Int)).map ii:=by rw [List.map_map];rfl
theorem lawShort (xs:List Int) (a:AV) (ha:CapU 1 a) (h:H) (wf:Wf h) (hs:Sl h a 1 xs.length (xs.map ii)) :
    (om Try.prog KK).call (.fn 4 [a]) h = .ok (.bool true) h:=by
  have hl : ∀ h',lenE Try.prog 22 a h'=some (ii (xs.length:Int)):=fun h'=>hs.len yRy
  obtain ⟨f1,f2⟩:=zPx hs
  refine zSx (zLx (fn:=Try.f4) Try.func4 rfl rfl rfl rfl rfl ?_)
  simp only [zKv]
  by_cases hbig:(24<xs.length∧xs.length≤128)∨140<xs.length
  · rcases hbig with ⟨h1,h2⟩|h1
    · (repeat' (first
  | (with_reducible first|refine zJx ?_|refine zGv ?_|refine zFz ?_|refine zEv ?_|refine zFy ?_|refine zJw ?_|refine zHz ?_|refine zCz ?_|refine zDw ?_|refine zCy ?_|refine zCv ?_|refine zEx ?_|refine zDz ?_|refine zCx ?_|refine zBx ?_|refine zEz ?_|refine zEy ?_|refine zAw ?_|refine zBy ?_)
  | refine zDy ?_|refine zEw rfl ?_|refine zIv ?_|refine zJy ?_
  | ((first|refine zGw rfl rfl rfl rfl rfl fun K_ hK_=>?_|refine zGx rfl rfl rfl rfl rfl fun K_ hK_=>?_);simp only [zAz,zDx,zGz,↓reduceIte,reduceCtorEq,Nat.reduceEqDiff,Bool.not_true,Bool.not_false];refine hK_ _ ?_;clear hK_ K_)
  | refine zDv (by decide) ?_
  | ((try first|refine zKx rfl rfl rfl ?_|refine zIw rfl rfl ?_|refine zKw rfl rfl rfl ?_|refine zJz rfl rfl ?_);(refine zIx fun Q_ hQ_=>?_;simp (disch:=first|omega|(simp only [List.length_cons,List.length_nil,List.length_append];omega)) only [bb,bp,zKv,↓reduceIte,reduceCtorEq,Nat.reduceEqDiff,Nat.reduceLT,Nat.reduceLeDiff,Nat.reduceAdd,Nat.reduceMul,Nat.reduceSub,Nat.reduceBEq,Int.reduceToNat,cond_true,cond_false,eq_self,beq_self_eq_true,hl,f1,f2,zFw wf,zGy wf,zBv wf,zFx wf,zAy wf,zAx,tEvZ32,zIy,zIz,zHv,zHw,zAv wf];first|(refine zCw (Q:=Q_) (fun hp_=>?_) (fun hp_=>?_) <;> first|(exfalso;omega)|(refine hQ_ _ _ ?_;clear hQ_ Q_))|(refine zBw (Q:=Q_) (fun hp_=>?_) (fun hp_=>?_) <;> first|(exfalso;omega)|(refine hQ_ _ _ ?_;clear hQ_ Q_))|(refine hQ_ _ _ ?_;clear hQ_ Q_)|(refine zPz (works _) ?_;refine hQ_ _ _ ?_;clear hQ_ Q_)))
  | (refine zHy fun K_ hK_=>?_;simp (disch:=omega) only [zFv,zAz,zHx,↓reduceIte,reduceCtorEq,Nat.reduceEqDiff,Nat.reduceLT];refine hK_ _ ?_;clear hK_ K_)))
      all_goals (refine zKy _ _ rfl (ret1 (by decide)) ?_;simp only [zAz,↓reduceIte,reduceCtorEq,Nat.reduceEqDiff];refine zLz rfl (by omega) ?_)
      all_goals exact ⟨rfl,rfl⟩
    · (repeat' (first
  | (with_reducible first|refine zJx ?_|refine zGv ?_|refine zFz ?_|refine zEv ?_|refine zFy ?_|refine zJw ?_|refine zHz ?_|refine zCz ?_|refine zDw ?_|refine zCy ?_|refine zCv ?_|refine zEx ?_|refine zDz ?_|refine zCx ?_|refine zBx ?_|refine zEz ?_|refine zEy ?_|refine zAw ?_|refine zBy ?_)
  | refine zDy ?_|refine zEw rfl ?_|refine zIv ?_|refine zJy ?_
  | ((first|refine zGw rfl rfl rfl rfl rfl fun K_ hK_=>?_|refine zGx rfl rfl rfl rfl rfl fun K_ hK_=>?_);simp only [zAz,zDx,zGz,↓reduceIte,reduceCtorEq,Nat.reduceEqDiff,Bool.not_true,Bool.not_false];refine hK_ _ ?_;clear hK_ K_)
  | refine zDv (by decide) ?_
  | ((try first|refine zKx rfl rfl rfl ?_|refine zIw rfl rfl ?_|refine zKw rfl rfl rfl ?_|refine zJz rfl rfl ?_);(refine zIx fun Q_ hQ_=>?_;simp (disch:=first|omega|(simp only [List.length_cons,List.length_nil,List.length_append];omega)) only [bb,bp,zKv,↓reduceIte,reduceCtorEq,Nat.reduceEqDiff,Nat.reduceLT,Nat.reduceLeDiff,Nat.reduceAdd,Nat.reduceMul,Nat.reduceSub,Nat.reduceBEq,Int.reduceToNat,cond_true,cond_false,eq_self,beq_self_eq_true,hl,f1,f2,zFw wf,zGy wf,zBv wf,zFx wf,zAy wf,zAx,tEvZ32,zIy,zIz,zHv,zHw,zAv wf];first|(refine zCw (Q:=Q_) (fun hp_=>?_) (fun hp_=>?_) <;> first|(exfalso;omega)|(refine hQ_ _ _ ?_;clear hQ_ Q_))|(refine zBw (Q:=Q_) (fun hp_=>?_) (fun hp_=>?_) <;> first|(exfalso;omega)|(refine hQ_ _ _ ?_;clear hQ_ Q_))|(refine hQ_ _ _ ?_;clear hQ_ Q_)|(refine zPz (works _) ?_;refine hQ_ _ _ ?_;clear hQ_ Q_)))
  | (refine zHy fun K_ hK_=>?_;simp (disch:=omega) only [zFv,zAz,zHx,↓reduceIte,reduceCtorEq,Nat.reduceEqDiff,Nat.reduceLT];refine hK_ _ ?_;clear hK_ K_)))
      all_goals (refine zKy _ _ rfl (ret1 (by decide)) ?_;simp only [zAz,↓reduceIte,reduceCtorEq,Nat.reduceEqDiff];refine zLz rfl (by omega) ?_)
      all_goals exact ⟨rfl,rfl⟩
  · by_cases hx:errB xs=0
    · obtain ⟨hx1,hx2⟩:=xDx hx
      have hsm:xs.length≤24:=by omega
      obtain ⟨F,v,M,hF,hcv,hsv,e⟩:=profile xs hx a ha (X h [] h.clock) (wf.X (by simp)) (hs.up wf _ _)
      rw [X_X,X_w,List.nil_append] at e
      simp only [X_X,List.nil_append] at hsv
      have hFl:=hF.len
      obtain ⟨fv1,fv2⟩:=zPx (hsv [] 0)
      obtain ⟨v2,M2,hsv2,e2⟩:=rProfile xs hx F hF a ha (X h M h.clock) (wf.X (by omega)) (hs.up wf _ _)
      rw [X_X,X_w] at e2
      simp only [X_X] at hsv2
      obtain ⟨fw1,fw2⟩:=zPx (hsv2 [] 0)
      obtain ⟨T,L,M3,v3,q3,t3,k3,m3,c3,s3,e3⟩:=short_any xs hx a ha (X h (M++M2) h.clock) (wf.X (by omega)) (hs.up wf _ _)
      rw [X_X,X_w,List.append_assoc] at e3
      simp only [X_X,List.append_assoc] at s3 hsv2
      obtain ⟨fs1,fs2⟩:=zPx (s3 [] 0)
      have hlv3 : ∀ h',lenE Try.prog 22 v3 h'=some (ii (L:Int)):=fun h'=>by have:=(s3 [] 0).len (P:=Try.prog) (h':=h') yRy;rwa [tapI_len] at this
      have wf3 : ∀ w,w≤h.clock+(M.length+(M2.length+M3.length))→Wf (X h (M++(M2++M3)) w):=fun w hw=>wf.X (by simp only [List.length_append];omega)
      have ci:(om Try.prog KK).call (.fn 20 [v,v2]) (X h (M++(M2++M3)) h.clock) = .ok (.bool true) (X h (M++(M2++M3)) h.clock):=by
        have r1:=hsv (M2++M3) h.clock
        have r2:=hsv2 M3 h.clock
        rw [ni_ii] at r1 r2
        have hlm:F.length=(F.map fun n:Nat=>(n:Int)).length:=by rw [List.length_map]
        rw [hlm] at r1 r2
        have:=ints _ _ (by rw [List.length_map];omega) v v2 _ (wf3 h.clock (by omega)) r1 r2
        rw [this,decide_eq_true rfl]
      obtain ⟨C,hFn,hCn⟩:=hF.cx xs.length (Nat.le_refl _)
      have hCL:C=L:=hCn.unique q3
      subst hCL
      obtain ⟨id,off,hix,hld⟩:=(hsv2 M3 h.clock).at1 (wf3 h.clock (by omega)) (i:=xs.length) (by omega) zPw
      have hld : ∀ w,load1 id off (X h (M++(M2++M3)) w)=some (ii (C:Int)):=fun w=>by
        have:=hld [] w
        rw [X_X,List.append_nil] at this
        rw [this,List.getElem?_map,hFn];rfl
      have hte:errB (tapI T C)=0:=errB_tapI (by omega)
      have er0:errReg xs (tapI T C)=0:=by
        rw [errReg_ok hx hte,regE_zero,tapI_bitL,bN_bitsL t3,xBw,zNv]
        exact m3
      have cr:(om Try.prog KK).call (.fn 22 [a,v3]) (X h (M++(M2++M3)) h.clock) = .ok (ii 0) (X h (M++(M2++M3)) h.clock):=by
        have s3n:=s3 [] h.clock
        rw [List.append_nil] at s3n
        rw [rcheckRegister xs (tapI T C) a v3 ha _ (wf3 h.clock (by omega)) (hs.up wf _ _) s3n,er0]
      (repeat' (first
  | (with_reducible first|refine zJx ?_|refine zGv ?_|refine zFz ?_|refine zEv ?_|refine zFy ?_|refine zJw ?_|refine zHz ?_|refine zCz ?_|refine zDw ?_|refine zCy ?_|refine zCv ?_|refine zEx ?_|refine zDz ?_|refine zCx ?_|refine zBx ?_|refine zEz ?_|refine zEy ?_|refine zAw ?_|refine zBy ?_)
  | refine zDy ?_|refine zEw rfl ?_|refine zIv ?_|refine zJy ?_
  | ((first|refine zGw rfl rfl rfl rfl rfl fun K_ hK_=>?_|refine zGx rfl rfl rfl rfl rfl fun K_ hK_=>?_);simp only [zAz,zDx,zGz,↓reduceIte,reduceCtorEq,Nat.reduceEqDiff,Bool.not_true,Bool.not_false];refine hK_ _ ?_;clear hK_ K_)
  | refine zDv (by decide) ?_
  | ((try first|refine zKx rfl rfl rfl ?_|refine zIw rfl rfl ?_|refine zKw rfl rfl rfl ?_|refine zJz rfl rfl ?_);(refine zIx fun Q_ hQ_=>?_;simp (disch:=first|omega|(simp only [List.length_cons,List.length_nil,List.length_append];omega)) only [bb,bp,zKv,↓reduceIte,reduceCtorEq,Nat.reduceEqDiff,Nat.reduceLT,Nat.reduceLeDiff,Nat.reduceAdd,Nat.reduceMul,Nat.reduceSub,Nat.reduceBEq,Int.reduceToNat,cond_true,cond_false,eq_self,beq_self_eq_true,hl,hlv3,f1,f2,fv1,fv2,fw1,fw2,fs1,fs2,hix,hld,zFw wf,zGy wf,zBv wf,zFx wf,zAy wf,zAx,tEvZ32,zIy,zIz,zHv,zHw,zAv wf];first|(refine zCw (Q:=Q_) (fun hp_=>?_) (fun hp_=>?_) <;> first|(exfalso;omega)|(refine hQ_ _ _ ?_;clear hQ_ Q_))|(refine zBw (Q:=Q_) (fun hp_=>?_) (fun hp_=>?_) <;> first|(exfalso;omega)|(refine hQ_ _ _ ?_;clear hQ_ Q_))|(refine hQ_ _ _ ?_;clear hQ_ Q_)|(refine zPz (e) ?_;refine hQ_ _ _ ?_;clear hQ_ Q_)|(refine zPz (e2) ?_;refine hQ_ _ _ ?_;clear hQ_ Q_)|(refine zPz (e3) ?_;refine hQ_ _ _ ?_;clear hQ_ Q_)|(refine zPz (ci) ?_;refine hQ_ _ _ ?_;clear hQ_ Q_)|(refine zPz (cr) ?_;refine hQ_ _ _ ?_;clear hQ_ Q_)|(refine zPz (works _) ?_;refine hQ_ _ _ ?_;clear hQ_ Q_)))
  | (refine zHy fun K_ hK_=>?_;simp (disch:=omega) only [zFv,zAz,zHx,↓reduceIte,reduceCtorEq,Nat.reduceEqDiff,Nat.reduceLT];refine hK_ _ ?_;clear hK_ K_)))
      all_goals (refine zKy _ _ rfl (ret1 (by decide)) ?_;simp only [zAz,↓reduceIte,reduceCtorEq,Nat.reduceEqDiff];refine zLz rfl (by omega) ?_)
      all_goals exact ⟨rfl,rfl⟩
    · have c1 : ∀ (l:List AO) (w:Nat),w≤h.clock+l.length→(om Try.prog KK).call (.fn 23 [a]) (X h l w) = .ok (.tup [.nils,ii (errB xs)]) (X h l w):=fun l w hw=>profErr xs a _ (wf.X hw) (hs.up wf l w) hx
      have c2 : ∀ (l:List AO) (w:Nat),w≤h.clock+l.length→(om Try.prog KK).call (.fn 24 [a]) (X h l w) = .ok (.tup [.nils,ii (errB xs)]) (X h l w):=fun l w hw=>rprofErr xs a _ (wf.X hw) (hs.up wf l w) hx
      have c3 : ∀ (l:List AO) (w:Nat),w≤h.clock+l.length→(om Try.prog KK).call (.fn 25 [a]) (X h l w) = .ok (.tup [.nils,ii (errB xs)]) (X h l w):=fun l w hw=>shortErr xs a _ (wf.X hw) (hs.up wf l w) hx
      have c4 : ∀ (l:List AO) (w:Nat),w≤h.clock+l.length→(om Try.prog KK).call (.fn 20 [.nils,.nils]) (X h l w) = .ok (.bool true) (X h l w):=fun l w hw=>ints [] [] (by simp) .nils .nils _ (wf.X hw) (Sl.nil _ _) (Sl.nil _ _)
      have hln : ∀ h',lenE Try.prog 22 .nils h'=some (.int .i64 0):=fun h'=>(Sl.nil h 1).len yRy
      generalize errB xs=er at *
      (repeat' (first
  | (with_reducible first|refine zJx ?_|refine zGv ?_|refine zFz ?_|refine zEv ?_|refine zFy ?_|refine zJw ?_|refine zHz ?_|refine zCz ?_|refine zDw ?_|refine zCy ?_|refine zCv ?_|refine zEx ?_|refine zDz ?_|refine zCx ?_|refine zBx ?_|refine zEz ?_|refine zEy ?_|refine zAw ?_|refine zBy ?_)
  | refine zDy ?_|refine zEw rfl ?_|refine zIv ?_|refine zJy ?_
  | ((first|refine zGw rfl rfl rfl rfl rfl fun K_ hK_=>?_|refine zGx rfl rfl rfl rfl rfl fun K_ hK_=>?_);simp only [zAz,zDx,zGz,↓reduceIte,reduceCtorEq,Nat.reduceEqDiff,Bool.not_true,Bool.not_false];refine hK_ _ ?_;clear hK_ K_)
  | refine zDv (by decide) ?_
  | ((try first|refine zKx rfl rfl rfl ?_|refine zIw rfl rfl ?_|refine zKw rfl rfl rfl ?_|refine zJz rfl rfl ?_);(refine zIx fun Q_ hQ_=>?_;simp (disch:=first|omega|(simp only [List.length_cons,List.length_nil,List.length_append];omega)) only [bb,bp,zKv,↓reduceIte,reduceCtorEq,Nat.reduceEqDiff,Nat.reduceLT,Nat.reduceLeDiff,Nat.reduceAdd,Nat.reduceMul,Nat.reduceSub,Nat.reduceBEq,Int.reduceToNat,cond_true,cond_false,eq_self,beq_self_eq_true,hl,hln,f1,f2,zFw wf,zGy wf,zBv wf,zFx wf,zAy wf,zAx,tEvZ32,zIy,zIz,zHv,zHw,zAv wf];first|(refine zCw (Q:=Q_) (fun hp_=>?_) (fun hp_=>?_) <;> first|(exfalso;omega)|(refine hQ_ _ _ ?_;clear hQ_ Q_))|(refine zBw (Q:=Q_) (fun hp_=>?_) (fun hp_=>?_) <;> first|(exfalso;omega)|(refine hQ_ _ _ ?_;clear hQ_ Q_))|(refine hQ_ _ _ ?_;clear hQ_ Q_)|(refine zPz (c1 _ _ (by first|omega|(simp only [List.length_append,List.length_cons,List.length_nil];omega))) ?_;refine hQ_ _ _ ?_;clear hQ_ Q_)|(refine zPz (c2 _ _ (by first|omega|(simp only [List.length_append,List.length_cons,List.length_nil];omega))) ?_;refine hQ_ _ _ ?_;clear hQ_ Q_)|(refine zPz (c3 _ _ (by first|omega|(simp only [List.length_append,List.length_cons,List.length_nil];omega))) ?_;refine hQ_ _ _ ?_;clear hQ_ Q_)|(refine zPz (c4 _ _ (by first|omega|(simp only [List.length_append,List.length_cons,List.length_nil];omega))) ?_;refine hQ_ _ _ ?_;clear hQ_ Q_)|(refine zPz (works _) ?_;refine hQ_ _ _ ?_;clear hQ_ Q_)))
  | (refine zHy fun K_ hK_=>?_;simp (disch:=omega) only [zFv,zAz,zHx,↓reduceIte,reduceCtorEq,Nat.reduceEqDiff,Nat.reduceLT];refine hK_ _ ?_;clear hK_ K_)))
      all_goals (refine zKy _ _ rfl (ret1 (by decide)) ?_;simp only [zAz,↓reduceIte,reduceCtorEq,Nat.reduceEqDiff];refine zLz rfl (by omega) ?_)
      all_goals exact ⟨rfl,rfl⟩
end Go.Proofs.Ytmincoafjnnkpaa
end

section
namespace Go.Proofs.Ytmincoafjnnkpaa.waveShort
open Go.ChangeShapes Go.WideShapes Go.ChangeAt Go.RowKit Go.Ev
set_option maxRecDepth 100000
set_option maxHeartbeats 0

theorem contract (H:Type) (enc:TypeId × Value→H) (W:World) (base:Nat) (args:Array Value) (ds gs:List (DataW H)) (before:List MemPlace) (hval : ∀ (j:Nat) t v,Try.f4.params[j]? = some t→args[j]? = some v→Value.okWide Try.prog W .any base t v)
    (hW:DataW.Whole enc Try.prog Try.f4.params.toList Rows.waveShortSpec.vars false W args.toList ds gs before) :
    Calls Try.prog 4 args W fun e W'=>∃ v,e = .returned v∧Rows.waveShortSpec.post enc Try.prog Try.f4 false true false false W args v W':=by
  have hW':=hW
  obtain ⟨p,q,hA0,hV,rfl,hfz,hnd⟩:=hW
  have hA:DataW.TrodAll enc Try.prog W 0 (fun _=>true) true Try.f4.params.toList args.toList ds p:=hA0
  rw [Try.params4] at hA hval
  obtain ⟨v0,d0,rfl,rfl,n0,h0⟩:=trodAll_one hA
  have k0:=(okWide_cell (P:=Try.prog) Try.underlying22 (fun _ e=>by cases e) (fun _ _ e=>by cases e) (hval 0 22 v0 rfl rfl))
  rw [slice_cells Try.underlying22 k0] at h0
  obtain ⟨a0,ls0,w0,q0,x0⟩:=ints_in k0 h0
  have walk:=lawShort ls0 a0 (q0.capu 1) (startW W) (startW_wf W) x0
  have hargs:VL (startWR W) [a0] (#[v0]:Array Value).toList:=(.cons _ _ _ _ w0 .nil)
  refine (startW_true (P:=Try.prog) mixed (K:=KK) (fun c hc=>by
    have:c=cW:=List.mem_singleton.1 hc
    rw [this];exact cW_ok) walk hargs).mono fun e W' ⟨he,hgr,hs⟩=>?_
  subst he
  refine ⟨_,rfl,law_post laidOut (by
    rw [Try.params4]
    intro t ht
    rcases List.mem_cons.1 ht with rfl|ht
    · exact ⟨by kernel_rfl,of_decide_eq_true (by kernel_rfl)⟩
    cases ht) rfl (by kernel_rfl) Try.underlying4 (fun gs' ⟨q',hq⟩=>?_) hW' hgr hs⟩
  obtain ⟨rfl,_⟩:=trodVars_none hq
  exact ⟨rfl,rfl,rfl⟩

theorem lifted (os:Os) (started:os.Started) (H:Type) (enc:TypeId × Value→H) :
    ReturnsInHanded {} Try.checked os 4 .any (Rows.waveShortSpec.pre6 enc Try.prog Try.f4 Rows.waveShortRow.domain false) (Rows.waveShortSpec.post enc Try.prog Try.f4 false true false false):=by
  refine returnsInHanded_of_change (C:=Try.checked) own started (by kernel_rfl) Try.func4
    (ChangeSpec.witness6 (enc:=enc) (C:=Try.checked) false ⟨#[],#[.slice none 0 0],[]⟩ 8 (by kernel_rfl) (by kernel_rfl) (by kernel_rfl) (by kernel_rfl)) ?_
  intro W base args ds gs before hval hW _ _
  exact contract H enc W base args ds gs before hval hW

theorem holds :Rows.WaveShortSaid:=
  OpenClaim.holds_of_wide 4 Try.f4 rfl rfl rfl rfl rfl rfl rfl ⟨rfl,rfl,rfl,rfl,rfl⟩ rfl rfl rfl rfl rfl (by kernel_rfl) Try.func4 (by kernel_rfl)
    (of_decide_eq_true (by kernel_rfl)) (by unfold Func.isWrapper;first|(rw [if_pos (by decide +kernel)];kernel_rfl)|(rw [if_neg (by decide +kernel)];exact ⟨rfl,rfl⟩))
    (fun os started H enc _=>lifted os started H enc)
end Go.Proofs.Ytmincoafjnnkpaa.waveShort
end
