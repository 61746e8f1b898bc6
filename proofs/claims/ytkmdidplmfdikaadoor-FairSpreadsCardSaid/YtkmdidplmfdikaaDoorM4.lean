import Derived.Test.YtkmdidplmfdikaaDoorM3
import Derived.Test.YtkmdidplmfdikaaDoorChecked
import Derived.KernelRfl
set_option linter.all false
section
namespace Go.Proofs.YtkmdidplmfdikaaDoor
open Go.Ev
set_option maxRecDepth 100000
theorem ia_2 :isAggB Tryd.prog 2=some false:=by kernel_rfl
theorem sz_2 :sizeE Tryd.prog 2=some 1:=by kernel_rfl
theorem ze_2 :zeroE Tryd.prog 2=some (.int .i64 (0)):=by kernel_rfl
theorem el_2 :El Tryd.prog 2 1 8 (.int .i64 (0)):=⟨by kernel_rfl,by kernel_rfl,rfl⟩
theorem un_2 :Tryd.prog.underlying 2=some (.int .i64):=Tryd.underlying2
theorem ia_3 :isAggB Tryd.prog 3=some false:=by kernel_rfl
theorem sz_3 :sizeE Tryd.prog 3=some 1:=by kernel_rfl
theorem ze_3 :zeroE Tryd.prog 3=some (.int .i64 (0)):=by kernel_rfl
theorem ia_4 :isAggB Tryd.prog 4=some false:=by kernel_rfl
theorem sz_4 :sizeE Tryd.prog 4=some 1:=by kernel_rfl
theorem ze_4 :zeroE Tryd.prog 4=some (.bool false):=by kernel_rfl
theorem el_4 :El Tryd.prog 4 1 1 (.bool false):=⟨by kernel_rfl,by kernel_rfl,rfl⟩
theorem un_4 :Tryd.prog.underlying 4=some .bool:=Tryd.underlying4
theorem zSw :isAggB Tryd.prog 22=some false:=by kernel_rfl
theorem zXv :sizeE Tryd.prog 22=some 1:=by kernel_rfl
theorem zNv (n:Nat) (parts:List (Nat × AV)) (h:H):buildSliceE Tryd.prog 22 n parts h=bif Nat.ble (n * 2) 16777216 && Nat.beq 2 2 then (match fillE (fun i=>some (i * 2,2)) (zerosE [.int .i64 (0),.int .i64 (0)] n) parts with|some cs=>newSlice 51 cs n n 2 h|none=>.no) else .no:=by kernel_rfl
theorem yLz :idxKind Tryd.prog 22=some (none,2):=by kernel_rfl
theorem yWv :Tryd.prog.underlying 22=some (.slice 51):=Tryd.underlying22
theorem xNz :notInt Tryd.prog 22=true:=by kernel_rfl
theorem zSx :isAggB Tryd.prog 24=some true:=by kernel_rfl
theorem zSz :sizeE Tryd.prog 24=some 2:=by kernel_rfl
theorem zLw :fieldOff Tryd.prog 24 0=some 0:=by kernel_rfl
theorem zLx :fieldOff Tryd.prog 24 1=some 1:=by kernel_rfl
theorem zUz :isAggB Tryd.prog 25=some false:=by kernel_rfl
theorem wAw :sizeE Tryd.prog 25=some 1:=by kernel_rfl
theorem zHw (n:Nat) (parts:List (Nat × AV)) (h:H):buildSliceE Tryd.prog 25 n parts h=bif Nat.ble (n * 1) 16777216 && Nat.beq 1 1 then (match fillE (fun i=>some (i * 1,1)) (zerosE [.int .i64 (0)] n) parts with|some cs=>newSlice 2 cs n n 1 h|none=>.no) else .no:=by kernel_rfl
theorem el_25 :El Tryd.prog 25 1 24 (.nils):=⟨by kernel_rfl,by kernel_rfl,rfl⟩
theorem ik_25 :idxKind Tryd.prog 25=some (none,1):=by kernel_rfl
theorem un_25 :Tryd.prog.underlying 25=some (.slice 2):=Tryd.underlying25
theorem yUv :notInt Tryd.prog 25=true:=by kernel_rfl
theorem zSy :isAggB Tryd.prog 27=some false:=by kernel_rfl
theorem zTx :isAggB Tryd.prog 51=some true:=by kernel_rfl
theorem zRx :sizeE Tryd.prog 51=some 2:=by kernel_rfl
theorem zOv :zeroE Tryd.prog 51=some (.agg [.int .i64 (0),.int .i64 (0)]):=by kernel_rfl
theorem zMy :fieldOff Tryd.prog 51 0=some 0:=by kernel_rfl
theorem zMz :fieldOff Tryd.prog 51 1=some 1:=by kernel_rfl
theorem xNy (parts:List (Nat × AV)):buildE Tryd.prog 51 parts=match fillE (fun i=>[(0,1),(1,1)][i]?) [.int .i64 (0),.int .i64 (0)] parts with|some cs=>some (.agg cs)|none=>none:=by kernel_rfl
theorem el_51 :El Tryd.prog 51 2 16 (.agg [.int .i64 (0),.int .i64 (0)]):=⟨by kernel_rfl,by kernel_rfl,rfl⟩
theorem wBw :isAggB Tryd.prog 52=some false:=by kernel_rfl
theorem zRv (n:Nat) (parts:List (Nat × AV)) (h:H):buildSliceE Tryd.prog 52 n parts h=bif Nat.ble (n * 1) 16777216 && Nat.beq 1 1 then (match fillE (fun i=>some (i * 1,1)) (zerosE [.nils] n) parts with|some cs=>newSlice 25 cs n n 1 h|none=>.no) else .no:=by kernel_rfl
theorem ik_52 :idxKind Tryd.prog 52=some (none,1):=by kernel_rfl
theorem ni_52 :notInt Tryd.prog 52=true:=by kernel_rfl
theorem zZv :isAggB Tryd.prog 64=some true:=by kernel_rfl
theorem zZw :sizeE Tryd.prog 64=some 2:=by kernel_rfl
theorem ze_64 :zeroE Tryd.prog 64=some (.agg [.nils,.int .i64 (0)]):=by kernel_rfl
theorem zRz :fieldOff Tryd.prog 64 0=some 0:=by kernel_rfl
theorem bs_64 (parts:List (Nat × AV)):buildE Tryd.prog 64 parts=match fillE (fun i=>[(0,2)][i]?) [.nils,.int .i64 (0)] parts with|some cs=>some (.agg cs)|none=>none:=by kernel_rfl
theorem yOv :isAggB Tryd.prog 65=some false:=by kernel_rfl
theorem sz_65 :sizeE Tryd.prog 65=some 1:=by kernel_rfl
theorem ik_65 :idxKind Tryd.prog 65=some (none,75):=by kernel_rfl
theorem ni_65 :notInt Tryd.prog 65=true:=by kernel_rfl
theorem yLy :isAggB Tryd.prog 67=some true:=by kernel_rfl
theorem yKz :sizeE Tryd.prog 67=some 3:=by kernel_rfl
theorem wAy :zeroE Tryd.prog 67=some (.agg [.nils,.int .i64 (0),.nils]):=by kernel_rfl
theorem zXy :fieldOff Tryd.prog 67 0=some 0:=by kernel_rfl
theorem zXz :fieldOff Tryd.prog 67 1=some 2:=by kernel_rfl
theorem bs_67 (parts:List (Nat × AV)):buildE Tryd.prog 67 parts=match fillE (fun i=>[(0,2),(2,1)][i]?) [.nils,.int .i64 (0),.nils] parts with|some cs=>some (.agg cs)|none=>none:=by kernel_rfl
theorem ia_69 :isAggB Tryd.prog 69=some false:=by kernel_rfl
theorem zVw :isAggB Tryd.prog 71=some true:=by kernel_rfl
theorem zUv :sizeE Tryd.prog 71=some 4:=by kernel_rfl
theorem zVx :zeroE Tryd.prog 71=some (.agg [.int .i64 (0),.int .i64 (0),.int .i64 (0),.int .i64 (0)]):=by kernel_rfl
theorem zOw :fieldOff Tryd.prog 71 0=some 0:=by kernel_rfl
theorem zOx :fieldOff Tryd.prog 71 1=some 1:=by kernel_rfl
theorem zOy :fieldOff Tryd.prog 71 2=some 2:=by kernel_rfl
theorem zOz :fieldOff Tryd.prog 71 3=some 3:=by kernel_rfl
theorem zSv (parts:List (Nat × AV)):buildE Tryd.prog 71 parts=match fillE (fun i=>[(0,1),(1,1),(2,1),(3,1)][i]?) [.int .i64 (0),.int .i64 (0),.int .i64 (0),.int .i64 (0)] parts with|some cs=>some (.agg cs)|none=>none:=by kernel_rfl
theorem el_71 :El Tryd.prog 71 4 32 (.agg [.int .i64 (0),.int .i64 (0),.int .i64 (0),.int .i64 (0)]):=⟨by kernel_rfl,by kernel_rfl,rfl⟩
theorem yOw :isAggB Tryd.prog 81=some false:=by kernel_rfl
theorem yOx :sizeE Tryd.prog 81=some 1:=by kernel_rfl
theorem zKw (n:Nat) (parts:List (Nat × AV)) (h:H):buildSliceE Tryd.prog 81 n parts h=bif Nat.ble (n * 4) 16777216 && Nat.beq 4 4 then (match fillE (fun i=>some (i * 4,4)) (zerosE [.int .i64 (0),.int .i64 (0),.int .i64 (0),.int .i64 (0)] n) parts with|some cs=>newSlice 71 cs n n 4 h|none=>.no) else .no:=by kernel_rfl
theorem ik_81 :idxKind Tryd.prog 81=some (none,4):=by kernel_rfl
theorem un_81 :Tryd.prog.underlying 81=some (.slice 71):=Tryd.underlying81
theorem yUw :notInt Tryd.prog 81=true:=by kernel_rfl
theorem ia_93 :isAggB Tryd.prog 93=some false:=by kernel_rfl
theorem sz_93 :sizeE Tryd.prog 93=some 1:=by kernel_rfl
theorem ze_93 :zeroE Tryd.prog 93=some (.nils):=by kernel_rfl
theorem ik_93 :idxKind Tryd.prog 93=some (none,1):=by kernel_rfl
theorem un_93 :Tryd.prog.underlying 93=some (.slice 4):=Tryd.underlying93
theorem ia_95 :isAggB Tryd.prog 95=some false:=by kernel_rfl
theorem ia_101 :isAggB Tryd.prog 101=some false:=by kernel_rfl
theorem sz_101 :sizeE Tryd.prog 101=some 1:=by kernel_rfl
theorem yOz :isAggB Tryd.prog 103=some false:=by kernel_rfl
theorem xGz :sizeE Tryd.prog 103=some 1:=by kernel_rfl
theorem yBw :isAggB Tryd.prog 107=some false:=by kernel_rfl
theorem yAv :sizeE Tryd.prog 107=some 1:=by kernel_rfl
theorem xKy :isAggB Tryd.prog 109=some true:=by kernel_rfl
theorem xFv :sizeE Tryd.prog 109=some 3:=by kernel_rfl
theorem ik_109 :idxKind Tryd.prog 109=some (some 3,1):=by kernel_rfl
theorem un_109 :Tryd.prog.underlying 109=some (.array 3 2):=Tryd.underlying109
theorem ia_110 :isAggB Tryd.prog 110=some true:=by kernel_rfl
theorem sz_110 :sizeE Tryd.prog 110=some 15:=by kernel_rfl
theorem ik_110 :idxKind Tryd.prog 110=some (some 5,3):=by kernel_rfl
theorem xKz :isAggB Tryd.prog 112=some true:=by kernel_rfl
theorem yDv :sizeE Tryd.prog 112=some 75:=by kernel_rfl
theorem ze_112 :zeroE Tryd.prog 112=some (.agg [.int .i64 (0),.int .i64 (0),.int .i64 (0),.int .i64 (0),.int .i64 (0),.int .i64 (0),.int .i64 (0),.int .i64 (0),.int .i64 (0),.int .i64 (0),.int .i64 (0),.int .i64 (0),.int .i64 (0),.int .i64 (0),.int .i64 (0),.int .i64 (0),.int .i64 (0),.int .i64 (0),.int .i64 (0),.int .i64 (0),.int .i64 (0),.int .i64 (0),.int .i64 (0),.int .i64 (0),.int .i64 (0),.int .i64 (0),.int .i64 (0),.int .i64 (0),.int .i64 (0),.int .i64 (0),.int .i64 (0),.int .i64 (0),.int .i64 (0),.int .i64 (0),.int .i64 (0),.int .i64 (0),.int .i64 (0),.int .i64 (0),.int .i64 (0),.int .i64 (0),.int .i64 (0),.int .i64 (0),.int .i64 (0),.int .i64 (0),.int .i64 (0),.int .i64 (0),.int .i64 (0),.int .i64 (0),.int .i64 (0),.int .i64 (0),.int .i64 (0),.int .i64 (0),.int .i64 (0),.int .i64 (0),.int .i64 (0),.int .i64 (0),.int .i64 (0),.int .i64 (0),.int .i64 (0),.int .i64 (0),.int .i64 (0),.int .i64 (0),.int .i64 (0),.int .i64 (0),.int .i64 (0),.int .i64 (0),.int .i64 (0),.int .i64 (0),.int .i64 (0),.int .i64 (0),.int .i64 (0),.int .i64 (0),.int .i64 (0),.int .i64 (0),.int .i64 (0)]):=by kernel_rfl
theorem el_112 :El Tryd.prog 112 75 600 (.agg [.int .i64 (0),.int .i64 (0),.int .i64 (0),.int .i64 (0),.int .i64 (0),.int .i64 (0),.int .i64 (0),.int .i64 (0),.int .i64 (0),.int .i64 (0),.int .i64 (0),.int .i64 (0),.int .i64 (0),.int .i64 (0),.int .i64 (0),.int .i64 (0),.int .i64 (0),.int .i64 (0),.int .i64 (0),.int .i64 (0),.int .i64 (0),.int .i64 (0),.int .i64 (0),.int .i64 (0),.int .i64 (0),.int .i64 (0),.int .i64 (0),.int .i64 (0),.int .i64 (0),.int .i64 (0),.int .i64 (0),.int .i64 (0),.int .i64 (0),.int .i64 (0),.int .i64 (0),.int .i64 (0),.int .i64 (0),.int .i64 (0),.int .i64 (0),.int .i64 (0),.int .i64 (0),.int .i64 (0),.int .i64 (0),.int .i64 (0),.int .i64 (0),.int .i64 (0),.int .i64 (0),.int .i64 (0),.int .i64 (0),.int .i64 (0),.int .i64 (0),.int .i64 (0),.int .i64 (0),.int .i64 (0),.int .i64 (0),.int .i64 (0),.int .i64 (0),.int .i64 (0),.int .i64 (0),.int .i64 (0),.int .i64 (0),.int .i64 (0),.int .i64 (0),.int .i64 (0),.int .i64 (0),.int .i64 (0),.int .i64 (0),.int .i64 (0),.int .i64 (0),.int .i64 (0),.int .i64 (0),.int .i64 (0),.int .i64 (0),.int .i64 (0),.int .i64 (0)]):=⟨by kernel_rfl,by kernel_rfl,rfl⟩
theorem ik_112 :idxKind Tryd.prog 112=some (some 5,15):=by kernel_rfl
theorem ia_123 :isAggB Tryd.prog 123=some false:=by kernel_rfl
theorem sz_123 :sizeE Tryd.prog 123=some 1:=by kernel_rfl
theorem ia_129 :isAggB Tryd.prog 129=some false:=by kernel_rfl
theorem sz_129 :sizeE Tryd.prog 129=some 1:=by kernel_rfl
theorem pb_9 :plainB Tryd.prog 9=true:=by kernel_rfl
theorem yKv :plainB Tryd.prog 14=true:=by kernel_rfl
theorem yUx :plainB Tryd.prog 15=true:=by kernel_rfl
theorem pb_16 :plainB Tryd.prog 16=true:=by kernel_rfl
theorem pb_17 :plainB Tryd.prog 17=true:=by kernel_rfl
theorem pb_18 :plainB Tryd.prog 18=true:=by kernel_rfl
theorem pb_19 :plainB Tryd.prog 19=true:=by kernel_rfl
theorem pb_25 :plainB Tryd.prog 25=true:=by kernel_rfl
theorem pb_26 :plainB Tryd.prog 26=true:=by kernel_rfl
theorem pb_27 :plainB Tryd.prog 27=true:=by kernel_rfl
theorem yZw :plainB Tryd.prog 30=true:=by kernel_rfl
theorem xMv :plainB Tryd.prog 33=true:=by kernel_rfl
theorem xMw :plainB Tryd.prog 34=true:=by kernel_rfl
theorem pb_35 :plainB Tryd.prog 35=true:=by kernel_rfl
theorem yCy :plainB Tryd.prog 36=true:=by kernel_rfl
theorem xMx :plainB Tryd.prog 37=true:=by kernel_rfl
theorem pb_38 :plainB Tryd.prog 38=true:=by kernel_rfl
theorem pb_39 :plainB Tryd.prog 39=true:=by kernel_rfl
theorem pb_40 :plainB Tryd.prog 40=true:=by kernel_rfl
theorem pb_42 :plainB Tryd.prog 42=true:=by kernel_rfl
theorem xMy :plainB Tryd.prog 43=true:=by kernel_rfl
theorem xMz :plainB Tryd.prog 44=true:=by kernel_rfl
theorem pb_45 :plainB Tryd.prog 45=true:=by kernel_rfl
theorem pb_46 :plainB Tryd.prog 46=true:=by kernel_rfl
theorem pb_47 :plainB Tryd.prog 47=true:=by kernel_rfl
theorem pb_48 :plainB Tryd.prog 48=true:=by kernel_rfl
theorem pb_53 :plainB Tryd.prog 53=true:=by kernel_rfl
theorem pb_54 :plainB Tryd.prog 54=true:=by kernel_rfl
theorem pb_55 :plainB Tryd.prog 55=true:=by kernel_rfl
theorem pb_56 :plainB Tryd.prog 56=true:=by kernel_rfl
theorem pb_57 :plainB Tryd.prog 57=true:=by kernel_rfl
theorem pb_58 :plainB Tryd.prog 58=true:=by kernel_rfl
theorem pb_59 :plainB Tryd.prog 59=true:=by kernel_rfl
theorem yEx :plainB Tryd.prog 60=true:=by kernel_rfl
theorem yKw :plainB Tryd.prog 61=true:=by kernel_rfl
theorem pb_62 :plainB Tryd.prog 62=true:=by kernel_rfl
theorem pb_63 :plainB Tryd.prog 63=true:=by kernel_rfl
theorem pb_64 :plainB Tryd.prog 64=true:=by kernel_rfl
theorem pb_65 :plainB Tryd.prog 65=true:=by kernel_rfl
theorem xLv :plainB Tryd.prog 66=true:=by kernel_rfl
theorem pb_67 :plainB Tryd.prog 67=true:=by kernel_rfl
theorem pb_68 :plainB Tryd.prog 68=true:=by kernel_rfl
theorem pb_69 :plainB Tryd.prog 69=true:=by kernel_rfl
theorem xLw :plainB Tryd.prog 70=true:=by kernel_rfl
theorem pb_71 :plainB Tryd.prog 71=true:=by kernel_rfl
theorem pb_72 :plainB Tryd.prog 72=true:=by kernel_rfl
theorem pb_73 :plainB Tryd.prog 73=true:=by kernel_rfl
theorem pb_76 :plainB Tryd.prog 76=true:=by kernel_rfl
theorem pb_77 :plainB Tryd.prog 77=true:=by kernel_rfl
theorem xLx :plainB Tryd.prog 78=true:=by kernel_rfl
theorem pb_79 :plainB Tryd.prog 79=true:=by kernel_rfl
theorem pb_80 :plainB Tryd.prog 80=true:=by kernel_rfl
theorem pb_81 :plainB Tryd.prog 81=true:=by kernel_rfl
theorem pb_82 :plainB Tryd.prog 82=true:=by kernel_rfl
theorem pb_83 :plainB Tryd.prog 83=true:=by kernel_rfl
theorem pb_85 :plainB Tryd.prog 85=true:=by kernel_rfl
end Go.Proofs.YtkmdidplmfdikaaDoor
end

section
namespace Go.Ev
section
variable {P:Program}

def Grow (h:H) (L0 G:List AO) (v:AV) (sz e len:Nat) (cs:List AV):Prop:=
  cs.length=len * sz∧((len=0∧v = .nils) ∨ ∃ idx,v = .sl (nx h (L0.length+idx)) 0 len none sz∧G[idx]? = some (.cells (zAy cs) e))
theorem Grow.nil (h:H) (L0 G:List AO) (sz e:Nat):Grow h L0 G .nils sz e 0 []:=⟨by simp,.inl ⟨rfl,rfl⟩⟩
theorem Grow.resz {h:H} {L0 G:List AO} {v:AV} {sz e len:Nat} {cs:List AV} (g:Grow h L0 G v sz e len cs) (t:TypeId):reszT P t v=v:=by
  obtain ⟨_,⟨_,rfl⟩|⟨idx,rfl,_⟩⟩:=g
  · exact ySv
  · exact yFy
theorem Grow.sl {h:H} (wf:Wf h) {L0 G:List AO} {v:AV} {sz e len:Nat} {cs:List AV} (g:Grow h L0 G v sz e len cs) (w:Nat):Sl (X h (L0++G) w) v sz len cs:=by
  obtain ⟨hl,⟨rfl,rfl⟩|⟨idx,rfl,hg⟩⟩:=g
  · exact ⟨hl,.inl ⟨rfl,rfl⟩⟩
  · exact Sl.new wf hl (by rw [zLv];exact hg)
theorem Grow.more {h:H} {L0 G:List AO} {v:AV} {sz e len:Nat} {cs:List AV} (g:Grow h L0 G v sz e len cs) (l:List AO):Grow h L0 (G++l) v sz e len cs:=by
  obtain ⟨hl,⟨rfl,rfl⟩|⟨idx,rfl,hg⟩⟩:=g
  · exact ⟨hl,.inl ⟨rfl,rfl⟩⟩
  · exact ⟨hl,.inr ⟨idx,rfl,by rw [List.getElem?_append_left (List.getElem?_eq_some_iff.1 hg).1];exact hg⟩⟩
theorem Grow.flat {h:H} {L0 G:List AO} {v:AV} {sz e len:Nat} {cs:List AV} (g:Grow h L0 G v sz e len cs):AV.cells v=[v]∧oneB v=true:=by
  obtain ⟨hl,⟨rfl,rfl⟩|⟨idx,rfl,hg⟩⟩:=g <;> exact ⟨rfl,rfl⟩

theorem WV_keep {h:H} (wf:Wf h) {v:AV} {l:List AO} {w:Nat} {Q:AV→H→Prop} (hw:h.clock≤w) (q1:flat v=true→Q v h) (q2:flat v=false→Q v (X h l h.w)):WV (pureCall h (.ok v (X h l w))) Q:=by
  cases hf:flat v with
  | true=>exact zMw hf hw (q1 hf)
  | false=>
    refine yCz (by rw [hf,Bool.and_false]) ?_
    rw [Nat.min_eq_left (Nat.le_trans wf.wle hw)]
    exact q2 hf
theorem Grow.ret {h:H} (wf:Wf h) {L0 G:List AO} {v:AV} {sz e len:Nat} {cs:List AV} (g:Grow h L0 G v sz e len cs) {Q:AV→H→Prop} (q : ∀ M,Sl (X h M h.w) v sz len cs→Q v (X h M h.w)) {w:Nat} (hw:h.clock≤w):WV (pureCall h (.ok v (X h (L0++G) w))) Q:=by
  refine WV_keep wf hw (fun hf=>?_) (fun _=>q _ (g.sl wf h.w))
  have:=q []
  rw [X_self] at this
  refine this ?_
  obtain ⟨hl,⟨rfl,rfl⟩|⟨idx,rfl,hg⟩⟩:=g
  · exact ⟨hl,.inl ⟨rfl,rfl⟩⟩
  · cases hf

theorem Grow.append {h:H} (wf:Wf h) {L0 G:List AO} {v:AV} {sz e len bytes:Nat} {z:AV} {cs:List AV} (g:Grow h L0 G v sz e len cs) {t:TypeId} (hu:P.underlying t=some (.slice e)) (hz:sizeE P e=some sz) (E:El P e sz bytes z)
    {n:Nat} {new:List AV} {x:AV} (hn:len+n≤10000000) (hn0:n≠0) (hb:bytes≤100000) (hc:new.length=n * sz) (ho:allOne new=true) (hs : ∀ w,srcCells (X h (L0++G) w) sz x=some (n,new)) :
    ∃ v' G',Grow h L0 G' v' sz e (len+n) (cs++new)∧(∀ w,h.clock≤w → ∃ w',h.clock≤w'∧w'≤w∧appendE P t v x (X h (L0++G) w) = .ok v' (X h (L0++G') w')):=by
  obtain ⟨hl,⟨rfl,rfl⟩|⟨idx,rfl,hg⟩⟩:=g
  · have hcs:cs=[]:=List.length_eq_zero_iff.1 (by simpa using hl)
    subst hcs
    refine ⟨.sl (nx h (L0.length+G.length)) 0 n none sz,G++[.cells (zAy new) e],⟨by simpa using hc,.inr ⟨G.length,by rw [Nat.zero_add],by simp⟩⟩,fun w hw=>⟨w,hw,Nat.le_refl w,?_⟩⟩
    have:=xZy (P:=P) wf hu hz E (x:=x) (l:=L0++G) (w:=w) (by omega) hn0 hb (hs w) hc
    rw [List.length_append,List.append_assoc] at this
    exact this
  · have hi:=(List.getElem?_eq_some_iff.1 hg).1
    refine ⟨.sl (nx h (L0.length+G.length)) 0 (len+n) none sz,G.set idx .dead++[.cells (zAy (cs++new)) e],⟨by rw [List.length_append,hl,hc,Nat.add_mul],.inr ⟨G.length,rfl,?_⟩⟩,fun w hw=>⟨min (h.clock+(L0.length+idx)) w,by omega,Nat.min_le_right _ _,?_⟩⟩
    rotate_right 1
    · have:=yYz (P:=P) wf hu hz E (x:=x) (k:=L0.length+idx) (l:=L0++G) (w:=w) hn hn0 hb (by rw [zLv];exact hg) hl (hs w) hc ho
      rw [List.length_append,zNx,List.append_assoc] at this
      exact this
    · rw [List.getElem?_append_right (by simp)];simp

theorem Grow.appendD {h:H} (wf:Wf h) {L0 G:List AO} {v:AV} {sz e len bytes:Nat} {z:AV} {cs:List AV} (g:Grow h L0 G v sz e len cs) {t:TypeId} (hu:P.underlying t=some (.slice e)) (hz:sizeE P e=some sz) (E:El P e sz bytes z)
    {n:Nat} {new:List AV} (hn:len+n≤10000000) (hn0:n≠0) (hb:bytes≤100000) (hc:new.length=n * sz) (ho:allOne new=true) :
    ∃ v' G',Grow h L0 G' v' sz e (len+n) (cs++new) ∧
      (∀ tm op w,h.clock≤w→unmark .full tm op (X h (L0++(G++[.cells (zAy new) e])) h.clock) (appendE P t v (.sl (nx h (L0.length+G.length)) 0 n (some n) sz) (X h (L0++(G++[.cells (zAy new) e])) w)) = .ok v' (X h (L0++G') h.clock)) ∧
      (appendE P t v (.sl (nx h (L0.length+G.length)) 0 n (some n) sz) (X h (L0++(G++[.cells (zAy new) e])) h.clock) = .ok v' (X h (L0++G') h.clock)):=by
  obtain ⟨v',G',hg',happ⟩:=(g.more [.cells (zAy new) e]).append (P:=P) wf hu hz E (x:=.sl (nx h (L0.length+G.length)) 0 n (some n) sz) hn hn0 hb hc ho (fun w=>yPv (e:=e) wf (by rw [← List.append_assoc];rw [show L0.length+G.length=(L0++G).length from by simp];simp) hc)
  refine ⟨v',G',hg',fun tm op w hw=>?_,?_⟩
  · obtain ⟨w',h1,h2,h3⟩:=happ w hw
    rw [h3,yWw,Nat.min_eq_left h1]
  · obtain ⟨w',h1,h2,h3⟩:=happ h.clock (Nat.le_refl _)
    rw [h3,show w'=h.clock from by omega]
end
end Go.Ev
end

section
namespace Go.Ev
theorem bb :type_of% (And.intro (And.intro (And.intro (And.intro (And.intro (And.intro (And.intro (@x_move) (@x_assign)) (And.intro (@x_pick) (And.intro (@x_alloc) (@x_box)))) (And.intro (And.intro (@x_build) (@x_load)) (And.intro (@x_store) (And.intro (@x_nilCheck) (@x_binOp))))) (And.intro (And.intro (And.intro (@x_unOp) (@x_convert)) (And.intro (@x_makeFunc) (And.intro (@x_makeMap) (@xQz)))) (And.intro (And.intro (@x_slice) (@xQx)) (And.intro (@x_field) (And.intro (@xQy) (@x_index)))))) (And.intro (And.intro (And.intro (And.intro (@x_lookup) (@xPv)) (And.intro (@x_extract) (And.intro (@x_callB) (@x_callF)))) (And.intro (And.intro (@x_callT) (@xFw)) (And.intro (@WV_okI) (And.intro (@on1_ok) (@of_ok))))) (And.intro (And.intro (And.intro (@done_ok) (@zFx)) (And.intro (@get_tmp) (And.intro (@evT_int) (@evT_bool)))) (And.intro (And.intro (@evT_str) (@evT_nils)) (And.intro (@evT_nilm) (And.intro (@evT_nilp) (@evT_nilf))))))) (And.intro (And.intro (And.intro (And.intro (And.intro (@evT_func) (@zAz)) (And.intro (@evL_nil) (And.intro (@xAv) (@xXx)))) (And.intro (And.intro (@xKv) (@pickE_def)) (And.intro (@allocE_def) (And.intro (@cells_bool) (@cells_int))))) (And.intro (And.intro (And.intro (@cells_str) (@cells_ptr)) (And.intro (@cells_nilp) (And.intro (@cells_sl) (@cells_nils)))) (And.intro (And.intro (@cells_map) (@cells_nilm)) (And.intro (@cells_fn) (And.intro (@cells_nilf) (@xYx)))))) (And.intro (And.intro (And.intro (And.intro (@asPtr_ptr) (@asSl_sl)) (And.intro (@zDz) (And.intro (@zFw) (@asTup_tup)))) (And.intro (And.intro (@xBv) (@zTy)) (And.intro (@ySv) (And.intro (@yFy) (@toNatE_int))))) (And.intro (And.intro (And.intro (@xSz) (@xTv)) (And.intro (@optNat_def) (And.intro (@Int.toNat_natCast) (@xBx)))) (And.intro (And.intro (@cellsOf_ro) (@yRy)) (And.intro (@oneB_bool) (And.intro (@xOz) (@oneB_str)))))))) (And.intro (And.intro (And.intro (And.intro (And.intro (And.intro (@oneB_ptr) (@oneB_nilp)) (And.intro (@oneB_sl) (And.intro (@oneB_nils) (@oneB_map)))) (And.intro (And.intro (@oneB_nilm) (@oneB_fn)) (And.intro (@oneB_nilf) (And.intro (@loadE_ptr) (@xCv))))) (And.intro (And.intro (And.intro (@yPx) (@xGx)) (And.intro (@xGy) (And.intro (@yWy) (@xZw)))) (And.intro (And.intro (@zYw) (@yHz)) (And.intro (@xKw) (And.intro (@xUy) (@xJy)))))) (And.intro (And.intro (And.intro (And.intro (@xJz) (@b_add)) (And.intro (@b_sub) (And.intro (@b_mul) (@b_eql)))) (And.intro (And.intro (@b_neq) (@b_lss)) (And.intro (@b_leq) (And.intro (@b_gtr) (@b_geq))))) (And.intro (And.intro (And.intro (@unE_not) (@unE_neg)) (And.intro (@bi_len) (And.intro (@bi_append) (@bi_copy)))) (And.intro (And.intro (@bi_max) (@bi_min)) (And.intro (@yRw) (And.intro (@buildO_def) (@ble_dec))))))) (And.intro (And.intro (And.intro (And.intro (And.intro (@fillE_nil) (@fillE_cons)) (And.intro (@xVy) (And.intro (@xPx) (@xPw)))) (And.intro (And.intro (@xCy) (@min_ck)) (And.intro (@min_cc) (And.intro (@min_cl) (@Nat.min_self))))) (And.intro (And.intro (And.intro (@yUz) (@zZy)) (And.intro (@zWx) (And.intro (@cellAt_ro) (@zPv)))) (And.intro (And.intro (@yEz) (@zUx)) (And.intro (@yFz) (And.intro (@marked_X) (@nx_X)))))) (And.intro (And.intro (And.intro (And.intro (@xRy) (@yWw)) (And.intro (@zPx) (And.intro (@zLv) (@yBz)))) (And.intro (And.intro (@zNx) (@Nat.add_zero)) (And.intro (@Nat.zero_add) (And.intro (@Nat.mul_one) (@Nat.zero_mul))))) (And.intro (And.intro (And.intro (@Nat.one_mul) (@Bool.not_true)) (And.intro (@Bool.not_false) (And.intro (@Bool.true_and) (@Bool.and_true)))) (And.intro (And.intro (@Bool.false_and) (@Bool.and_false)) (And.intro (@decide_true) (And.intro (@decide_false) (@xZz))))))))):=And.intro (And.intro (And.intro (And.intro (And.intro (And.intro (And.intro (@x_move) (@x_assign)) (And.intro (@x_pick) (And.intro (@x_alloc) (@x_box)))) (And.intro (And.intro (@x_build) (@x_load)) (And.intro (@x_store) (And.intro (@x_nilCheck) (@x_binOp))))) (And.intro (And.intro (And.intro (@x_unOp) (@x_convert)) (And.intro (@x_makeFunc) (And.intro (@x_makeMap) (@xQz)))) (And.intro (And.intro (@x_slice) (@xQx)) (And.intro (@x_field) (And.intro (@xQy) (@x_index)))))) (And.intro (And.intro (And.intro (And.intro (@x_lookup) (@xPv)) (And.intro (@x_extract) (And.intro (@x_callB) (@x_callF)))) (And.intro (And.intro (@x_callT) (@xFw)) (And.intro (@WV_okI) (And.intro (@on1_ok) (@of_ok))))) (And.intro (And.intro (And.intro (@done_ok) (@zFx)) (And.intro (@get_tmp) (And.intro (@evT_int) (@evT_bool)))) (And.intro (And.intro (@evT_str) (@evT_nils)) (And.intro (@evT_nilm) (And.intro (@evT_nilp) (@evT_nilf))))))) (And.intro (And.intro (And.intro (And.intro (And.intro (@evT_func) (@zAz)) (And.intro (@evL_nil) (And.intro (@xAv) (@xXx)))) (And.intro (And.intro (@xKv) (@pickE_def)) (And.intro (@allocE_def) (And.intro (@cells_bool) (@cells_int))))) (And.intro (And.intro (And.intro (@cells_str) (@cells_ptr)) (And.intro (@cells_nilp) (And.intro (@cells_sl) (@cells_nils)))) (And.intro (And.intro (@cells_map) (@cells_nilm)) (And.intro (@cells_fn) (And.intro (@cells_nilf) (@xYx)))))) (And.intro (And.intro (And.intro (And.intro (@asPtr_ptr) (@asSl_sl)) (And.intro (@zDz) (And.intro (@zFw) (@asTup_tup)))) (And.intro (And.intro (@xBv) (@zTy)) (And.intro (@ySv) (And.intro (@yFy) (@toNatE_int))))) (And.intro (And.intro (And.intro (@xSz) (@xTv)) (And.intro (@optNat_def) (And.intro (@Int.toNat_natCast) (@xBx)))) (And.intro (And.intro (@cellsOf_ro) (@yRy)) (And.intro (@oneB_bool) (And.intro (@xOz) (@oneB_str)))))))) (And.intro (And.intro (And.intro (And.intro (And.intro (And.intro (@oneB_ptr) (@oneB_nilp)) (And.intro (@oneB_sl) (And.intro (@oneB_nils) (@oneB_map)))) (And.intro (And.intro (@oneB_nilm) (@oneB_fn)) (And.intro (@oneB_nilf) (And.intro (@loadE_ptr) (@xCv))))) (And.intro (And.intro (And.intro (@yPx) (@xGx)) (And.intro (@xGy) (And.intro (@yWy) (@xZw)))) (And.intro (And.intro (@zYw) (@yHz)) (And.intro (@xKw) (And.intro (@xUy) (@xJy)))))) (And.intro (And.intro (And.intro (And.intro (@xJz) (@b_add)) (And.intro (@b_sub) (And.intro (@b_mul) (@b_eql)))) (And.intro (And.intro (@b_neq) (@b_lss)) (And.intro (@b_leq) (And.intro (@b_gtr) (@b_geq))))) (And.intro (And.intro (And.intro (@unE_not) (@unE_neg)) (And.intro (@bi_len) (And.intro (@bi_append) (@bi_copy)))) (And.intro (And.intro (@bi_max) (@bi_min)) (And.intro (@yRw) (And.intro (@buildO_def) (@ble_dec))))))) (And.intro (And.intro (And.intro (And.intro (And.intro (@fillE_nil) (@fillE_cons)) (And.intro (@xVy) (And.intro (@xPx) (@xPw)))) (And.intro (And.intro (@xCy) (@min_ck)) (And.intro (@min_cc) (And.intro (@min_cl) (@Nat.min_self))))) (And.intro (And.intro (And.intro (@yUz) (@zZy)) (And.intro (@zWx) (And.intro (@cellAt_ro) (@zPv)))) (And.intro (And.intro (@yEz) (@zUx)) (And.intro (@yFz) (And.intro (@marked_X) (@nx_X)))))) (And.intro (And.intro (And.intro (And.intro (@xRy) (@yWw)) (And.intro (@zPx) (And.intro (@zLv) (@yBz)))) (And.intro (And.intro (@zNx) (@Nat.add_zero)) (And.intro (@Nat.zero_add) (And.intro (@Nat.mul_one) (@Nat.zero_mul))))) (And.intro (And.intro (And.intro (@Nat.one_mul) (@Bool.not_true)) (And.intro (@Bool.not_false) (And.intro (@Bool.true_and) (@Bool.and_true)))) (And.intro (And.intro (@Bool.false_and) (@Bool.and_false)) (And.intro (@decide_true) (And.intro (@decide_false) (@xZz))))))))
end Go.Ev
end

section
namespace Go.Ev
section
variable {P:Program} {K:List Con}

theorem setParams1 {n t:Nat} {v:AV} {f:TF} (hk:(Nat.ble (Nat.succ t) n && Nat.ble (Nat.succ t) 384)=true):setParams n [t] [v] (mkM f)=some (mkM (upd f t v)):=by
  rw [Bool.and_eq_true] at hk
  unfold setParams
  rw [hk.1,set_mkM _ _ _ (Nat.le_of_ble_eq_true hk.2)];rfl
theorem setParams2 {n t u:Nat} {v x:AV} {f:TF} (hk:(Nat.ble (Nat.succ t) n && Nat.ble (Nat.succ t) 384)=true) (hk':(Nat.ble (Nat.succ u) n && Nat.ble (Nat.succ u) 384)=true):setParams n [t,u] [v,x] (mkM f)=some (mkM (upd (upd f t v) u x)):=by
  rw [Bool.and_eq_true] at hk
  unfold setParams
  rw [hk.1,set_mkM _ _ _ (Nat.le_of_ble_eq_true hk.2)]
  exact setParams1 hk'

def yldB (l:Pos) (Q:AV→H→Prop):CQ
  | .norm,_,_,h=>∃ st pend fn n tm params assign body dd h',getObj l h=some (.loop st pend fn n tm params assign body dd)∧setObj l (.loop .ready .norm fn n tm params assign body dd) h=some h'∧Q (.bool true) h'
  | .exit id,_,_,h=>∃ st pend fn n tm params assign body dd h',getObj l h=some (.loop st pend fn n tm params assign body dd)∧setObj l (.loop .done (.exit id) fn n tm params assign body dd) h=some h'∧Q (.bool false) h'
  | .ret,_,_,h=>∃ st pend fn n tm params assign body dd h',getObj l h=some (.loop st pend fn n tm params assign body dd)∧setObj l (.loop .done .ret fn n tm params assign body dd) h=some h'∧Q (.bool false) h'
def yldA (x:Cx) (l:Pos) (body:Code) (Q:AV→H→Prop):CQ
  | .norm,f,d,h=>∃ pend fn n tm params assign body' dd h',getObj l h=some (.loop .ready pend fn n tm params assign body' dd)∧setObj l (.loop .busy pend fn n tm params assign body' dd) h=some h'∧WC x body f d h' (yldB l Q)
  | _,_,_,_=>False
theorem WV_yld {l:Pos} {args:List AV} {h:H} {Q:AV→H→Prop} {st:LoopState} {pend:J} {g n:Nat} {f0 f1:TF} {params:Array Tmp} {assign body:Code} {dd:Pos}
    (hg:getObj l h=some (.loop st pend g n (mkM f0) params assign body dd)) (hp:setParams n params.toList args (mkM f0)=some (mkM f1))
    (w:WC ⟨P,K,g,n,some l⟩ assign f1 [] h (yldA ⟨P,K,g,n,some l⟩ l body Q)):WV ((om P K).call (.yld l args) h) Q:=by
  obtain ⟨j,f2,d2,h2,e,q⟩:=w
  have e1:=yBv assign e
  cases j with
  | exit id=>exact q.elim
  | ret=>exact q.elim
  | norm=>
    obtain ⟨pend',fn',n',tm',params',assign',body',dd',h3,g1,g2,⟨j3,f3,d3,h4,e3,q3⟩⟩:=q
    have e4:=yBv body e3
    have run : ∀ v h5,endRoundE l (.ok j3 (Cx.fs ⟨P,K,g,n,some l⟩ f3 d3) h4) = .ok v h5→(om P K).call (.yld l args) h = .ok v h5:=fun v h5 hq=>by
      refine xIw rfl ?_
      show callYldE (om P K) l args h=_
      unfold callYldE
      rw [hg]
      dsimp only
      rw [hp]
      dsimp only
      have e1':(om P K).code assign ⟨g,n,mkM f1,[],some l⟩ h=_:=e1
      rw [e1']
      unfold bodyE
      dsimp only
      rw [g1]
      dsimp only
      rw [g2]
      dsimp only
      rw [e4];exact hq
    cases j3 with
    | norm=>
      obtain ⟨st,pend,fn,m,tm,ps,as',b,d5,h5,k1,k2,k3⟩:=q3
      refine ⟨_,h5,run _ h5 ?_,k3⟩
      show (match getObj l h4 with|some (.loop _ _ fn n tm params assign body d)=>(match setObj l (.loop .ready .norm fn n tm params assign body d) h4 with|some h=>RV.ok (.bool true) h|none=>.no)|_=>.no)=_
      rw [k1];dsimp only;rw [k2]
    | exit id=>
      obtain ⟨st,pend,fn,m,tm,ps,as',b,d5,h5,k1,k2,k3⟩:=q3
      refine ⟨_,h5,run _ h5 ?_,k3⟩
      show (match getObj l h4 with|some (.loop _ _ fn n tm params assign body d)=>(match setObj l (.loop .done (.exit id) fn n tm params assign body d) h4 with|some h=>RV.ok (.bool false) h|none=>.no)|_=>.no)=_
      rw [k1];dsimp only;rw [k2]
    | ret=>
      obtain ⟨st,pend,fn,m,tm,ps,as',b,d5,h5,k1,k2,k3⟩:=q3
      refine ⟨_,h5,run _ h5 ?_,k3⟩
      show (match getObj l h4 with|some (.loop _ _ fn n tm params assign body d)=>(match setObj l (.loop .done .ret fn n tm params assign body d) h4 with|some h=>RV.ok (.bool false) h|none=>.no)|_=>.no)=_
      rw [k1];dsimp only;rw [k2]

def rangeQ (l:Pos) (f:TF) (d:List Pos) (Q:CQ):AV→H→Prop:=fun _ h=>∃ st pend fn n tm params assign body dd h',getObj l h=some (.loop st pend fn n tm params assign body dd)∧st ≠ .busy∧setObj l (.loop .exhausted pend fn n tm params assign body dd) h=some h'∧Q pend f d h'
theorem endLoop_ok {l:Pos} {fs:FS} {v:AV} {h h':H} {st:LoopState} {pend:J} {fn n:Nat} {tm:M AV} {params:Array Tmp} {assign body:Code} {dd:Pos}
    (g:getObj l h=some (.loop st pend fn n tm params assign body dd)) (hst:st ≠ .busy) (s:setObj l (.loop .exhausted pend fn n tm params assign body dd) h=some h'):endLoopE l fs (.ok v h) = .ok pend fs h':=by
  unfold endLoopE
  dsimp only
  rw [g]
  cases st <;> dsimp only <;> first|exact absurd rfl hst|rw [s]
theorem WC_range {x:Cx} {fo:Operand} {params:Array Tmp} {assign body:Code} {f:TF} {d:List Pos} {h h1 h2:H} {Q:CQ} {fv:AV} {dd l:Pos} (hr:x.r=none) (hf:evT (mkM f) fo=some fv)
    (hd:newObj .dfr h=some (dd,h1)) (hl:newObj (.loop .ready .norm x.g x.n (mkM f) params assign body dd) h1=some (l,h2))
    (w:WV (callV x.P (om x.P x.K) fv [.yld l] h2) (rangeQ l f (dd :: d) Q)):WC x (.rangeFunc fo params assign body) f d h Q:=by
  obtain ⟨v,h3,e,st,pend,fn,n,tm,ps,as',b,d5,h4,k1,k2,k3,q⟩:=w
  refine ⟨pend,f,dd :: d,h4,?_,q⟩
  show rangeE x.P (om x.P x.K) fo params assign body ⟨x.g,x.n,mkM f,d,x.r⟩ h = .ok pend ⟨x.g,x.n,mkM f,dd :: d,x.r⟩ h4
  rw [hr]
  unfold rangeE
  dsimp only
  rw [hf]
  dsimp only
  rw [hd]
  dsimp only
  unfold loopE
  dsimp only
  rw [hl]
  dsimp only
  rw [e]
  exact endLoop_ok k1 k2 k3
theorem WC_rangeIn {x:Cx} {fo:Operand} {params:Array Tmp} {assign body:Code} {f:TF} {d:List Pos} {h h2:H} {Q:CQ} {fv:AV} {dd l l0:Pos} {st0:LoopState} {pend0:J} {fn0 n0:Nat} {tm0:M AV} {ps0:Array Tmp} {as0 b0:Code} (hr:x.r=some l0) (hf:evT (mkM f) fo=some fv)
    (hd:getObj l0 h=some (.loop st0 pend0 fn0 n0 tm0 ps0 as0 b0 dd)) (hl:newObj (.loop .ready .norm x.g x.n (mkM f) params assign body dd) h=some (l,h2))
    (w:WV (callV x.P (om x.P x.K) fv [.yld l] h2) (rangeQ l f d Q)):WC x (.rangeFunc fo params assign body) f d h Q:=by
  obtain ⟨v,h3,e,st,pend,fn,n,tm,ps,as',b,d5,h4,k1,k2,k3,q⟩:=w
  refine ⟨pend,f,d,h4,?_,q⟩
  show rangeE x.P (om x.P x.K) fo params assign body ⟨x.g,x.n,mkM f,d,x.r⟩ h = .ok pend ⟨x.g,x.n,mkM f,d,x.r⟩ h4
  rw [hr]
  unfold rangeE
  dsimp only
  rw [hf]
  dsimp only
  rw [hd]
  dsimp only
  unfold loopE
  dsimp only
  rw [hl]
  dsimp only
  rw [e]
  exact endLoop_ok k1 k2 k3

structure Same (h h':H):Prop where
  next:h'.next=h.next
  clock:h'.clock=h.clock
theorem Same.rfl' (h:H):Same h h:=⟨rfl,rfl⟩
theorem Same.trans {a b c:H} (x:Same a b) (y:Same b c):Same a c:=⟨y.next.trans x.next,y.clock.trans x.clock⟩
theorem Same.nx {a b:H} (x:Same a b) (k:Nat):nx b k=nx a k:=by unfold Go.Ev.nx;rw [x.next]
theorem Same.X {h:H} {G G':List AO} {w w':Nat} (e:G'.length=G.length):Same (X h G w) (X h G' w'):=⟨by show nxP h.next G'.length=nxP h.next G.length;rw [e],by rw [zQz,zQz,e]⟩

def YR (lo:Nat) (hb:H) (J:List AO) (I D:H→Prop):AV→H→Prop:=fun v h'=>∃ hb' J' w',h'=X hb' (J++J') w'∧Same hb hb'∧lo≤w'∧w'<hb.clock∧(v = .bool true∧I hb'∨v = .bool false∧D hb')
def Hands (P:Program) (K:List Con) (B:H→Prop) (fv:AV) (xs:List (List AV)):Prop:=
  ∀ (l:Pos) (hb0:H) (I:Nat→H→Prop) (D:H→Prop) (lo:Nat),lo≤hb0.w→hb0.w≤hb0.clock→(∀ i h,I i h→B h∧Same hb0 h) →
    (∀ i x,xs[i]? = some x → ∀ hb J w,I i hb→lo≤w→w≤hb.clock+J.length→WV ((om P K).call (.yld l x) (X hb J w)) (YR lo hb J (I (i+1)) D)) →
    I 0 hb0→WV (callV P (om P K) fv [.yld l] hb0) fun _ h'=>∃ hb J w,h'=X hb J w∧Same hb0 hb∧lo≤w∧w≤hb.clock+J.length∧(I xs.length hb∨D hb)

theorem yOy {h hb:H} {v:AV} {l:List AO} {w:Nat} {Q:AV→H→Prop} (hw:w<h.clock) (q:Q v (X hb l (min h.w w))):WV (pureCall h (.ok v (X hb l w))) Q:=by
  refine ⟨v,_,?_,q⟩
  obtain ⟨objs,next,clock,w0⟩:=h
  have hb1:Nat.ble clock w=false:=by
    cases hc:Nat.ble clock w with
    | false=>rfl
    | true=>have:=Nat.le_of_ble_eq_true hc;exact absurd hw (by show ¬ w<clock;omega)
  show (bif Nat.ble clock w && flat v then RV.ok v ⟨objs,next,clock,w0⟩ else RV.ok v ⟨pushAll hb.objs hb.next hb.clock l,nxP hb.next l.length,hb.clock+l.length,bif Nat.ble w0 w then w0 else w⟩)=_
  rw [hb1]
  have e:(bif Nat.ble w0 w then w0 else w)=min w0 w:=by
    cases hb:Nat.ble w0 w with
    | true=>have:=Nat.le_of_ble_eq_true hb;simp only [cond];omega
    | false=>
               have : ¬ (w0≤w):=fun hh=>by rw [Nat.ble_eq_true_of_le hh] at hb;cases hb
               simp only [cond];omega
  rw [e];rfl
end
section
variable {P:Program} {K:List Con}
theorem yDx {x:Cx} {fo:Operand} {params:Array Tmp} {assign body:Code} {f:TF} {d:List Pos} {h:H} (wf:Wf h) {L:List AO} {w:Nat} {Q:CQ} {fv:AV} (hr:x.r=none) (hf:evT (mkM f) fo=some fv)
    (q : ∀ o,o=AO.loop .ready .norm x.g x.n (mkM f) params assign body (nx h L.length)→WV (callV x.P (om x.P x.K) fv [.yld (nx h (L.length+1))] (X h (L++[.dfr,o]) w)) (rangeQ (nx h (L.length+1)) f (nx h L.length :: d) Q)):WC x (.rangeFunc fo params assign body) f d (X h L w) Q:=by
  refine WC_range (dd:=nx h L.length) (l:=nx h (L.length+1)) (h1:=X h (L++[.dfr]) w) hr hf (yTz wf .dfr L w) ?_ (q _ rfl)
  rw [yTz wf,List.append_assoc,List.length_append];rfl
theorem yJx {h:H} (wf:Wf h) {L:List AO} {w k:Nat} {o:AO} {args:List AV} {Q:AV→H→Prop} {st:LoopState} {pend:J} {g n:Nat} {f0 f1:TF} {params:Array Tmp} {assign body:Code} {dd:Pos}
    (hk:L[k]? = some o) (ho:o = .loop st pend g n (mkM f0) params assign body dd) (hp:setParams n params.toList args (mkM f0)=some (mkM f1))
    (q:WC ⟨P,K,g,n,some (nx h k)⟩ assign f1 [] (X h L w) (yldA ⟨P,K,g,n,some (nx h k)⟩ (nx h k) body Q)):WV ((om P K).call (.yld (nx h k) args) (X h L w)) Q:=
  WV_yld (by rw [zQx wf,hk,ho]) hp q
theorem zHv {α : Type} {L:List α} {k:Nat} {o : α} (hk:L[k]? = some o):k<L.length:=by
  rcases Nat.lt_or_ge k L.length with h|h
  · exact h
  · rw [List.getElem?_eq_none h] at hk;cases hk
theorem yVz {x:Cx} {h:H} (wf:Wf h) {L:List AO} {w k:Nat} {o:AO} {Q:AV→H→Prop} {pend:J} {g n:Nat} {tm:M AV} {params:Array Tmp} {assign body body':Code} {dd:Pos} {f:TF} {d:List Pos}
    (hk:L[k]? = some o) (ho:o = .loop .ready pend g n tm params assign body' dd)
    (q : ∀ o',o'=AO.loop .busy pend g n tm params assign body' dd→WC x body f d (X h (L.set k o') (min (h.clock+k) w)) (yldB (nx h k) Q)):yldA x (nx h k) body Q .norm f d (X h L w):=
  ⟨pend,g,n,tm,params,assign,body',dd,_,by rw [zQx wf,hk,ho],zYx L w k _ (zHv hk),q _ rfl⟩
theorem yHv {h:H} (wf:Wf h) {L:List AO} {w k:Nat} {o:AO} {Q:AV→H→Prop} {st:LoopState} {pend:J} {g n:Nat} {tm:M AV} {params:Array Tmp} {assign body:Code} {dd:Pos} {f:TF} {d:List Pos}
    (hk:L[k]? = some o) (ho:o = .loop st pend g n tm params assign body dd)
    (q:Q (.bool true) (X h (L.set k (.loop .ready .norm g n tm params assign body dd)) (min (h.clock+k) w))):yldB (nx h k) Q .norm f d (X h L w):=
  ⟨st,pend,g,n,tm,params,assign,body,dd,_,by rw [zQx wf,hk,ho],zYx L w k _ (zHv hk),q⟩
theorem ySz {h:H} (wf:Wf h) {L:List AO} {w k:Nat} {o:AO} {Q:AV→H→Prop} {st:LoopState} {pend:J} {g n:Nat} {tm:M AV} {params:Array Tmp} {assign body:Code} {dd:Pos} {f:TF} {d:List Pos}
    (hk:L[k]? = some o) (ho:o = .loop st pend g n tm params assign body dd)
    (q : ∀ o',o'=AO.loop .done .ret g n tm params assign body dd→Q (.bool false) (X h (L.set k o') (min (h.clock+k) w))):yldB (nx h k) Q .ret f d (X h L w):=
  ⟨st,pend,g,n,tm,params,assign,body,dd,_,by rw [zQx wf,hk,ho],zYx L w k _ (zHv hk),q _ rfl⟩
theorem zYv {h:H} (wf:Wf h) {L:List AO} {w k:Nat} {o:AO} {Q:CQ} {st:LoopState} {pend:J} {g n:Nat} {tm:M AV} {params:Array Tmp} {assign body:Code} {dd:Pos} {f:TF} {d:List Pos} {v:AV}
    (hk:L[k]? = some o) (ho:o = .loop st pend g n tm params assign body dd) (hst:st ≠ .busy)
    (q : ∀ o',o'=AO.loop .exhausted pend g n tm params assign body dd→Q pend f d (X h (L.set k o') (min (h.clock+k) w))):rangeQ (nx h k) f d Q v (X h L w):=
  ⟨st,pend,g,n,tm,params,assign,body,dd,_,by rw [zQx wf,hk,ho],hst,zYx L w k _ (zHv hk),q _ rfl⟩
theorem yJv {h:H} (wf:Wf h) {L:List AO} {w k:Nat} (hk:L[k]? = some .dfr):takeAll [nx h k] (X h L w)=some (X h (L.set k .taken) (min (h.clock+k) w)):=by
  rw [takeAll,zQx wf,hk]
  dsimp only
  rw [zYx L w k _ (zHv hk)]
  rfl
end
end Go.Ev
end

section
namespace Go.Ev
section
variable {P:Program}
theorem zWz {t:TypeId} {u:TypeDesc} (h:P.underlying t=some u):pureRun P (underlying t)=some u:=by
  show pureRun P (match P.underlying t with|some d=>pure d|none=>stuck "no such type")=_
  rw [h];rfl
theorem zFy {tm:M AV} {g:FuncId} {first cap:Array Operand} {h:H} : makeFuncE tm (.func g) first cap h=(match evL tm first.toList with|some a=>(match evL tm cap.toList with|some b=>.ok (.fn g a b) h|none=>.no)|none=>.no):=by
  show (match evL tm first.toList,evL tm cap.toList with|some a,some b=>RV.ok (.fn g a b) h|_,_=>.no)=_
  cases evL tm first.toList <;> cases evL tm cap.toList <;> rfl
theorem retc0 {h:H} {a t:Nat} {f:TF} {v:AV} (ha:a<384) (hl:loadE P t (f a) h=some v):retE P [.cell a t] (mkM f) h = .ok v h:=by
  simp only [retE,resultsE,resultE,yNy _ _ ha,hl]
end
end Go.Ev
end

section
namespace Go.Ev
section
variable {P:Program}
theorem readM_of {m:Nat→Option AV} : ∀ {n off:Nat} {cs:List AV},cs.length=n→(∀ k,k<n→m (off+k)=cs[k]?)→readM m n off=some cs
  | 0,_,cs,hl,_=>by rw [List.eq_nil_of_length_eq_zero hl];rfl
  | n+1,off,[],hl,_=>by cases hl
  | n+1,off,c :: cs,hl,h=>by
    unfold readM
    have h0:=h 0 (by omega)
    rw [Nat.add_zero] at h0
    rw [h0]
    have ih:=readM_of (m:=m) (n:=n) (off:=off+1) (cs:=cs) (by simpa using hl) (fun k hk=>by
      have:=h (k+1) (by omega)
      rw [show off+1+k=off+(k+1) from by omega]
      simpa using this)
    simp only [List.getElem?_cons_zero]
    rw [show Nat.succ off=off+1 from rfl,ih]
theorem copyE_X {h0:H} (wf:Wf h0) {t e ee:TypeId} {size n len off esz k w:Nat} {cap:Option Nat} {x:AV} {cs old:List AV} {l:List AO} (hu:P.underlying t=some (.slice e)) (hz:sizeE P e=some size)
    (hs:srcCells (X h0 l w) size x=some (n,cs)) (hn:n≠0) (hl:n≤len) (hc:cs.length=n * size) (hk:l[k]? = some (.cells (zAy old) ee)) (ho:off+cs.length≤old.length) (h1:allOne cs=true) :
    copyE P t (.sl (nx h0 k) off len cap esz) x (X h0 l w) = .ok (.int .i64 (n:Int)) (X h0 (l.set k (.cells (zAy (splice old off cs)) ee)) (min (h0.clock+k) w)):=by
  unfold copyE
  rw [hu]
  dsimp only
  rw [hz]
  dsimp only
  rw [hs]
  dsimp only
  rw [zLz,Nat.ble_eq_true_of_le hl]
  dsimp only [cond]
  rw [show Nat.beq n 0=false from by rw [xZz];exact decide_eq_false hn]
  dsimp only
  rw [List.take_of_length_le (by omega),yJz wf hk ho h1]
  rfl
theorem yUy {α : Type} {f : α → AV} (hf : ∀ a,oneB (f a)=true) : ∀ l:List α,allOne (l.map f)=true
  | []=>rfl
  | a :: l=>by rw [List.map_cons,zZy,hf a];exact yUy hf l

theorem storeAll_many {id:Pos} {off:Nat} {cs:List AV} {h:H} (hl:2≤cs.length):storeAll id off cs h=writeCells id off cs h:=by
  match cs,hl with
  | a :: b :: l,_=>rfl
theorem storeE_whole {h0:H} (wf:Wf h0) {t ee n k w:Nat} {cs old:List AV} {l:List AO} (hz:sizeE P t=some n) (hn:2≤n) (hc:cs.length=n) (hold:old.length=n) (hk:l[k]? = some (.cells (zAy old) ee)) (h1:allOne cs=true) :
    storeE P t (.ptr (nx h0 k) 0) (.agg cs) (X h0 l w)=some (X h0 (l.set k (.cells (zAy cs) ee)) (min (h0.clock+k) w)):=by
  rw [xCv,hz,yPx,xYx,xZz,decide_eq_true hc]
  dsimp only [cond]
  rw [storeAll_many (by omega),yJz wf hk (by omega) h1,splice_all (by omega)]
theorem WV_soft {bar:Bar} {tm:M AV} {op:Op} {h0:H} {l l':List AO} {w w':Nat} {r:RV} {v:AV} {Q:AV→H→Prop} (e:r = .ok v (X h0 l' w')) (hb:barOk bar tm op=true) (q:Q v (X h0 l' (min w w'))):WV (unmark bar tm op (X h0 l w) r) Q:=by
  rw [e,unmark_store hb];exact WV_ok q
theorem nx_ne {h:H} {i j:Nat} (hij:i≠j):nx h i≠nx h j:=fun e=>hij (xEx e)

def Row (h:H) (v:AV) (m len:Nat) (cells:List AV):Prop:=Sl h v m len cells∨(len=0∧cells=[] ∧ ∃ id off esz,v = .sl id off 0 (some 0) esz)
end
end Go.Ev
end

section
namespace Go.Ev
section
variable {P:Program}
theorem zNy {α β : Type} {s:Sem α} {f : α → Sem β} : pureRun P (s >>= f)=(pureRun P s).bind fun a=>pureRun P (f a):=by
  show pureRun P (Sem.bind s f)=_
  induction s with
  | pure b=>rfl
  | program k ih=>exact ih P
  | _=>rfl
theorem zVz {α : Type} {a : α} : pureRun P (Pure.pure a:Sem α)=some a:=rfl
theorem yGv :pureRun P program=some P:=rfl
theorem pureRun_isAgg {t:TypeId} {k:IntKind} (hu:P.underlying t=some (.int k)):pureRun P (isAgg t)=some false:=by
  unfold isAgg
  rw [zNy,zWz hu]
  rfl
theorem zZz {t:TypeId} {k:IntKind} {cs:Array Value} {off:Nat} {v:Value} (hu:P.underlying t=some (.int k)) (hv:cs[off]? = some v):pureRun P (part t cs off)=some v:=by
  unfold part
  rw [zNy,pureRun_isAgg hu]
  simp only [Option.bind_some,hv]
  rfl
theorem yMw {t:TypeId} {k:IntKind} {d:Nat} {a b:Int} (hu:P.underlying t=some (.int k)):pureRun P (Op.equalIn (d+1) t (.int .i64 a) (.int .i64 b))=some (a == b):=by
  rw [Op.equalIn,zNy,zWz hu]
  rfl
theorem pureRun_eqTwo {t:TypeId} {f0 f1:Field} {k0 k1:IntKind} {d:Nat} {a b c e:Int} (hu:P.underlying t=some (.struct #[f0,f1])) (h0:P.underlying f0.type=some (.int k0)) (h1:P.underlying f1.type=some (.int k1)) (o0:f0.offset=0) (o1:f1.offset=1)
    (n0:f0.name ≠ "_") (n1:f1.name ≠ "_") (hs:P.stoodInHeld t=false):pureRun P (Op.equalIn (d+2) t (.agg #[.int .i64 a,.int .i64 b]) (.agg #[.int .i64 c,.int .i64 e]))=some (a == c && b == e):=by
  rw [Op.equalIn,zNy,zWz hu]
  simp only [Option.bind_some]
  rw [zNy,yGv]
  simp only [Option.bind_some,hs]
  simp [zNy,n0,n1,o0,o1,zZz h0 (v:=.int .i64 a) (cs:=#[.int .i64 a,.int .i64 b]) (off:=0) rfl,zZz h0 (v:=.int .i64 c) (cs:=#[.int .i64 c,.int .i64 e]) (off:=0) rfl,yMw h0]
  by_cases hac:a=c
  · rw [if_pos hac]
    have hb:(a == c)=true:=by simpa using hac
    simp [hb,zVz,zNy,zZz h1 (v:=.int .i64 b) (cs:=#[.int .i64 a,.int .i64 b]) (off:=1) rfl,zZz h1 (v:=.int .i64 e) (cs:=#[.int .i64 c,.int .i64 e]) (off:=1) rfl,yMw h1]
    by_cases hbe:b=e
    · rw [if_pos hbe];simp [hbe,zVz]
    · rw [if_neg hbe];simp [hbe,zVz]
  · rw [if_neg hac]
    have hb:(a == c)=false:=by simpa using hac
    rw [hb];rfl
end
end Go.Ev
end

section
namespace Go.Ev
section
variable {P:Program}
theorem zerosE_one (z:AV) : ∀ n,zerosE [z] n=List.replicate n z
  | 0=>rfl
  | n+1=>by show [z]++zerosE [z] n=_;rw [zerosE_one z n];rfl
theorem makeSlice_X {h0:H} (wf:Wf h0) {t e size bytes n:Nat} {z:AV} {l:List AO} {w:Nat} (hu:P.underlying t=some (.slice e)) (hz:sizeE P e=some size) (E:El P e size bytes z) (hn:n≤1000) (hb:bytes≤100000) (h1:z.cells=[z]) :
    makeSliceE P t (.int .i64 (n:Int)) (.int .i64 (n:Int)) (X h0 l w) = .ok (.sl (nx h0 l.length) 0 n (some n) size) (X h0 (l++[.cells (zAy (List.replicate n z)) e]) w):=by
  obtain ⟨i,hi,rfl⟩:=Option.map_eq_some_iff.1 E.info
  have hs:i.size=size:=by
    unfold sizeE at hz
    rw [hi] at hz
    dsimp only at hz
    rw [zLz] at hz
    exact Option.some.inj hz
  unfold makeSliceE
  rw [hu]
  dsimp only
  rw [hi,E.zero]
  dsimp only
  rw [zTy]
  dsimp only
  have hc:(Nat.ble n n && Nat.ble n 1048576 && Nat.ble (i.bytes * n) 281474976710656 && Nat.beq z.cells.length i.size)=true:=by
    have h2:i.bytes * n≤100000 * 1000:=Nat.mul_le_mul hb hn
    rw [E.cells,hs,Nat.ble_eq_true_of_le (Nat.le_refl n),Nat.ble_eq_true_of_le (show n≤1048576 by omega),Nat.ble_eq_true_of_le (show i.bytes * n≤281474976710656 by omega)]
    simp
  rw [hc]
  dsimp only [cond]
  rw [zAw wf,h1,zerosE_one,hs]
theorem copyE_min {h0:H} (wf:Wf h0) {t e ee:TypeId} {size n len off esz k w:Nat} {cap:Option Nat} {x:AV} {cs old:List AV} {l:List AO} (hu:P.underlying t=some (.slice e)) (hz:sizeE P e=some size)
    (hs:srcCells (X h0 l w) size x=some (n,cs)) (hn:len≠0) (hl:len<n) (hc:cs.length=n * size) (hk:l[k]? = some (.cells (zAy old) ee)) (ho:off+len * size≤old.length) (h1:allOne (cs.take (len * size))=true) :
    copyE P t (.sl (nx h0 k) off len cap esz) x (X h0 l w) = .ok (.int .i64 (len:Int)) (X h0 (l.set k (.cells (zAy (splice old off (cs.take (len * size)))) ee)) (min (h0.clock+k) w)):=by
  unfold copyE
  rw [hu]
  dsimp only
  rw [hz]
  dsimp only
  rw [hs]
  dsimp only
  have hb:Nat.ble n len=false:=by
    cases h:Nat.ble n len with
    | false=>rfl
    | true=>have:=Nat.le_of_ble_eq_true h;omega
  rw [zLz,hb]
  dsimp only [cond]
  rw [show Nat.beq len 0=false from by rw [xZz];exact decide_eq_false hn]
  dsimp only
  have hle:len * size≤n * size:=Nat.mul_le_mul_right _ (by omega)
  rw [yJz wf hk (by rw [List.length_take];omega) h1]
  rfl
end
end Go.Ev
end

section
namespace Go.Ev
section
variable {P:Program}
theorem b_neq2_self {t:TypeId} {x y:Operand} {f0 f1:Field} {k0 k1:IntKind} {a b:Int} (hu:P.underlying t=some (.struct #[f0,f1])) (h0:P.underlying f0.type=some (.int k0)) (h1:P.underlying f1.type=some (.int k1)) (o0:f0.offset=0) (o1:f1.offset=1)
    (n0:f0.name ≠ "_") (n1:f1.name ≠ "_") (hs:P.stoodInHeld t=false) (hg:P.eqGuardType P.depth t=false):binE P .neq t x y (.agg [.int .i64 a,.int .i64 b]) (.agg [.int .i64 a,.int .i64 b])=some (.bool false):=by
  have es:binSlow P .neq t x y (.agg [.int .i64 a,.int .i64 b]) (.agg [.int .i64 a,.int .i64 b])=pureVal P (do eqGuard .neq t x y (.agg #[.int .i64 a,.int .i64 b]) (.agg #[.int .i64 a,.int .i64 b]);binOp .neq t (.agg #[.int .i64 a,.int .i64 b]) (.agg #[.int .i64 a,.int .i64 b])):=rfl
  have eb:binE P .neq t x y (.agg [.int .i64 a,.int .i64 b]) (.agg [.int .i64 a,.int .i64 b])=binSlow P .neq t x y (.agg [.int .i64 a,.int .i64 b]) (.agg [.int .i64 a,.int .i64 b]):=rfl
  rw [eb,es]
  have e1:pureRun P (eqGuard .neq t x y (.agg #[.int .i64 a,.int .i64 b]) (.agg #[.int .i64 a,.int .i64 b]))=some ():=by
    unfold eqGuard
    simp [zNy,yGv,hg,zVz]
  have e2:pureRun P (binOp .neq t (.agg #[.int .i64 a,.int .i64 b]) (.agg #[.int .i64 a,.int .i64 b]))=some (.bool false):=by
    show pureRun P (do pure (Value.bool (!(← Op.equalIn 10000 t (.agg #[.int .i64 a,.int .i64 b]) (.agg #[.int .i64 a,.int .i64 b])))))=_
    rw [zNy,show (10000:Nat)=9998+2 from rfl,pureRun_eqTwo hu h0 h1 o0 o1 n0 n1 hs]
    simp [zVz]
  unfold pureVal
  rw [zNy,e1]
  simp only [Option.bind_some]
  rw [e2]
  rfl
theorem b_eqlB {t:TypeId} {x y:Operand} {a b:Bool} (hu:P.underlying t=some .bool):binE P .eql t x y (.bool a) (.bool b)=some (.bool (a == b)):=by
  have es:binSlow P .eql t x y (.bool a) (.bool b)=pureVal P (do eqGuard .eql t x y (.bool a) (.bool b);binOp .eql t (.bool a) (.bool b)):=rfl
  have eb:binE P .eql t x y (.bool a) (.bool b)=binSlow P .eql t x y (.bool a) (.bool b):=rfl
  rw [eb,es]
  have e1:pureRun P (eqGuard .eql t x y (.bool a) (.bool b))=some ():=rfl
  have e2:pureRun P (binOp .eql t (.bool a) (.bool b))=some (.bool (a == b)):=by
    show pureRun P (do pure (Value.bool (← Op.equalIn 10000 t (.bool a) (.bool b))))=_
    rw [zNy,show (10000:Nat)=9999+1 from rfl,Op.equalIn,zNy,zWz hu]
    rfl
  unfold pureVal
  rw [zNy,e1]
  simp only [Option.bind_some]
  rw [e2]
  rfl
end
end Go.Ev
end

section
namespace Go.Ev
theorem bp :type_of% (And.intro (And.intro (And.intro (And.intro (@List.append_assoc.{0}) (@List.length_append.{0})) (And.intro (@List.length_cons.{0}) (@List.length_nil.{0}))) (And.intro (And.intro (@List.cons_append.{0}) (@List.nil_append.{0})) (And.intro (@List.append_nil.{0}) (And.intro (@List.getElem?_cons_zero.{0}) (@List.getElem?_cons_succ.{0}))))) (And.intro (And.intro (And.intro (@List.set_cons_zero.{0}) (@List.set_cons_succ.{0})) (And.intro (@List.drop_zero.{0}) (@List.drop_succ_cons.{0}))) (And.intro (And.intro (@List.take_zero.{0}) (@List.take_succ_cons.{0})) (And.intro (@List.take_nil.{0}) (And.intro (@List.drop_nil.{0}) (@List.toList_toArray.{0})))))):=And.intro (And.intro (And.intro (And.intro (@List.append_assoc.{0}) (@List.length_append.{0})) (And.intro (@List.length_cons.{0}) (@List.length_nil.{0}))) (And.intro (And.intro (@List.cons_append.{0}) (@List.nil_append.{0})) (And.intro (@List.append_nil.{0}) (And.intro (@List.getElem?_cons_zero.{0}) (@List.getElem?_cons_succ.{0}))))) (And.intro (And.intro (And.intro (@List.set_cons_zero.{0}) (@List.set_cons_succ.{0})) (And.intro (@List.drop_zero.{0}) (@List.drop_succ_cons.{0}))) (And.intro (And.intro (@List.take_zero.{0}) (@List.take_succ_cons.{0})) (And.intro (@List.take_nil.{0}) (And.intro (@List.drop_nil.{0}) (@List.toList_toArray.{0})))))

section
variable {P:Program}
def Cape (m:Nat) (a:AV):Prop:=∀ id off l esz,a = .sl id off l none esz→esz=m
theorem Capd.cape {a:AV} (h:Capd a) (m:Nat):Cape m a:=fun id off l esz e=>absurd e (h.1 id off l esz)
theorem Sl.srcE {h:H} {a:AV} {m len:Nat} {cells:List AV} (s:Sl h a m len cells) (hc:Cape m a) {t e:TypeId} (hu:P.underlying t=some (.slice e)) (hz:sizeE P e=some m):srcCells h m (reszT P t a)=some (len,cells):=by
  obtain ⟨hl,⟨rfl,rfl⟩|⟨id,off,cap,esz,o,cs,rfl,hg,hcs,hx⟩⟩:=s
  · rw [ySv,List.eq_nil_of_length_eq_zero (by omega:cells.length=0)];rfl
  · cases cap with
    | none=>
      rw [yFy]
      exact src_sl hg hcs (readM_of hl hx) (hc _ _ _ _ rfl)
    | some c=>
      rw [yBy hu hz]
      exact src_sl hg hcs (readM_of hl hx) rfl
end
end Go.Ev
end

section
namespace Go.Ev
section
variable {P:Program}
end
end Go.Ev
end

section
namespace Go.Ev
section
variable {P:Program}
end
end Go.Ev
end

section
namespace Go.Ev
section
variable {P:Program}
def KeepsG (h:H) (B:Nat) (v:AV) (G G':List AO):Prop:=∀ (j:Nat) (o:AO),G[j]? = some o→(∀ a b c,v ≠ .sl (nx h (B+j)) 0 a b c)→G'[j]? = some o
theorem yNv {h0:H} (wf:Wf h0) {t e size bytes k:Nat} {z x:AV} (hu:P.underlying t=some (.slice e)) (hz:sizeE P e=some size) (E:El P e size bytes z) {n:Nat} {new old:List AV} {l:List AO} {w e':Nat} (hn:n≤10000000) (hn0:n≠0) (hb:bytes≤100000)
    (hk:l[k]? = some (.cells (zAy old) e')) (hs:srcCells (X h0 l w) size x=some (n,new)) (hc:new.length=n * size):appendE P t (.sl (nx h0 k) 0 0 (some 0) size) x (X h0 l w) = .ok (.sl (nx h0 l.length) 0 n none size) (X h0 (l++[.cells (zAy new) e]) w):=by
  unfold appendE
  rw [hu];dsimp only;rw [hz];dsimp only;rw [hs];dsimp only
  rw [show Nat.beq n 0=false from by cases hb:Nat.beq n 0 with|false=>rfl|true=>exact absurd (Nat.eq_of_beq_eq_true hb) hn0]
  show appendSome P e size n new (.sl (nx h0 k) 0 0 (some 0) size) (X h0 l w)=_
  unfold appendSome
  dsimp only
  rw [show Nat.beq size size=true from Nat.beq_refl size]
  dsimp only [cond]
  rw [show Nat.ble (Nat.add 0 n) 0=false from by
    cases hb:Nat.ble (Nat.add 0 n) 0 with
    | false=>rfl
    | true=>exact absurd (Nat.le_of_ble_eq_true hb) (by show ¬ 0+n≤0;omega)]
  dsimp only [cond]
  rw [show readCells (X h0 l w) (nx h0 k) 0 (0 * size)=some [] from by
    unfold readCells
    rw [zQx wf,hk]
    show readM _ (0 * size) 0=some []
    rw [Nat.zero_mul];rfl]
  dsimp only
  rw [zLz,List.nil_append,show Nat.add 0 n=n from Nat.zero_add n]
  exact growE_X wf E hn hb hc
end
end Go.Ev
end

section
namespace Go.Proofs.YtkmdidplmfdikaaDoor
open Go.Ev
noncomputable def cW :Con:=⟨9,[],[(.e,[(.int .i64 1099511627776),(.int .i64 1099511627776),(.int .i64 1099511627776)])],(.bool true),[]⟩
noncomputable def KK :List Con:=[cW]
end Go.Proofs.YtkmdidplmfdikaaDoor
end

section
namespace Go.Proofs.YtkmdidplmfdikaaDoor
open Go.Ev
set_option maxRecDepth 100000
set_option linter.unusedSimpArgs false
set_option linter.unusedVariables false
set_option maxHeartbeats 2000000
theorem tEvF1 :type_of% (And.intro (And.intro (And.intro (And.intro (And.intro (@zSv) (@ia_2)) (And.intro (@sz_2) (@ia_3))) (And.intro (And.intro (@sz_3) (@zSy)) (And.intro (@zTx) (@zRx)))) (And.intro (And.intro (And.intro (@zVw) (@zUv)) (And.intro (@zSx) (@zSz))) (And.intro (And.intro (@zSw) (@zUz)) (And.intro (@zOw) (@zOx))))) (And.intro (And.intro (And.intro (And.intro (@zOy) (@zOz)) (And.intro (@zMy) (@zMz))) (And.intro (And.intro (@zLw) (@zLx)) (And.intro (@zVx) (@zOv)))) (And.intro (And.intro (And.intro (@xMv) (@yCy)) (And.intro (@yEx) (@yKw))) (And.intro (And.intro (@xLx) (@xMw)) (And.intro (@xMx) (@yKv)))))):=And.intro (And.intro (And.intro (And.intro (And.intro (@zSv) (@ia_2)) (And.intro (@sz_2) (@ia_3))) (And.intro (And.intro (@sz_3) (@zSy)) (And.intro (@zTx) (@zRx)))) (And.intro (And.intro (And.intro (@zVw) (@zUv)) (And.intro (@zSx) (@zSz))) (And.intro (And.intro (@zSw) (@zUz)) (And.intro (@zOw) (@zOx))))) (And.intro (And.intro (And.intro (And.intro (@zOy) (@zOz)) (And.intro (@zMy) (@zMz))) (And.intro (And.intro (@zLw) (@zLx)) (And.intro (@zVx) (@zOv)))) (And.intro (And.intro (And.intro (@xMv) (@yCy)) (And.intro (@yEx) (@yKw))) (And.intro (And.intro (@xLx) (@xMw)) (And.intro (@xMx) (@yKv)))))
abbrev Off (y:Int):Prop:=-1000000≤y∧y≤1000000
def nextSign (s d:Int):Int:=if 0<d then 1 else if d<0 then 2 else s
def chg (s d:Int):Int:=if s≠0∧s≠nextSign s d then 1 else 0
abbrev ii (n:Int):AV:=.int .i64 n

theorem second (i a b s c:Int) (ha:Off a) (hb:Off b) (hc:Off c) (h:H) (wf:Wf h) :
    (om Tryd.prog KK).call (.fn 78 [.agg [ii i,ii a,ii b,ii s],ii c]) h = .ok (ii (a - 2 * b+c)) h:=by
  refine zWv (zKv (fn:=Tryd.f78) Tryd.func78 rfl rfl rfl rfl rfl ?_)
  simp only [zKx]
  (repeat' (first
  | (with_reducible first|refine zJz ?_|refine zGw ?_|refine zEw ?_|refine zEx ?_|refine zEv ?_|refine zJy ?_|refine zGv ?_|refine zBw ?_|refine zDx ?_|refine zBv ?_|refine zCx ?_|refine zEz ?_|refine zCw ?_|refine zCz ?_|refine zBz ?_|refine zDv ?_|refine zDy ?_|refine zAx ?_|refine zAv ?_)
  | refine zCv ?_|refine zEy rfl ?_|refine zIx ?_|refine zIv ?_
  | ((first|refine zGx rfl rfl rfl rfl rfl fun K_ hK_=>?_|refine zGy rfl rfl rfl rfl rfl fun K_ hK_=>?_);simp only [zAz,zDz,zFw,↓reduceIte,reduceCtorEq,Nat.reduceEqDiff,Bool.not_true,Bool.not_false];refine hK_ _ ?_;clear hK_ K_)
  | refine zDw (by decide) ?_
  | ((try first|refine zJx rfl rfl rfl ?_|refine zIy rfl rfl ?_|refine zJw rfl rfl rfl ?_|refine zIw rfl rfl ?_);(refine zIz fun Q_ hQ_=>?_;simp (disch:=first|omega|(simp only [List.length_cons,List.length_nil,List.length_append];omega)) only [bb,bp,zKx,↓reduceIte,reduceCtorEq,Nat.reduceEqDiff,Nat.reduceLT,Nat.reduceLeDiff,Nat.reduceAdd,Nat.reduceMul,Nat.reduceSub,Nat.reduceBEq,Int.reduceToNat,cond_true,cond_false,eq_self,beq_self_eq_true,zHz wf,zHx wf,tEvF1,zHw,zAw wf];first|(refine zCy (Q:=Q_) (fun hp_=>?_) (fun hp_=>?_) <;> first|(exfalso;omega)|(refine hQ_ _ _ ?_;clear hQ_ Q_))|(refine zBy (Q:=Q_) (fun hp_=>?_) (fun hp_=>?_) <;> first|(exfalso;omega)|(refine hQ_ _ _ ?_;clear hQ_ Q_))|(refine hQ_ _ _ ?_;clear hQ_ Q_)))
  | (refine zFv fun K_ hK_=>?_;simp (disch:=omega) only [zFx,zAz,zGz,↓reduceIte,reduceCtorEq,Nat.reduceEqDiff,Nat.reduceLT];refine hK_ _ ?_;clear hK_ K_)))
  (refine zJv _ _ rfl (ret1 (by decide)) ?_;simp only [zAz,↓reduceIte,reduceCtorEq,Nat.reduceEqDiff];refine zMw rfl (by omega) ?_)
  exact ⟨rfl,rfl⟩

theorem isOffset (y:Int) (h:H) (wf:Wf h):(om Tryd.prog KK).call (.fn 33 [ii y]) h = .ok (.bool (decide (Off y))) h:=by
  refine zWv (zKv (fn:=Tryd.f33) Tryd.func33 rfl rfl rfl rfl rfl ?_)
  simp only [zKx]
  (repeat' (first
  | (with_reducible first|refine zJz ?_|refine zGw ?_|refine zEw ?_|refine zEx ?_|refine zEv ?_|refine zJy ?_|refine zGv ?_|refine zBw ?_|refine zDx ?_|refine zBv ?_|refine zCx ?_|refine zEz ?_|refine zCw ?_|refine zCz ?_|refine zBz ?_|refine zDv ?_|refine zDy ?_|refine zAx ?_|refine zAv ?_)
  | refine zCv ?_|refine zEy rfl ?_|refine zIx ?_|refine zIv ?_
  | ((first|refine zGx rfl rfl rfl rfl rfl fun K_ hK_=>?_|refine zGy rfl rfl rfl rfl rfl fun K_ hK_=>?_);simp only [zAz,zDz,zFw,↓reduceIte,reduceCtorEq,Nat.reduceEqDiff,Bool.not_true,Bool.not_false];refine hK_ _ ?_;clear hK_ K_)
  | refine zDw (by decide) ?_
  | ((try first|refine zJx rfl rfl rfl ?_|refine zIy rfl rfl ?_|refine zJw rfl rfl rfl ?_|refine zIw rfl rfl ?_);(refine zIz fun Q_ hQ_=>?_;simp (disch:=first|omega|(simp only [List.length_cons,List.length_nil,List.length_append];omega)) only [bb,bp,zKx,↓reduceIte,reduceCtorEq,Nat.reduceEqDiff,Nat.reduceLT,Nat.reduceLeDiff,Nat.reduceAdd,Nat.reduceMul,Nat.reduceSub,Nat.reduceBEq,Int.reduceToNat,cond_true,cond_false,eq_self,beq_self_eq_true];first|(refine zCy (Q:=Q_) (fun hp_=>?_) (fun hp_=>?_) <;> first|(exfalso;omega)|(refine hQ_ _ _ ?_;clear hQ_ Q_))|(refine zBy (Q:=Q_) (fun hp_=>?_) (fun hp_=>?_) <;> first|(exfalso;omega)|(refine hQ_ _ _ ?_;clear hQ_ Q_))|(refine hQ_ _ _ ?_;clear hQ_ Q_)))
  | (refine zFv fun K_ hK_=>?_;simp (disch:=omega) only [zFx,zAz,zGz,↓reduceIte,reduceCtorEq,Nat.reduceEqDiff,Nat.reduceLT];refine hK_ _ ?_;clear hK_ K_)))
  all_goals (refine zJv _ _ rfl (ret1 (by decide)) ?_;simp only [zAz,↓reduceIte,reduceCtorEq,Nat.reduceEqDiff];refine zMw rfl (by omega) ?_)
  all_goals exact ⟨by simp [*],rfl⟩

theorem isSpot (lo hi:Int) (h:H) (wf:Wf h):(om Tryd.prog KK).call (.fn 37 [.agg [ii lo,ii hi]]) h = .ok (.bool (decide (Off lo∧Off hi∧lo≤hi∧hi - lo≤4))) h:=by
  refine zWv (zKv (fn:=Tryd.f37) Tryd.func37 rfl rfl rfl rfl rfl ?_)
  simp only [zKx]
  (repeat' (first
  | (with_reducible first|refine zJz ?_|refine zGw ?_|refine zEw ?_|refine zEx ?_|refine zEv ?_|refine zJy ?_|refine zGv ?_|refine zBw ?_|refine zDx ?_|refine zBv ?_|refine zCx ?_|refine zEz ?_|refine zCw ?_|refine zCz ?_|refine zBz ?_|refine zDv ?_|refine zDy ?_|refine zAx ?_|refine zAv ?_)
  | refine zCv ?_|refine zEy rfl ?_|refine zIx ?_|refine zIv ?_
  | ((first|refine zGx rfl rfl rfl rfl rfl fun K_ hK_=>?_|refine zGy rfl rfl rfl rfl rfl fun K_ hK_=>?_);simp only [zAz,zDz,zFw,↓reduceIte,reduceCtorEq,Nat.reduceEqDiff,Bool.not_true,Bool.not_false];refine hK_ _ ?_;clear hK_ K_)
  | refine zDw (by decide) ?_
  | ((try first|refine zJx rfl rfl rfl ?_|refine zIy rfl rfl ?_|refine zJw rfl rfl rfl ?_|refine zIw rfl rfl ?_);(refine zIz fun Q_ hQ_=>?_;simp (disch:=first|omega|(simp only [List.length_cons,List.length_nil,List.length_append];omega)) only [bb,bp,zKx,↓reduceIte,reduceCtorEq,Nat.reduceEqDiff,Nat.reduceLT,Nat.reduceLeDiff,Nat.reduceAdd,Nat.reduceMul,Nat.reduceSub,Nat.reduceBEq,Int.reduceToNat,cond_true,cond_false,eq_self,beq_self_eq_true,zHz wf,zHx wf,tEvF1,zHw,zAw wf];first|(refine zCy (Q:=Q_) (fun hp_=>?_) (fun hp_=>?_) <;> first|(exfalso;omega)|(refine hQ_ _ _ ?_;clear hQ_ Q_))|(refine zBy (Q:=Q_) (fun hp_=>?_) (fun hp_=>?_) <;> first|(exfalso;omega)|(refine hQ_ _ _ ?_;clear hQ_ Q_))|(refine hQ_ _ _ ?_;clear hQ_ Q_)|(refine xCz (isOffset _ _ (wf.X (Nat.le_add_right _ _))) ?_;refine hQ_ _ _ ?_;clear hQ_ Q_)))
  | (refine zFv fun K_ hK_=>?_;simp (disch:=omega) only [zFx,zAz,zGz,↓reduceIte,reduceCtorEq,Nat.reduceEqDiff,Nat.reduceLT];refine hK_ _ ?_;clear hK_ K_)))
  all_goals (refine zJv _ _ rfl (ret1 (by decide)) ?_;simp only [zAz,↓reduceIte,reduceCtorEq,Nat.reduceEqDiff];refine zMw rfl (by omega) ?_)
  all_goals exact ⟨by simp [*],rfl⟩

theorem tup_next {i b c x y:Int} {s d:Int} (e1:x=nextSign s d) (e2:y=chg s d):AV.tup [.agg [ii i,ii b,ii c,ii x],ii y] = .tup [.agg [ii i,ii b,ii c,ii (nextSign s d)],ii (chg s d)]:=by rw [e1,e2]
theorem next (i a b s c:Int) (hi:0≤i∧i≤1000000) (ha:Off a) (hb:Off b) (hc:Off c) (h:H) (wf:Wf h) :
    (om Tryd.prog KK).call (.fn 60 [.agg [ii i,ii a,ii b,ii s],ii c]) h = .ok (.tup [.agg [ii (i+1),ii b,ii c,ii (nextSign s (a - 2 * b+c))],ii (chg s (a - 2 * b+c))]) h:=by
  refine zWv (zKv (fn:=Tryd.f60) Tryd.func60 rfl rfl rfl rfl rfl ?_)
  simp only [zKx]
  (repeat' (first
  | (with_reducible first|refine zJz ?_|refine zGw ?_|refine zEw ?_|refine zEx ?_|refine zEv ?_|refine zJy ?_|refine zGv ?_|refine zBw ?_|refine zDx ?_|refine zBv ?_|refine zCx ?_|refine zEz ?_|refine zCw ?_|refine zCz ?_|refine zBz ?_|refine zDv ?_|refine zDy ?_|refine zAx ?_|refine zAv ?_)
  | refine zCv ?_|refine zEy rfl ?_|refine zIx ?_|refine zIv ?_
  | ((first|refine zGx rfl rfl rfl rfl rfl fun K_ hK_=>?_|refine zGy rfl rfl rfl rfl rfl fun K_ hK_=>?_);simp only [zAz,zDz,zFw,↓reduceIte,reduceCtorEq,Nat.reduceEqDiff,Bool.not_true,Bool.not_false];refine hK_ _ ?_;clear hK_ K_)
  | refine zDw (by decide) ?_
  | ((try first|refine zJx rfl rfl rfl ?_|refine zIy rfl rfl ?_|refine zJw rfl rfl rfl ?_|refine zIw rfl rfl ?_);(refine zIz fun Q_ hQ_=>?_;simp (disch:=first|omega|(simp only [List.length_cons,List.length_nil,List.length_append];omega)) only [bb,bp,zKx,↓reduceIte,reduceCtorEq,Nat.reduceEqDiff,Nat.reduceLT,Nat.reduceLeDiff,Nat.reduceAdd,Nat.reduceMul,Nat.reduceSub,Nat.reduceBEq,Int.reduceToNat,cond_true,cond_false,eq_self,beq_self_eq_true,zHz wf,zHx wf,zFz wf,zHy wf,zBx wf,tEvF1,zHw,zAw wf];first|(refine zCy (Q:=Q_) (fun hp_=>?_) (fun hp_=>?_) <;> first|(exfalso;omega)|(refine hQ_ _ _ ?_;clear hQ_ Q_))|(refine zBy (Q:=Q_) (fun hp_=>?_) (fun hp_=>?_) <;> first|(exfalso;omega)|(refine hQ_ _ _ ?_;clear hQ_ Q_))|(refine hQ_ _ _ ?_;clear hQ_ Q_)|(refine xCz (second _ _ _ _ _ (by omega) (by omega) (by omega) _ (wf.X (Nat.le_add_right _ _))) ?_;refine hQ_ _ _ ?_;clear hQ_ Q_)))
  | (refine zFv fun K_ hK_=>?_;simp (disch:=omega) only [zFx,zAz,zGz,↓reduceIte,reduceCtorEq,Nat.reduceEqDiff,Nat.reduceLT];refine hK_ _ ?_;clear hK_ K_)))
  all_goals (refine zJv _ _ rfl (retc1 (by decide) (by decide) (by simp (disch:=first|omega|(simp only [List.length_cons,List.length_nil,List.length_append];omega)) only [bb,bp,zKx,↓reduceIte,reduceCtorEq,Nat.reduceEqDiff,Nat.reduceLT,Nat.reduceLeDiff,Nat.reduceAdd,Nat.reduceMul,Nat.reduceSub,Nat.reduceBEq,Int.reduceToNat,cond_true,cond_false,eq_self,beq_self_eq_true,zFz wf,tEvF1,zHw,zAw wf];rfl)) ?_;simp only [zAz,↓reduceIte,reduceCtorEq,Nat.reduceEqDiff];refine zMw rfl (by omega) ?_)
  all_goals exact ⟨tup_next (by
                                unfold nextSign;repeat' split
                                all_goals omega) (by
                                                     unfold chg nextSign;repeat' split
                                                     all_goals omega),rfl⟩
end Go.Proofs.YtkmdidplmfdikaaDoor
end

section
namespace Go.Proofs.YtkmdidplmfdikaaDoor
open Go.Ev
set_option maxRecDepth 100000
set_option linter.unusedSimpArgs false
set_option linter.unusedVariables false

theorem tEvF2 :type_of% (And.intro (And.intro (And.intro (And.intro (And.intro (@zSv) (@ia_2)) (And.intro (@sz_2) (@ia_3))) (And.intro (And.intro (@sz_3) (@zSy)) (And.intro (@zTx) (@zRx)))) (And.intro (And.intro (And.intro (@zVw) (@zUv)) (And.intro (@zSx) (@zSz))) (And.intro (And.intro (@zSw) (@zUz)) (And.intro (@zOw) (@zOx))))) (And.intro (And.intro (And.intro (And.intro (@zOy) (@zOz)) (And.intro (@zMy) (@zMz))) (And.intro (And.intro (@zLw) (@zLx)) (And.intro (@zVx) (@zOv)))) (And.intro (And.intro (And.intro (@xMv) (@yCy)) (And.intro (@yEx) (@yKw))) (And.intro (And.intro (@xLx) (@xMw)) (And.intro (@xMx) (@yKv)))))):=And.intro (And.intro (And.intro (And.intro (And.intro (@zSv) (@ia_2)) (And.intro (@sz_2) (@ia_3))) (And.intro (And.intro (@sz_3) (@zSy)) (And.intro (@zTx) (@zRx)))) (And.intro (And.intro (And.intro (@zVw) (@zUv)) (And.intro (@zSx) (@zSz))) (And.intro (And.intro (@zSw) (@zUz)) (And.intro (@zOw) (@zOx))))) (And.intro (And.intro (And.intro (And.intro (@zOy) (@zOz)) (And.intro (@zMy) (@zMz))) (And.intro (And.intro (@zLw) (@zLx)) (And.intro (@zVx) (@zOv)))) (And.intro (And.intro (And.intro (@xMv) (@yCy)) (And.intro (@yEx) (@yKw))) (And.intro (And.intro (@xLx) (@xMw)) (And.intro (@xMx) (@yKv)))))
def wsum (xs:List Int):Int:=xs.foldl (fun a x=>IntKind.i64.wrap (a+x)) 0
theorem wsum_take (xs:List Int) (k:Nat) (hk:k<xs.length):wsum (xs.take (k+1))=IntKind.i64.wrap (wsum (xs.take k)+xs[k]):=by
  unfold wsum
  rw [List.take_succ_eq_append_getElem hk,List.foldl_append];rfl
theorem map_get {xs:List Int} {k:Nat} (hk:k<xs.length):(xs.map ii)[k]? = some (ii xs[k]):=by simp [hk]

theorem sum (xs:List Int) (a:AV) (hn:xs.length≤1000000) (h:H) (wf:Wf h) (hs:Sl h a 1 xs.length (xs.map ii)) :
    (om Tryd.prog KK).call (.fn 36 [a]) h = .ok (ii (wsum xs)) h:=by
  refine zWv (zKv (fn:=Tryd.f36) Tryd.func36 rfl rfl rfl rfl rfl ?_)
  simp only [zKx]
  have hlen : ∀ h',lenE Tryd.prog 25 a h'=some (ii (xs.length:Int)):=fun h'=>hs.len un_25
  (repeat' (first
  | (with_reducible first|refine zJz ?_|refine zGw ?_|refine zEw ?_|refine zEx ?_|refine zEv ?_|refine zJy ?_|refine zGv ?_|refine zBw ?_|refine zDx ?_|refine zBv ?_|refine zCx ?_|refine zEz ?_|refine zCw ?_|refine zCz ?_|refine zBz ?_|refine zDv ?_|refine zDy ?_|refine zAx ?_|refine zAv ?_)
  | refine zCv ?_|refine zEy rfl ?_|refine zIx ?_|refine zIv ?_
  | ((first|refine zGx rfl rfl rfl rfl rfl fun K_ hK_=>?_|refine zGy rfl rfl rfl rfl rfl fun K_ hK_=>?_);simp only [zAz,zDz,zFw,↓reduceIte,reduceCtorEq,Nat.reduceEqDiff,Bool.not_true,Bool.not_false];refine hK_ _ ?_;clear hK_ K_)
  | refine zDw (by decide) ?_
  | ((try first|refine zJx rfl rfl rfl ?_|refine zIy rfl rfl ?_|refine zJw rfl rfl rfl ?_|refine zIw rfl rfl ?_);(refine zIz fun Q_ hQ_=>?_;simp (disch:=first|omega|(simp only [List.length_cons,List.length_nil,List.length_append];omega)) only [bb,bp,zKx,↓reduceIte,reduceCtorEq,Nat.reduceEqDiff,Nat.reduceLT,Nat.reduceLeDiff,Nat.reduceAdd,Nat.reduceMul,Nat.reduceSub,Nat.reduceBEq,Int.reduceToNat,cond_true,cond_false,eq_self,beq_self_eq_true,hlen,tEvF2,zHw,zAw wf];first|(refine zCy (Q:=Q_) (fun hp_=>?_) (fun hp_=>?_) <;> first|(exfalso;omega)|(refine hQ_ _ _ ?_;clear hQ_ Q_))|(refine zBy (Q:=Q_) (fun hp_=>?_) (fun hp_=>?_) <;> first|(exfalso;omega)|(refine hQ_ _ _ ?_;clear hQ_ Q_))|(refine hQ_ _ _ ?_;clear hQ_ Q_)))
  | (refine zFv fun K_ hK_=>?_;simp (disch:=omega) only [zFx,zAz,zGz,↓reduceIte,reduceCtorEq,Nat.reduceEqDiff,Nat.reduceLT];refine hK_ _ ?_;clear hK_ K_)))
  refine zTv (fun (k:Nat) f d h'=>k≤xs.length∧f 6=a∧f 7=ii (xs.length:Int)∧f 8=ii (k:Int)∧f 3=ii (wsum (xs.take k))∧d=[]∧h'=X h [] h.clock) (fun k=>xs.length - k) ?_ (xs.length+1) 0 (by omega) ?_
  · rintro k f d h' ⟨hk,h6,h7,h8,h3,rfl,rfl⟩
    by_cases hlt:k<xs.length
    · obtain ⟨id,off,hix,hld⟩:=hs.at1 wf hlt ik_25
      rw [map_get hlt] at hld
      have hw:=wsum_take xs k hlt
      (repeat' (first
  | (with_reducible first|refine zJz ?_|refine zGw ?_|refine zEw ?_|refine zEx ?_|refine zEv ?_|refine zJy ?_|refine zGv ?_|refine zBw ?_|refine zDx ?_|refine zBv ?_|refine zCx ?_|refine zEz ?_|refine zCw ?_|refine zCz ?_|refine zBz ?_|refine zDv ?_|refine zDy ?_|refine zAx ?_|refine zAv ?_)
  | refine zCv ?_|refine zEy rfl ?_|refine zIx ?_|refine zIv ?_
  | ((first|refine zGx rfl rfl rfl rfl rfl fun K_ hK_=>?_|refine zGy rfl rfl rfl rfl rfl fun K_ hK_=>?_);simp only [zAz,zDz,zFw,↓reduceIte,reduceCtorEq,Nat.reduceEqDiff,Bool.not_true,Bool.not_false];refine hK_ _ ?_;clear hK_ K_)
  | refine zDw (by decide) ?_
  | ((try first|refine zJx rfl rfl rfl ?_|refine zIy rfl rfl ?_|refine zJw rfl rfl rfl ?_|refine zIw rfl rfl ?_);(refine zIz fun Q_ hQ_=>?_;simp (disch:=first|omega|(simp only [List.length_cons,List.length_nil,List.length_append];omega)) only [bb,bp,zKx,↓reduceIte,reduceCtorEq,Nat.reduceEqDiff,Nat.reduceLT,Nat.reduceLeDiff,Nat.reduceAdd,Nat.reduceMul,Nat.reduceSub,Nat.reduceBEq,Int.reduceToNat,cond_true,cond_false,eq_self,beq_self_eq_true,h6,h7,h8,h3,hix,hld,tEvF2,zHw,zAw wf];first|(refine zCy (Q:=Q_) (fun hp_=>?_) (fun hp_=>?_) <;> first|(exfalso;omega)|(refine hQ_ _ _ ?_;clear hQ_ Q_))|(refine zBy (Q:=Q_) (fun hp_=>?_) (fun hp_=>?_) <;> first|(exfalso;omega)|(refine hQ_ _ _ ?_;clear hQ_ Q_))|(refine hQ_ _ _ ?_;clear hQ_ Q_)))
  | (refine zFv fun K_ hK_=>?_;simp (disch:=omega) only [zFx,zAz,zGz,↓reduceIte,reduceCtorEq,Nat.reduceEqDiff,Nat.reduceLT];refine hK_ _ ?_;clear hK_ K_)))
      exact zKy (k+1) (by omega) ⟨hlt,by simp only [zAz,↓reduceIte,reduceCtorEq,Nat.reduceEqDiff];exact h6,by simp only [zAz,↓reduceIte,reduceCtorEq,Nat.reduceEqDiff];exact h7,by simp only [zAz,↓reduceIte,reduceCtorEq,Nat.reduceEqDiff];rfl,by simp only [zAz,↓reduceIte,reduceCtorEq,Nat.reduceEqDiff];rw [hw],rfl,rfl⟩
    · have hkl:k=xs.length:=by omega
      subst hkl
      rw [List.take_length] at h3
      (repeat' (first
  | (with_reducible first|refine zJz ?_|refine zGw ?_|refine zEw ?_|refine zEx ?_|refine zEv ?_|refine zJy ?_|refine zGv ?_|refine zBw ?_|refine zDx ?_|refine zBv ?_|refine zCx ?_|refine zEz ?_|refine zCw ?_|refine zCz ?_|refine zBz ?_|refine zDv ?_|refine zDy ?_|refine zAx ?_|refine zAv ?_)
  | refine zCv ?_|refine zEy rfl ?_|refine zIx ?_|refine zIv ?_
  | ((first|refine zGx rfl rfl rfl rfl rfl fun K_ hK_=>?_|refine zGy rfl rfl rfl rfl rfl fun K_ hK_=>?_);simp only [zAz,zDz,zFw,↓reduceIte,reduceCtorEq,Nat.reduceEqDiff,Bool.not_true,Bool.not_false];refine hK_ _ ?_;clear hK_ K_)
  | refine zDw (by decide) ?_
  | ((try first|refine zJx rfl rfl rfl ?_|refine zIy rfl rfl ?_|refine zJw rfl rfl rfl ?_|refine zIw rfl rfl ?_);(refine zIz fun Q_ hQ_=>?_;simp (disch:=first|omega|(simp only [List.length_cons,List.length_nil,List.length_append];omega)) only [bb,bp,zKx,↓reduceIte,reduceCtorEq,Nat.reduceEqDiff,Nat.reduceLT,Nat.reduceLeDiff,Nat.reduceAdd,Nat.reduceMul,Nat.reduceSub,Nat.reduceBEq,Int.reduceToNat,cond_true,cond_false,eq_self,beq_self_eq_true,h6,h7,h8,h3,tEvF2,zHw,zAw wf];first|(refine zCy (Q:=Q_) (fun hp_=>?_) (fun hp_=>?_) <;> first|(exfalso;omega)|(refine hQ_ _ _ ?_;clear hQ_ Q_))|(refine zBy (Q:=Q_) (fun hp_=>?_) (fun hp_=>?_) <;> first|(exfalso;omega)|(refine hQ_ _ _ ?_;clear hQ_ Q_))|(refine hQ_ _ _ ?_;clear hQ_ Q_)))
  | (refine zFv fun K_ hK_=>?_;simp (disch:=omega) only [zFx,zAz,zGz,↓reduceIte,reduceCtorEq,Nat.reduceEqDiff,Nat.reduceLT];refine hK_ _ ?_;clear hK_ K_)))
      (refine zJv _ _ rfl (ret1 (by decide)) ?_;simp only [zAz,↓reduceIte,reduceCtorEq,Nat.reduceEqDiff];refine zMw rfl (by omega) ?_)
      exact ⟨rfl,rfl⟩
  · refine ⟨Nat.zero_le _,by simp only [zAz,↓reduceIte,reduceCtorEq,Nat.reduceEqDiff],by simp only [zAz,↓reduceIte,reduceCtorEq,Nat.reduceEqDiff],by simp only [zAz,↓reduceIte,reduceCtorEq,Nat.reduceEqDiff];rfl,by simp only [zAz,↓reduceIte,reduceCtorEq,Nat.reduceEqDiff];rfl,rfl,rfl⟩
end Go.Proofs.YtkmdidplmfdikaaDoor
end

section
namespace Go.Ev
variable {P:Program}
def CapL (a:AV):Prop:=∀ id off l c esz,a = .sl id off l (some c) esz→l≤c
def CapU (m:Nat) (a:AV):Prop:=CapL a∧Cape m a
end Go.Ev
end

section
namespace Go.Proofs.YtkmdidplmfdikaaDoor
open Go.Ev
set_option maxRecDepth 100000
set_option linter.unusedSimpArgs false
set_option linter.unusedVariables false

structure St5 where
  a:Int
  b:Int
  s:Int
  ch:Int
  be:Int
def St5.d (t:St5) (c:Int):Int:=t.a - 2 * t.b+c
def mstep (t:St5) (c:Int):St5:=⟨t.b,c,nextSign t.s (t.d c),t.ch+chg t.s (t.d c),t.be+max (t.d c) (0 - t.d c)⟩
def mfold (a b:Int) (r:List Int):St5:=r.foldl mstep ⟨a,b,0,0,0⟩
theorem mfold_snoc (a b:Int) (r:List Int) (c:Int):mfold a b (r++[c])=mstep (mfold a b r) c:=by unfold mfold;rw [List.foldl_append];rfl
theorem mfold_take (a b:Int) (r:List Int) (k:Nat) (hk:k<r.length):mfold a b (r.take (k+1))=mstep (mfold a b (r.take k)) r[k]:=by
  rw [List.take_succ_eq_append_getElem hk,mfold_snoc]
structure St5.In (t:St5) (k:Nat):Prop where
  a:Off t.a
  b:Off t.b
  ch0:0≤t.ch
  ch1:t.ch≤k
  be0:0≤t.be
  be1:t.be≤4000000 * k
theorem sum2 {x y:Int} {h0:H} (wf:Wf h0) {l:List AO} {w k e cap:Nat} (hk:l[k]? = some (.cells (zAy [ii x,ii y]) e)) (hw:w≤h0.clock+l.length) (hx : -1000000000000000000≤x∧x≤1000000000000000000) (hy : -1000000000000000000≤y∧y≤1000000000000000000) :
    (om Tryd.prog KK).call (.fn 36 [.sl (nx h0 k) 0 2 (some cap) 1]) (X h0 l w) = .ok (ii (x+y)) (X h0 l w):=by
  have:=sum [x,y] (.sl (nx h0 k) 0 2 (some cap) 1) (by simp) (X h0 l w) (wf.X hw) (Sl.new wf rfl hk)
  have e:wsum [x,y]=x+y:=by
    show IntKind.i64.wrap (IntKind.i64.wrap (0+x)+y)=_
    rw [xCy (0+x) (by omega) (by omega),xCy _ (by omega) (by omega)];omega
  rw [e] at this
  exact this

end Go.Proofs.YtkmdidplmfdikaaDoor
end

section
namespace Go.Proofs.YtkmdidplmfdikaaDoor
open Go.Ev
set_option maxRecDepth 100000
set_option linter.unusedSimpArgs false
set_option linter.unusedVariables false

theorem tEvF4 :type_of% (And.intro (And.intro (And.intro (And.intro (And.intro (@zSv) (@ia_2)) (And.intro (@sz_2) (@ia_3))) (And.intro (And.intro (@sz_3) (@zSy)) (And.intro (@zTx) (@zRx)))) (And.intro (And.intro (And.intro (@zVw) (@zUv)) (And.intro (@zSx) (@zSz))) (And.intro (And.intro (@zSw) (@zUz)) (And.intro (@zOw) (@zOx))))) (And.intro (And.intro (And.intro (And.intro (@zOy) (@zOz)) (And.intro (@zMy) (@zMz))) (And.intro (And.intro (@zLw) (@zLx)) (And.intro (@zVx) (@zOv)))) (And.intro (And.intro (And.intro (@xMv) (@yCy)) (And.intro (@yEx) (@yKw))) (And.intro (And.intro (@xLx) (@xMw)) (And.intro (@xMx) (@yKv)))))):=And.intro (And.intro (And.intro (And.intro (And.intro (@zSv) (@ia_2)) (And.intro (@sz_2) (@ia_3))) (And.intro (And.intro (@sz_3) (@zSy)) (And.intro (@zTx) (@zRx)))) (And.intro (And.intro (And.intro (@zVw) (@zUv)) (And.intro (@zSx) (@zSz))) (And.intro (And.intro (@zSw) (@zUz)) (And.intro (@zOw) (@zOx))))) (And.intro (And.intro (And.intro (And.intro (@zOy) (@zOz)) (And.intro (@zMy) (@zMz))) (And.intro (And.intro (@zLw) (@zLx)) (And.intro (@zVx) (@zOv)))) (And.intro (And.intro (And.intro (@xMv) (@yCy)) (And.intro (@yEx) (@yKw))) (And.intro (And.intro (@xLx) (@xMw)) (And.intro (@xMx) (@yKv)))))
def measOf :List Int→Int × Int
  | a :: b :: r=>((mfold a b r).ch,(mfold a b r).be)
  | _=>(0,0)
theorem all_step {α : Type} {p : α → Prop} {xs:List α} {k:Nat} (hk:k<xs.length) (h : ∀ i (hi:i<xs.length),i<k→p xs[i]) (hp:p xs[k]) : ∀ i (hi:i<xs.length),i<k+1→p xs[i]:=fun i hi hik=>by
  by_cases e:i=k
  · subst e;exact hp
  · exact h i hi (by omega)
theorem all_done {α : Type} {p : α → Prop} {xs:List α} (h : ∀ i (hi:i<xs.length),i<xs.length→p xs[i]) : ∀ x ∈ xs,p x:=fun x hx=>by
  obtain ⟨i,hi,rfl⟩:=List.getElem_of_mem hx
  exact h i hi hi
theorem all_not {α : Type} {p : α → Prop} {xs:List α} {k:Nat} (hk:k<xs.length) (hp : ¬ p xs[k]) : ¬ ∀ x ∈ xs,p x:=fun h=>hp (h _ (List.getElem_mem hk))

open Classical in
noncomputable def measR (xs:List Int):Int × Int × Int:=if xs.length=0∨4096<xs.length then (0,0,6) else if ∀ x ∈ xs,Off x then ((measOf xs).1,(measOf xs).2,0) else (0,0,3)

abbrev zLy :=zMx
theorem zXx {sp:List (Int × Int)} {i:Nat} (hi:i<sp.length):((zLy sp).drop (i * 2)).take 2=[ii sp[i].1,ii sp[i].2]:=yIy hi
theorem zRy {sp:List (Int × Int)} {i:Nat} (hi:i<sp.length):(zLy sp)[i * 2+0]? = some (ii sp[i].1)∧(zLy sp)[i * 2+1]? = some (ii sp[i].2):=by
  have h:=zXx hi
  have g : ∀ k,k<2→(zLy sp)[i * 2+k]? = [ii sp[i].1,ii sp[i].2][k]?:=fun k hk=>by
    rw [← h,List.getElem?_take_of_lt hk,List.getElem?_drop]
  exact ⟨g 0 (by omega),g 1 (by omega)⟩

def SpotOK (p:Int × Int):Prop:=Off p.1∧Off p.2∧p.1≤p.2∧p.2 - p.1≤4
instance (p:Int × Int):Decidable (SpotOK p):=by unfold SpotOK;infer_instance
open Classical in
noncomputable def spotsR (sp:List (Int × Int)) (turn:Int):Int:=if sp.length=0∨24<sp.length then 6 else if (∀ p ∈ sp,SpotOK p)∧0≤turn∧turn≤1000000 then 0 else 2

theorem CheckSpots (sp:List (Int × Int)) (turn:Int) (a:AV) (hn:sp.length≤1000000) (h:H) (wf:Wf h) (hs:Sl h a 2 sp.length (zLy sp)) :
    (om Tryd.prog KK).call (.fn 14 [.agg [a,ii turn]]) h = .ok (ii (spotsR sp turn)) h:=by
  refine zWv (zKv (fn:=Tryd.f14) Tryd.func14 rfl rfl rfl rfl rfl ?_)
  simp only [zKx]
  have hlen : ∀ h',lenE Tryd.prog 22 a h'=some (ii (sp.length:Int)):=fun h'=>hs.len yWv
  have ha1:oneB a=true∧AV.cells a=[a]:=by obtain ⟨_,⟨rfl,_⟩|⟨_,_,_,_,_,_,rfl,_⟩⟩:=hs <;> exact ⟨rfl,rfl⟩
  (repeat' (first
  | (with_reducible first|refine zJz ?_|refine zGw ?_|refine zEw ?_|refine zEx ?_|refine zEv ?_|refine zJy ?_|refine zGv ?_|refine zBw ?_|refine zDx ?_|refine zBv ?_|refine zCx ?_|refine zEz ?_|refine zCw ?_|refine zCz ?_|refine zBz ?_|refine zDv ?_|refine zDy ?_|refine zAx ?_|refine zAv ?_)
  | refine zCv ?_|refine zEy rfl ?_|refine zIx ?_|refine zIv ?_
  | ((first|refine zGx rfl rfl rfl rfl rfl fun K_ hK_=>?_|refine zGy rfl rfl rfl rfl rfl fun K_ hK_=>?_);simp only [zAz,zDz,zFw,↓reduceIte,reduceCtorEq,Nat.reduceEqDiff,Bool.not_true,Bool.not_false];refine hK_ _ ?_;clear hK_ K_)
  | refine zDw (by decide) ?_
  | ((try first|refine zJx rfl rfl rfl ?_|refine zIy rfl rfl ?_|refine zJw rfl rfl rfl ?_|refine zIw rfl rfl ?_);(refine zIz fun Q_ hQ_=>?_;simp (disch:=first|omega|(simp only [List.length_cons,List.length_nil,List.length_append];omega)) only [bb,bp,zKx,↓reduceIte,reduceCtorEq,Nat.reduceEqDiff,Nat.reduceLT,Nat.reduceLeDiff,Nat.reduceAdd,Nat.reduceMul,Nat.reduceSub,Nat.reduceBEq,Int.reduceToNat,cond_true,cond_false,eq_self,beq_self_eq_true,hlen,zHz wf,zHx wf,zFz wf,zHy wf,zBx wf,tEvF4,zHw,zAw wf];first|(refine zCy (Q:=Q_) (fun hp_=>?_) (fun hp_=>?_) <;> first|(exfalso;omega)|(refine hQ_ _ _ ?_;clear hQ_ Q_))|(refine zBy (Q:=Q_) (fun hp_=>?_) (fun hp_=>?_) <;> first|(exfalso;omega)|(refine hQ_ _ _ ?_;clear hQ_ Q_))|(refine hQ_ _ _ ?_;clear hQ_ Q_)))
  | (refine zFv fun K_ hK_=>?_;simp (disch:=omega) only [zFx,zAz,zGz,↓reduceIte,reduceCtorEq,Nat.reduceEqDiff,Nat.reduceLT];refine hK_ _ ?_;clear hK_ K_)))
  · (refine zJv _ _ rfl (ret1 (by decide)) ?_;simp only [zAz,↓reduceIte,reduceCtorEq,Nat.reduceEqDiff];refine zMw rfl (by omega) ?_)
    have e:spotsR sp turn=6:=if_pos (by omega)
    rw [e];exact ⟨rfl,rfl⟩
  · (refine zJv _ _ rfl (ret1 (by decide)) ?_;simp only [zAz,↓reduceIte,reduceCtorEq,Nat.reduceEqDiff];refine zMw rfl (by omega) ?_)
    have e:spotsR sp turn=6:=if_pos (by omega)
    rw [e];exact ⟨rfl,rfl⟩
  have e1 : ¬ (sp.length=0∨24<sp.length):=by omega
  refine zTv (fun (k:Nat) f d h'=>k≤sp.length∧f 1 = .ptr (nx h 0) 0∧f 16=a∧f 17=ii (sp.length:Int)∧f 18=ii (k:Int)∧d=[]∧(∃ G,h'=X h (.cells (zAy [a,ii turn]) 24 :: G) h.clock) ∧ ∀ i (hi:i<sp.length),i<k→SpotOK sp[i]) (fun k=>sp.length - k) ?_ (sp.length+1) 0 (by omega) ?_
  · rintro k f d h' ⟨hk,h1,h16,h17,h18,rfl,⟨G,rfl⟩,hall⟩
    by_cases hlt:k<sp.length
    · obtain ⟨id,off,hix,hld⟩:=hs.at wf hlt yLz
      have hld' : ∀ l w,loadAgg id off (some 2) (X h l w)=some (.agg [ii sp[k].1,ii sp[k].2]):=fun l w=>by rw [(hld l w).2,zXx hlt]
      clear hld
      (repeat' (first
  | (with_reducible first|refine zJz ?_|refine zGw ?_|refine zEw ?_|refine zEx ?_|refine zEv ?_|refine zJy ?_|refine zGv ?_|refine zBw ?_|refine zDx ?_|refine zBv ?_|refine zCx ?_|refine zEz ?_|refine zCw ?_|refine zCz ?_|refine zBz ?_|refine zDv ?_|refine zDy ?_|refine zAx ?_|refine zAv ?_)
  | refine zCv ?_|refine zEy rfl ?_|refine zIx ?_|refine zIv ?_
  | ((first|refine zGx rfl rfl rfl rfl rfl fun K_ hK_=>?_|refine zGy rfl rfl rfl rfl rfl fun K_ hK_=>?_);simp only [zAz,zDz,zFw,↓reduceIte,reduceCtorEq,Nat.reduceEqDiff,Bool.not_true,Bool.not_false];refine hK_ _ ?_;clear hK_ K_)
  | refine zDw (by decide) ?_
  | ((try first|refine zJx rfl rfl rfl ?_|refine zIy rfl rfl ?_|refine zJw rfl rfl rfl ?_|refine zIw rfl rfl ?_);(refine zIz fun Q_ hQ_=>?_;simp (disch:=first|omega|(simp only [List.length_cons,List.length_nil,List.length_append];omega)) only [bb,bp,zKx,↓reduceIte,reduceCtorEq,Nat.reduceEqDiff,Nat.reduceLT,Nat.reduceLeDiff,Nat.reduceAdd,Nat.reduceMul,Nat.reduceSub,Nat.reduceBEq,Int.reduceToNat,cond_true,cond_false,eq_self,beq_self_eq_true,h1,h16,h17,h18,hix,hld',zHz wf,zHx wf,zFz wf,zHy wf,zBx wf,tEvF4,zHw,zAw wf];first|(refine zCy (Q:=Q_) (fun hp_=>?_) (fun hp_=>?_) <;> first|(exfalso;omega)|(refine hQ_ _ _ ?_;clear hQ_ Q_))|(refine zBy (Q:=Q_) (fun hp_=>?_) (fun hp_=>?_) <;> first|(exfalso;omega)|(refine hQ_ _ _ ?_;clear hQ_ Q_))|(refine hQ_ _ _ ?_;clear hQ_ Q_)|(refine xCz (isSpot _ _ _ (wf.X (Nat.le_add_right _ _))) ?_;refine hQ_ _ _ ?_;clear hQ_ Q_)))
  | (refine zFv fun K_ hK_=>?_;simp (disch:=omega) only [zFx,zAz,zGz,↓reduceIte,reduceCtorEq,Nat.reduceEqDiff,Nat.reduceLT];refine hK_ _ ?_;clear hK_ K_)))
      · exact zKy (k+1) (by omega) ⟨hlt,by simp only [zAz,↓reduceIte,reduceCtorEq,Nat.reduceEqDiff];exact h1,by simp only [zAz,↓reduceIte,reduceCtorEq,Nat.reduceEqDiff];exact h16,by simp only [zAz,↓reduceIte,reduceCtorEq,Nat.reduceEqDiff];exact h17,by simp only [zAz,↓reduceIte,reduceCtorEq,Nat.reduceEqDiff];rfl,rfl,⟨_,rfl⟩,all_step hlt hall ‹_›⟩
      · (refine zJv _ _ rfl (ret1 (by decide)) ?_;simp only [zAz,↓reduceIte,reduceCtorEq,Nat.reduceEqDiff];refine zMw rfl (by omega) ?_)
        have e:spotsR sp turn=2:=by unfold spotsR;rw [if_neg e1,if_neg (fun hh=>all_not (p:=SpotOK) hlt ‹_› hh.1)]
        rw [e];exact ⟨rfl,rfl⟩
    · have hkl:k=sp.length:=by omega
      subst hkl
      have hx:=all_done hall
      (repeat' (first
  | (with_reducible first|refine zJz ?_|refine zGw ?_|refine zEw ?_|refine zEx ?_|refine zEv ?_|refine zJy ?_|refine zGv ?_|refine zBw ?_|refine zDx ?_|refine zBv ?_|refine zCx ?_|refine zEz ?_|refine zCw ?_|refine zCz ?_|refine zBz ?_|refine zDv ?_|refine zDy ?_|refine zAx ?_|refine zAv ?_)
  | refine zCv ?_|refine zEy rfl ?_|refine zIx ?_|refine zIv ?_
  | ((first|refine zGx rfl rfl rfl rfl rfl fun K_ hK_=>?_|refine zGy rfl rfl rfl rfl rfl fun K_ hK_=>?_);simp only [zAz,zDz,zFw,↓reduceIte,reduceCtorEq,Nat.reduceEqDiff,Bool.not_true,Bool.not_false];refine hK_ _ ?_;clear hK_ K_)
  | refine zDw (by decide) ?_
  | ((try first|refine zJx rfl rfl rfl ?_|refine zIy rfl rfl ?_|refine zJw rfl rfl rfl ?_|refine zIw rfl rfl ?_);(refine zIz fun Q_ hQ_=>?_;simp (disch:=first|omega|(simp only [List.length_cons,List.length_nil,List.length_append];omega)) only [bb,bp,zKx,↓reduceIte,reduceCtorEq,Nat.reduceEqDiff,Nat.reduceLT,Nat.reduceLeDiff,Nat.reduceAdd,Nat.reduceMul,Nat.reduceSub,Nat.reduceBEq,Int.reduceToNat,cond_true,cond_false,eq_self,beq_self_eq_true,h1,h16,h17,h18,zHz wf,zHx wf,zFz wf,zHy wf,zBx wf,tEvF4,zHw,zAw wf];first|(refine zCy (Q:=Q_) (fun hp_=>?_) (fun hp_=>?_) <;> first|(exfalso;omega)|(refine hQ_ _ _ ?_;clear hQ_ Q_))|(refine zBy (Q:=Q_) (fun hp_=>?_) (fun hp_=>?_) <;> first|(exfalso;omega)|(refine hQ_ _ _ ?_;clear hQ_ Q_))|(refine hQ_ _ _ ?_;clear hQ_ Q_)))
  | (refine zFv fun K_ hK_=>?_;simp (disch:=omega) only [zFx,zAz,zGz,↓reduceIte,reduceCtorEq,Nat.reduceEqDiff,Nat.reduceLT];refine hK_ _ ?_;clear hK_ K_)))
      · (refine zJv _ _ rfl (ret1 (by decide)) ?_;simp only [zAz,↓reduceIte,reduceCtorEq,Nat.reduceEqDiff];refine zMw rfl (by omega) ?_)
        have e:spotsR sp turn=2:=by unfold spotsR;rw [if_neg e1,if_neg (by omega)]
        rw [e];exact ⟨rfl,rfl⟩
      · (refine zJv _ _ rfl (ret1 (by decide)) ?_;simp only [zAz,↓reduceIte,reduceCtorEq,Nat.reduceEqDiff];refine zMw rfl (by omega) ?_)
        have e:spotsR sp turn=2:=by unfold spotsR;rw [if_neg e1,if_neg (by omega)]
        rw [e];exact ⟨rfl,rfl⟩
      · (refine zJv _ _ rfl (ret1 (by decide)) ?_;simp only [zAz,↓reduceIte,reduceCtorEq,Nat.reduceEqDiff];refine zMw rfl (by omega) ?_)
        have e:spotsR sp turn=0:=by unfold spotsR;rw [if_neg e1,if_pos ⟨hx,by omega,by omega⟩]
        rw [e];exact ⟨rfl,rfl⟩
  · refine ⟨Nat.zero_le _,by simp only [zAz,↓reduceIte,reduceCtorEq,Nat.reduceEqDiff],by simp only [zAz,↓reduceIte,reduceCtorEq,Nat.reduceEqDiff],by simp only [zAz,↓reduceIte,reduceCtorEq,Nat.reduceEqDiff],by simp only [zAz,↓reduceIte,reduceCtorEq,Nat.reduceEqDiff];rfl,rfl,⟨[],rfl⟩,fun i _ hi=>absurd hi (Nat.not_lt_zero i)⟩
end Go.Proofs.YtkmdidplmfdikaaDoor
end

section
namespace Go.Proofs.YtkmdidplmfdikaaDoor
open Go.Ev
set_option maxRecDepth 100000
set_option linter.unusedSimpArgs false
set_option linter.unusedVariables false

def InAt (sp:List (Int × Int)) (xs:List Int) (i:Nat):Prop:=∀ (p:Int × Int) (x:Int),sp[i]? = some p→xs[i]? = some x→p.1≤x∧x≤p.2
open Classical in
noncomputable def checkR (sp:List (Int × Int)) (turn:Int) (xs:List Int):Int × Int:=
  if spotsR sp turn≠0 then (0,spotsR sp turn) else if xs.length≠sp.length then (0,15) else if ∀ i,i<sp.length→InAt sp xs i then ((measOf xs).2+turn * (measOf xs).1,0) else (0,17)

theorem yYv {sp:List (Int × Int)} {turn:Int} (h:spotsR sp turn=0):0<sp.length∧sp.length≤24∧(∀ p ∈ sp,SpotOK p)∧0≤turn∧turn≤1000000:=by
  unfold spotsR at h
  split at h
  · cases h
  · rename_i h1
    split at h
    · rename_i h2;exact ⟨by omega,by omega,h2.1,h2.2.1,h2.2.2⟩
    · cases h
end Go.Proofs.YtkmdidplmfdikaaDoor
end

section
namespace Go.Proofs.YtkmdidplmfdikaaDoor
open Go.Ev
set_option maxRecDepth 100000
set_option linter.unusedSimpArgs false
set_option linter.unusedVariables false
set_option maxHeartbeats 2000000

theorem tEvR1 :type_of% (And.intro (And.intro (And.intro (And.intro (And.intro (@zSv) (@ia_2)) (And.intro (@sz_2) (@ia_3))) (And.intro (And.intro (@sz_3) (@zSy)) (And.intro (@zTx) (And.intro (@zRx) (@zVw))))) (And.intro (And.intro (And.intro (@zUv) (@zSx)) (And.intro (@zSz) (And.intro (@zSw) (@zUz)))) (And.intro (And.intro (@zOw) (@zOx)) (And.intro (@zOy) (And.intro (@zOz) (@zMy)))))) (And.intro (And.intro (And.intro (And.intro (@zMz) (@zLw)) (And.intro (@zLx) (@zVx))) (And.intro (And.intro (@zOv) (@xMv)) (And.intro (@yCy) (And.intro (@yEx) (@yKw))))) (And.intro (And.intro (And.intro (@xLx) (@xMw)) (And.intro (@xMx) (And.intro (@yKv) (@pb_62)))) (And.intro (And.intro (@pb_63) (@pb_35)) (And.intro (@yUx) (And.intro (@yZw) (@yUv))))))):=And.intro (And.intro (And.intro (And.intro (And.intro (@zSv) (@ia_2)) (And.intro (@sz_2) (@ia_3))) (And.intro (And.intro (@sz_3) (@zSy)) (And.intro (@zTx) (And.intro (@zRx) (@zVw))))) (And.intro (And.intro (And.intro (@zUv) (@zSx)) (And.intro (@zSz) (And.intro (@zSw) (@zUz)))) (And.intro (And.intro (@zOw) (@zOx)) (And.intro (@zOy) (And.intro (@zOz) (@zMy)))))) (And.intro (And.intro (And.intro (And.intro (@zMz) (@zLw)) (And.intro (@zLx) (@zVx))) (And.intro (And.intro (@zOv) (@xMv)) (And.intro (@yCy) (And.intro (@yEx) (@yKw))))) (And.intro (And.intro (And.intro (@xLx) (@xMw)) (And.intro (@xMx) (And.intro (@yKv) (@pb_62)))) (And.intro (And.intro (@pb_63) (@pb_35)) (And.intro (@yUx) (And.intro (@yZw) (@yUv))))))
theorem amount (y:Int) (hy : -9000000000000000000≤y∧y≤9000000000000000000) (h:H) (wf:Wf h):(om Tryd.prog KK).call (.fn 63 [ii y]) h = .ok (ii (max y (0 - y))) h:=by
  refine zWv (zKv (fn:=Tryd.f63) Tryd.func63 rfl rfl rfl rfl rfl ?_)
  simp only [zKx]
  (repeat' (first
  | (with_reducible first|refine zJz ?_|refine zGw ?_|refine zEw ?_|refine zEx ?_|refine zEv ?_|refine zJy ?_|refine zGv ?_|refine zBw ?_|refine zDx ?_|refine zBv ?_|refine zCx ?_|refine zEz ?_|refine zCw ?_|refine zCz ?_|refine zBz ?_|refine zDv ?_|refine zDy ?_|refine zAx ?_|refine zAv ?_)
  | refine zCv ?_|refine zEy rfl ?_|refine zIx ?_|refine zIv ?_
  | ((first|refine zGx rfl rfl rfl rfl rfl fun K_ hK_=>?_|refine zGy rfl rfl rfl rfl rfl fun K_ hK_=>?_);simp only [zAz,zDz,zFw,↓reduceIte,reduceCtorEq,Nat.reduceEqDiff,Bool.not_true,Bool.not_false];refine hK_ _ ?_;clear hK_ K_)
  | refine zDw (by decide) ?_
  | ((try first|refine zJx rfl rfl rfl ?_|refine zIy rfl rfl ?_|refine zJw rfl rfl rfl ?_|refine zIw rfl rfl ?_);(refine zIz fun Q_ hQ_=>?_;simp (disch:=first|omega|(simp only [List.length_cons,List.length_nil,List.length_append];omega)) only [bb,bp,zKx,↓reduceIte,reduceCtorEq,Nat.reduceEqDiff,Nat.reduceLT,Nat.reduceLeDiff,Nat.reduceAdd,Nat.reduceMul,Nat.reduceSub,Nat.reduceBEq,Int.reduceToNat,cond_true,cond_false,eq_self,beq_self_eq_true];first|(refine zCy (Q:=Q_) (fun hp_=>?_) (fun hp_=>?_) <;> first|(exfalso;omega)|(refine hQ_ _ _ ?_;clear hQ_ Q_))|(refine zBy (Q:=Q_) (fun hp_=>?_) (fun hp_=>?_) <;> first|(exfalso;omega)|(refine hQ_ _ _ ?_;clear hQ_ Q_))|(refine hQ_ _ _ ?_;clear hQ_ Q_)))
  | (refine zFv fun K_ hK_=>?_;simp (disch:=omega) only [zFx,zAz,zGz,↓reduceIte,reduceCtorEq,Nat.reduceEqDiff,Nat.reduceLT];refine hK_ _ ?_;clear hK_ K_)))
  (refine zJv _ _ rfl (ret1 (by decide)) ?_;simp only [zAz,↓reduceIte,reduceCtorEq,Nat.reduceEqDiff];refine zMw rfl (by omega) ?_)
  exact ⟨rfl,rfl⟩

def sd (xs:List Int) (i:Nat):Int:=xs.getD i 0 - 2 * xs.getD (i+1) 0+xs.getD (i+2) 0
def sds (xs:List Int) (k:Nat):List Int:=(List.range k).map (sd xs)
theorem sds_snoc (xs:List Int) (k:Nat):sds xs (k+1)=sds xs k++[sd xs k]:=by unfold sds;rw [List.range_succ,List.map_append];rfl
theorem xAy {xs:List Int} {i:Nat} (hi:i<xs.length):xs.getD i 0=xs[i]:=by simp [hi]

theorem Bends (xs:List Int) (a:AV) (hn:xs.length≤1000000) (hx : ∀ x ∈ xs,Off x) (h:H) (wf:Wf h) (hs:Sl h a 1 xs.length (xs.map ii)) :
    WV ((om Tryd.prog KK).call (.fn 62 [a]) h) fun v h'=>∃ M,h'=X h M h.w∧Sl h' v 1 (xs.length - 2) ((sds xs (xs.length - 2)).map ii):=by
  refine zKv (fn:=Tryd.f62) Tryd.func62 rfl rfl rfl rfl rfl ?_
  simp only [zKx]
  have hlen : ∀ h',lenE Tryd.prog 25 a h'=some (ii (xs.length:Int)):=fun h'=>hs.len un_25
  (repeat' (first
  | (with_reducible first|refine zJz ?_|refine zGw ?_|refine zEw ?_|refine zEx ?_|refine zEv ?_|refine zJy ?_|refine zGv ?_|refine zBw ?_|refine zDx ?_|refine zBv ?_|refine zCx ?_|refine zEz ?_|refine zCw ?_|refine zCz ?_|refine zBz ?_|refine zDv ?_|refine zDy ?_|refine zAx ?_|refine zAv ?_)
  | refine zCv ?_|refine zEy rfl ?_|refine zIx ?_|refine zIv ?_
  | ((first|refine zGx rfl rfl rfl rfl rfl fun K_ hK_=>?_|refine zGy rfl rfl rfl rfl rfl fun K_ hK_=>?_);simp only [zAz,zDz,zFw,↓reduceIte,reduceCtorEq,Nat.reduceEqDiff,Bool.not_true,Bool.not_false];refine hK_ _ ?_;clear hK_ K_)
  | refine zDw (by decide) ?_
  | ((try first|refine zJx rfl rfl rfl ?_|refine zIy rfl rfl ?_|refine zJw rfl rfl rfl ?_|refine zIw rfl rfl ?_);(refine zIz fun Q_ hQ_=>?_;simp (disch:=first|omega|(simp only [List.length_cons,List.length_nil,List.length_append];omega)) only [bb,bp,zKx,↓reduceIte,reduceCtorEq,Nat.reduceEqDiff,Nat.reduceLT,Nat.reduceLeDiff,Nat.reduceAdd,Nat.reduceMul,Nat.reduceSub,Nat.reduceBEq,Int.reduceToNat,cond_true,cond_false,eq_self,beq_self_eq_true,hlen,zHz wf,zHx wf,zFz wf,zHy wf,zBx wf,tEvR1,zHw,zAw wf];first|(refine zCy (Q:=Q_) (fun hp_=>?_) (fun hp_=>?_) <;> first|(exfalso;omega)|(refine hQ_ _ _ ?_;clear hQ_ Q_))|(refine zBy (Q:=Q_) (fun hp_=>?_) (fun hp_=>?_) <;> first|(exfalso;omega)|(refine hQ_ _ _ ?_;clear hQ_ Q_))|(refine hQ_ _ _ ?_;clear hQ_ Q_)))
  | (refine zFv fun K_ hK_=>?_;simp (disch:=omega) only [zFx,zAz,zGz,↓reduceIte,reduceCtorEq,Nat.reduceEqDiff,Nat.reduceLT];refine hK_ _ ?_;clear hK_ K_)))
  refine zTv (fun (k:Nat) f d h'=>k≤xs.length - 2∧f 0=a∧f 4=ii ((k:Int)+1)∧d=[] ∧ ∃ G,h'=X h G h.clock∧Grow h [] G (f 3) 1 2 k ((sds xs k).map ii)) (fun k=>xs.length - 2 - k) ?_ (xs.length+1) 0 (by omega) ?_
  · rintro k f d h' ⟨hk,q0,q4,rfl,G,rfl,hout⟩
    by_cases hlt:k<xs.length - 2
    · obtain ⟨ia,oa,hxa,hla⟩:=hs.at1 wf (i:=k) (by omega) ik_25
      obtain ⟨ib,ob,hxb,hlb⟩:=hs.at1 wf (i:=k+1) (by omega) ik_25
      obtain ⟨ic,oc,hxc,hlc⟩:=hs.at1 wf (i:=k+2) (by omega) ik_25
      rw [map_get (by omega),← xAy] at hla hlb hlc
      have ha:Off (xs.getD k 0):=by rw [xAy (by omega)];exact hx _ (List.getElem_mem _)
      have hb:Off (xs.getD (k+1) 0):=by rw [xAy (by omega)];exact hx _ (List.getElem_mem _)
      have hc:Off (xs.getD (k+2) 0):=by rw [xAy (by omega)];exact hx _ (List.getElem_mem _)
      have hxb':indexAddrE Tryd.prog 25 a (.int .i64 ((k:Int)+1))=some (.ptr ib ob):=hxb
      have hxc':indexAddrE Tryd.prog 25 a (.int .i64 ((k:Int)+1+1))=some (.ptr ic oc):=hxc
      have hxa':indexAddrE Tryd.prog 25 a (.int .i64 ((k:Int)+1 - 1))=some (.ptr ia oa):=by rw [show (k:Int)+1 - 1=(k:Int) from by omega];exact hxa
      clear hxa hxb hxc
      have hr3:=hout.resz (P:=Tryd.prog) 25
      obtain ⟨v,G',hg',happ,_⟩:=hout.appendD (P:=Tryd.prog) wf un_25 sz_2 el_2 (n:=1) (new:=[ii (sd xs k)]) (by omega) (by omega) (by omega) rfl rfl
      have happ':=fun tm op=>happ tm op (h.clock+(G.length+1)) (Nat.le_add_right _ _)
      simp only [List.length_nil,Nat.zero_add,List.nil_append,sd] at happ'
      clear happ
      (repeat' (first
  | (with_reducible first|refine zJz ?_|refine zGw ?_|refine zEw ?_|refine zEx ?_|refine zEv ?_|refine zJy ?_|refine zGv ?_|refine zBw ?_|refine zDx ?_|refine zBv ?_|refine zCx ?_|refine zEz ?_|refine zCw ?_|refine zCz ?_|refine zBz ?_|refine zDv ?_|refine zDy ?_|refine zAx ?_|refine zAv ?_)
  | refine zCv ?_|refine zEy rfl ?_|refine zIx ?_|refine zIv ?_
  | ((first|refine zGx rfl rfl rfl rfl rfl fun K_ hK_=>?_|refine zGy rfl rfl rfl rfl rfl fun K_ hK_=>?_);simp only [zAz,zDz,zFw,↓reduceIte,reduceCtorEq,Nat.reduceEqDiff,Bool.not_true,Bool.not_false];refine hK_ _ ?_;clear hK_ K_)
  | refine zDw (by decide) ?_
  | ((try first|refine zJx rfl rfl rfl ?_|refine zIy rfl rfl ?_|refine zJw rfl rfl rfl ?_|refine zIw rfl rfl ?_);(refine zIz fun Q_ hQ_=>?_;simp (disch:=first|omega|(simp only [List.length_cons,List.length_nil,List.length_append];omega)) only [bb,bp,zKx,↓reduceIte,reduceCtorEq,Nat.reduceEqDiff,Nat.reduceLT,Nat.reduceLeDiff,Nat.reduceAdd,Nat.reduceMul,Nat.reduceSub,Nat.reduceBEq,Int.reduceToNat,cond_true,cond_false,eq_self,beq_self_eq_true,q0,q4,hlen,zHz wf,zHx wf,zFz wf,zHy wf,zBx wf,tEvR1,zHw,zAw wf];first|(refine zCy (Q:=Q_) (fun hp_=>?_) (fun hp_=>?_) <;> first|(exfalso;omega)|(refine hQ_ _ _ ?_;clear hQ_ Q_))|(refine zBy (Q:=Q_) (fun hp_=>?_) (fun hp_=>?_) <;> first|(exfalso;omega)|(refine hQ_ _ _ ?_;clear hQ_ Q_))|(refine hQ_ _ _ ?_;clear hQ_ Q_)))
  | (refine zFv fun K_ hK_=>?_;simp (disch:=omega) only [zFx,zAz,zGz,↓reduceIte,reduceCtorEq,Nat.reduceEqDiff,Nat.reduceLT];refine hK_ _ ?_;clear hK_ K_)))
      refine zNw [.no,.no,.no,.no,.no,.no,.no,.no,.no,.no,.no,.no,.no,.no,.no,.no,.no,.full,.full,.full,.full] (by kernel_rfl) ?_
      (repeat' (first
  | (with_reducible first|refine zJz ?_|refine zGw ?_|refine zEw ?_|refine zEx ?_|refine zEv ?_|refine zJy ?_|refine zGv ?_|refine zBw ?_|refine zDx ?_|refine zBv ?_|refine zCx ?_|refine zEz ?_|refine zCw ?_|refine zCz ?_|refine zBz ?_|refine zDv ?_|refine zDy ?_|refine zAx ?_|refine zAv ?_)
  | refine zCv ?_|refine zEy rfl ?_|refine zIx ?_|refine zIv ?_
  | ((first|refine zGx rfl rfl rfl rfl rfl fun K_ hK_=>?_|refine zGy rfl rfl rfl rfl rfl fun K_ hK_=>?_);simp only [zAz,zDz,zFw,↓reduceIte,reduceCtorEq,Nat.reduceEqDiff,Bool.not_true,Bool.not_false];refine hK_ _ ?_;clear hK_ K_)
  | refine zDw (by decide) ?_
  | ((try first|refine zJx rfl rfl rfl ?_|refine zIy rfl rfl ?_|refine zJw rfl rfl rfl ?_|refine zIw rfl rfl ?_);(refine zIz fun Q_ hQ_=>?_;simp (disch:=first|omega|(simp only [List.length_cons,List.length_nil,List.length_append];omega)) only [bb,bp,zKx,↓reduceIte,reduceCtorEq,Nat.reduceEqDiff,Nat.reduceLT,Nat.reduceLeDiff,Nat.reduceAdd,Nat.reduceMul,Nat.reduceSub,Nat.reduceBEq,Int.reduceToNat,cond_true,cond_false,eq_self,beq_self_eq_true,q0,q4,hlen,hxa',hxb',hxc',hla,hlb,hlc,hr3,happ',yBy un_25 sz_2,zHz wf,zHx wf,zFz wf,zHy wf,zBx wf,tEvR1,zHw,zAw wf];first|(refine zCy (Q:=Q_) (fun hp_=>?_) (fun hp_=>?_) <;> first|(exfalso;omega)|(refine hQ_ _ _ ?_;clear hQ_ Q_))|(refine zBy (Q:=Q_) (fun hp_=>?_) (fun hp_=>?_) <;> first|(exfalso;omega)|(refine hQ_ _ _ ?_;clear hQ_ Q_))|(refine hQ_ _ _ ?_;clear hQ_ Q_)))
  | (refine zFv fun K_ hK_=>?_;simp (disch:=omega) only [zFx,zAz,zGz,↓reduceIte,reduceCtorEq,Nat.reduceEqDiff,Nat.reduceLT];refine hK_ _ ?_;clear hK_ K_)))
      refine zKy (k+1) (by omega) ⟨by omega,by simp only [zAz,↓reduceIte,reduceCtorEq,Nat.reduceEqDiff];exact q0,by simp only [zAz,↓reduceIte,reduceCtorEq,Nat.reduceEqDiff];rfl,rfl,G',rfl,?_⟩
      simp only [zAz,↓reduceIte,reduceCtorEq,Nat.reduceEqDiff]
      rw [sds_snoc,List.map_append]
      exact hg'
    · have hkl:k=xs.length - 2:=by omega
      (repeat' (first
  | (with_reducible first|refine zJz ?_|refine zGw ?_|refine zEw ?_|refine zEx ?_|refine zEv ?_|refine zJy ?_|refine zGv ?_|refine zBw ?_|refine zDx ?_|refine zBv ?_|refine zCx ?_|refine zEz ?_|refine zCw ?_|refine zCz ?_|refine zBz ?_|refine zDv ?_|refine zDy ?_|refine zAx ?_|refine zAv ?_)
  | refine zCv ?_|refine zEy rfl ?_|refine zIx ?_|refine zIv ?_
  | ((first|refine zGx rfl rfl rfl rfl rfl fun K_ hK_=>?_|refine zGy rfl rfl rfl rfl rfl fun K_ hK_=>?_);simp only [zAz,zDz,zFw,↓reduceIte,reduceCtorEq,Nat.reduceEqDiff,Bool.not_true,Bool.not_false];refine hK_ _ ?_;clear hK_ K_)
  | refine zDw (by decide) ?_
  | ((try first|refine zJx rfl rfl rfl ?_|refine zIy rfl rfl ?_|refine zJw rfl rfl rfl ?_|refine zIw rfl rfl ?_);(refine zIz fun Q_ hQ_=>?_;simp (disch:=first|omega|(simp only [List.length_cons,List.length_nil,List.length_append];omega)) only [bb,bp,zKx,↓reduceIte,reduceCtorEq,Nat.reduceEqDiff,Nat.reduceLT,Nat.reduceLeDiff,Nat.reduceAdd,Nat.reduceMul,Nat.reduceSub,Nat.reduceBEq,Int.reduceToNat,cond_true,cond_false,eq_self,beq_self_eq_true,q0,q4,hlen,zHz wf,zHx wf,zFz wf,zHy wf,zBx wf,tEvR1,zHw,zAw wf];first|(refine zCy (Q:=Q_) (fun hp_=>?_) (fun hp_=>?_) <;> first|(exfalso;omega)|(refine hQ_ _ _ ?_;clear hQ_ Q_))|(refine zBy (Q:=Q_) (fun hp_=>?_) (fun hp_=>?_) <;> first|(exfalso;omega)|(refine hQ_ _ _ ?_;clear hQ_ Q_))|(refine hQ_ _ _ ?_;clear hQ_ Q_)))
  | (refine zFv fun K_ hK_=>?_;simp (disch:=omega) only [zFx,zAz,zGz,↓reduceIte,reduceCtorEq,Nat.reduceEqDiff,Nat.reduceLT];refine hK_ _ ?_;clear hK_ K_)))
      refine zJv _ _ rfl (ret1 (by decide)) ?_
      simp only [zAz,↓reduceIte,reduceCtorEq,Nat.reduceEqDiff]
      rw [← hkl]
      exact hout.ret wf (fun M hM=>⟨M,rfl,hM⟩) (Nat.le_refl _)
  · refine ⟨Nat.zero_le _,by simp only [zAz,↓reduceIte,reduceCtorEq,Nat.reduceEqDiff],by simp only [zAz,↓reduceIte,reduceCtorEq,Nat.reduceEqDiff];rfl,rfl,[],rfl,?_⟩
    simp only [zAz,↓reduceIte,reduceCtorEq,Nat.reduceEqDiff]
    exact Grow.nil h [] [] 1 2
end Go.Proofs.YtkmdidplmfdikaaDoor
end

section
namespace Go.Proofs.YtkmdidplmfdikaaDoor
open Go.Ev
set_option maxRecDepth 100000
set_option linter.unusedSimpArgs false
set_option linter.unusedVariables false
set_option maxHeartbeats 2000000

theorem tEvR2 :type_of% (And.intro (And.intro (And.intro (And.intro (And.intro (@zSv) (@ia_2)) (And.intro (@sz_2) (@ia_3))) (And.intro (And.intro (@sz_3) (@zSy)) (And.intro (@zTx) (And.intro (@zRx) (@zVw))))) (And.intro (And.intro (And.intro (@zUv) (@zSx)) (And.intro (@zSz) (And.intro (@zSw) (@zUz)))) (And.intro (And.intro (@zOw) (@zOx)) (And.intro (@zOy) (And.intro (@zOz) (@zMy)))))) (And.intro (And.intro (And.intro (And.intro (@zMz) (@zLw)) (And.intro (@zLx) (@zVx))) (And.intro (And.intro (@zOv) (@xMv)) (And.intro (@yCy) (And.intro (@yEx) (@yKw))))) (And.intro (And.intro (And.intro (@xLx) (@xMw)) (And.intro (@xMx) (And.intro (@yKv) (@pb_62)))) (And.intro (And.intro (@pb_63) (@pb_35)) (And.intro (@yUx) (And.intro (@yZw) (@yUv))))))):=And.intro (And.intro (And.intro (And.intro (And.intro (@zSv) (@ia_2)) (And.intro (@sz_2) (@ia_3))) (And.intro (And.intro (@sz_3) (@zSy)) (And.intro (@zTx) (And.intro (@zRx) (@zVw))))) (And.intro (And.intro (And.intro (@zUv) (@zSx)) (And.intro (@zSz) (And.intro (@zSw) (@zUz)))) (And.intro (And.intro (@zOw) (@zOx)) (And.intro (@zOy) (And.intro (@zOz) (@zMy)))))) (And.intro (And.intro (And.intro (And.intro (@zMz) (@zLw)) (And.intro (@zLx) (@zVx))) (And.intro (And.intro (@zOv) (@xMv)) (And.intro (@yCy) (And.intro (@yEx) (@yKw))))) (And.intro (And.intro (And.intro (@xLx) (@xMw)) (And.intro (@xMx) (And.intro (@yKv) (@pb_62)))) (And.intro (And.intro (@pb_63) (@pb_35)) (And.intro (@yUx) (And.intro (@yZw) (@yUv))))))
structure R3 where
  ch:Int
  be:Int
  last:Int
def turns (last d:Int):Prop:=last > 0∧d<0∨last<0∧d > 0
instance (last d:Int):Decidable (turns last d):=by unfold turns;infer_instance
def rstep (t:R3) (d:Int):R3:=⟨if turns t.last d then t.ch+1 else t.ch,t.be+max d (0 - d),if d=0 then t.last else d⟩
def rfold (l:List Int):R3:=l.foldl rstep ⟨0,0,0⟩
theorem rfold_snoc (l:List Int) (d:Int):rfold (l++[d])=rstep (rfold l) d:=by unfold rfold;rw [List.foldl_append];rfl
theorem xSw (xs:List Int) (k:Nat):rfold (sds xs (k+1))=rstep (rfold (sds xs k)) (sd xs k):=by rw [sds_snoc,rfold_snoc]

def signOf (l:Int):Int:=if 0<l then 1 else if l<0 then 2 else 0
theorem sign_step (last d:Int):nextSign (signOf last) d=signOf (if d=0 then last else d):=by
  unfold nextSign signOf
  repeat' split
  all_goals omega
theorem chg_turns (last d:Int):chg (signOf last) d=if turns last d then 1 else 0:=by
  unfold chg nextSign signOf turns
  repeat' split
  all_goals omega
theorem both (a b:Int) (r:List Int) : ∀ k,k≤r.length→(mfold a b (r.take k)).a=(a :: b :: r).getD k 0∧(mfold a b (r.take k)).b=(a :: b :: r).getD (k+1) 0∧(mfold a b (r.take k)).s=signOf (rfold (sds (a :: b :: r) k)).last ∧
    (mfold a b (r.take k)).ch=(rfold (sds (a :: b :: r) k)).ch∧(mfold a b (r.take k)).be=(rfold (sds (a :: b :: r) k)).be
  | 0,_=>⟨rfl,rfl,rfl,rfl,rfl⟩
  | k+1,hk=>by
    obtain ⟨i1,i2,i3,i4,i5⟩:=both a b r k (by omega)
    have hd:(mfold a b (r.take k)).d r[k]=sd (a :: b :: r) k:=by
      unfold St5.d sd
      rw [i1,i2]
      simp [show k<r.length from hk]
    rw [mfold_take a b r k hk,xSw]
    unfold mstep rstep
    rw [hd]
    refine ⟨i2,?_,?_,?_,?_⟩
    · simp [show k<r.length from hk]
    · dsimp only;rw [i3];exact sign_step _ _
    · dsimp only;rw [i3,i4,chg_turns];split <;> omega
    · dsimp only;rw [i5]
theorem measOf_ref (xs:List Int):(measOf xs).1=(rfold (sds xs (xs.length - 2))).ch∧(measOf xs).2=(rfold (sds xs (xs.length - 2))).be:=by
  match xs with
  | []=>exact ⟨rfl,rfl⟩
  | [x]=>exact ⟨rfl,rfl⟩
  | a :: b :: r=>
    have h:=both a b r r.length (Nat.le_refl _)
    rw [List.take_length] at h
    exact ⟨h.2.2.2.1,h.2.2.2.2⟩
theorem sd_off {xs:List Int} (hx : ∀ x ∈ xs,Off x) {k:Nat} (hk:k<xs.length - 2) : -4000000≤sd xs k∧sd xs k≤4000000:=by
  have g : ∀ i,i<xs.length→Off (xs.getD i 0):=fun i hi=>by rw [xAy hi];exact hx _ (List.getElem_mem _)
  obtain ⟨a1,a2⟩:=g k (by omega)
  obtain ⟨b1,b2⟩:=g (k+1) (by omega)
  obtain ⟨c1,c2⟩:=g (k+2) (by omega)
  unfold sd
  omega
theorem rfold_in {xs:List Int} (hx : ∀ x ∈ xs,Off x) : ∀ k,k≤xs.length - 2→0≤(rfold (sds xs k)).ch∧(rfold (sds xs k)).ch≤k∧0≤(rfold (sds xs k)).be∧(rfold (sds xs k)).be≤4000000 * k
  | 0,_=>⟨Int.le_refl 0,Int.le_refl 0,Int.le_refl 0,Int.le_refl 0⟩
  | k+1,hk=>by
    have ih:=rfold_in hx k (by omega)
    have hd:=sd_off hx (k:=k) (by omega)
    rw [xSw]
    unfold rstep
    dsimp only
    push_cast
    refine ⟨?_,?_,?_,?_⟩
    · split <;> omega
    · split <;> omega
    · omega
    · omega

theorem rmeasure (xs:List Int) (a:AV) (hn:xs.length≤1000000) (hx : ∀ x ∈ xs,Off x) (h:H) (wf:Wf h) (hs:Sl h a 1 xs.length (xs.map ii)) :
    (om Tryd.prog KK).call (.fn 35 [a]) h = .ok (.tup [ii (measOf xs).1,ii (measOf xs).2]) h:=by
  rw [(measOf_ref xs).1,(measOf_ref xs).2]
  refine zWv (zKv (fn:=Tryd.f35) Tryd.func35 rfl rfl rfl rfl rfl ?_)
  simp only [zKx]
  (repeat' (first
  | (with_reducible first|refine zJz ?_|refine zGw ?_|refine zEw ?_|refine zEx ?_|refine zEv ?_|refine zJy ?_|refine zGv ?_|refine zBw ?_|refine zDx ?_|refine zBv ?_|refine zCx ?_|refine zEz ?_|refine zCw ?_|refine zCz ?_|refine zBz ?_|refine zDv ?_|refine zDy ?_|refine zAx ?_|refine zAv ?_)
  | refine zCv ?_|refine zEy rfl ?_|refine zIx ?_|refine zIv ?_
  | ((first|refine zGx rfl rfl rfl rfl rfl fun K_ hK_=>?_|refine zGy rfl rfl rfl rfl rfl fun K_ hK_=>?_);simp only [zAz,zDz,zFw,↓reduceIte,reduceCtorEq,Nat.reduceEqDiff,Bool.not_true,Bool.not_false];refine hK_ _ ?_;clear hK_ K_)
  | refine zDw (by decide) ?_
  | ((try first|refine zJx rfl rfl rfl ?_|refine zIy rfl rfl ?_|refine zJw rfl rfl rfl ?_|refine zIw rfl rfl ?_);(refine zIz fun Q_ hQ_=>?_;simp (disch:=first|omega|(simp only [List.length_cons,List.length_nil,List.length_append];omega)) only [bb,bp,zKx,↓reduceIte,reduceCtorEq,Nat.reduceEqDiff,Nat.reduceLT,Nat.reduceLeDiff,Nat.reduceAdd,Nat.reduceMul,Nat.reduceSub,Nat.reduceBEq,Int.reduceToNat,cond_true,cond_false,eq_self,beq_self_eq_true,zHz wf,zHx wf,zFz wf,zHy wf,zBx wf,tEvR2,zHw,zAw wf];first|(refine zCy (Q:=Q_) (fun hp_=>?_) (fun hp_=>?_) <;> first|(exfalso;omega)|(refine hQ_ _ _ ?_;clear hQ_ Q_))|(refine zBy (Q:=Q_) (fun hp_=>?_) (fun hp_=>?_) <;> first|(exfalso;omega)|(refine hQ_ _ _ ?_;clear hQ_ Q_))|(refine hQ_ _ _ ?_;clear hQ_ Q_)))
  | (refine zFv fun K_ hK_=>?_;simp (disch:=omega) only [zFx,zAz,zGz,↓reduceIte,reduceCtorEq,Nat.reduceEqDiff,Nat.reduceLT];refine hK_ _ ?_;clear hK_ K_)))
  refine zJx rfl rfl rfl ?_
  refine zIz fun Q_ hQ_=>?_
  simp (disch:=first|omega|(simp only [List.length_cons,List.length_nil,List.length_append];omega)) only [bb,bp,zKx,↓reduceIte,reduceCtorEq,Nat.reduceEqDiff,Nat.reduceLT,Nat.reduceLeDiff,Nat.reduceAdd,Nat.reduceMul,Nat.reduceSub,Nat.reduceBEq,Int.reduceToNat,cond_true,cond_false,eq_self,beq_self_eq_true,tEvR2,zHw,zAw wf]
  refine (Bends xs a hn hx _ (wf.X (Nat.le_add_right _ _)) (hs.up wf _ _)).mono ?_
  rintro v h' ⟨M,e,hM⟩
  rw [X_X,X_w,List.nil_append] at e
  subst e
  have wfM:Wf (X h M h.clock):=wf.X (Nat.le_add_right _ _)
  refine hQ_ _ _ ?_
  clear hQ_ Q_
  have hlv : ∀ h',lenE Tryd.prog 25 v h'=some (ii ((xs.length - 2:Nat):Int)):=fun h'=>hM.len un_25
  (repeat' (first
  | (with_reducible first|refine zJz ?_|refine zGw ?_|refine zEw ?_|refine zEx ?_|refine zEv ?_|refine zJy ?_|refine zGv ?_|refine zBw ?_|refine zDx ?_|refine zBv ?_|refine zCx ?_|refine zEz ?_|refine zCw ?_|refine zCz ?_|refine zBz ?_|refine zDv ?_|refine zDy ?_|refine zAx ?_|refine zAv ?_)
  | refine zCv ?_|refine zEy rfl ?_|refine zIx ?_|refine zIv ?_
  | ((first|refine zGx rfl rfl rfl rfl rfl fun K_ hK_=>?_|refine zGy rfl rfl rfl rfl rfl fun K_ hK_=>?_);simp only [zAz,zDz,zFw,↓reduceIte,reduceCtorEq,Nat.reduceEqDiff,Bool.not_true,Bool.not_false];refine hK_ _ ?_;clear hK_ K_)
  | refine zDw (by decide) ?_
  | ((try first|refine zJx rfl rfl rfl ?_|refine zIy rfl rfl ?_|refine zJw rfl rfl rfl ?_|refine zIw rfl rfl ?_);(refine zIz fun Q_ hQ_=>?_;simp (disch:=first|omega|(simp only [List.length_cons,List.length_nil,List.length_append];omega)) only [bb,bp,zKx,↓reduceIte,reduceCtorEq,Nat.reduceEqDiff,Nat.reduceLT,Nat.reduceLeDiff,Nat.reduceAdd,Nat.reduceMul,Nat.reduceSub,Nat.reduceBEq,Int.reduceToNat,cond_true,cond_false,eq_self,beq_self_eq_true,hlv,zHz wf,zHx wf,zFz wf,zHy wf,zBx wf,tEvR2,zHw,zAw wf];first|(refine zCy (Q:=Q_) (fun hp_=>?_) (fun hp_=>?_) <;> first|(exfalso;omega)|(refine hQ_ _ _ ?_;clear hQ_ Q_))|(refine zBy (Q:=Q_) (fun hp_=>?_) (fun hp_=>?_) <;> first|(exfalso;omega)|(refine hQ_ _ _ ?_;clear hQ_ Q_))|(refine hQ_ _ _ ?_;clear hQ_ Q_)))
  | (refine zFv fun K_ hK_=>?_;simp (disch:=omega) only [zFx,zAz,zGz,↓reduceIte,reduceCtorEq,Nat.reduceEqDiff,Nat.reduceLT];refine hK_ _ ?_;clear hK_ K_)))
  refine zTv (fun (k:Nat) f d h'=>k≤xs.length - 2∧f 7=v∧f 8=ii (k:Int)∧f 4=ii (rfold (sds xs k)).ch∧f 5=ii (rfold (sds xs k)).be∧f 6=ii (rfold (sds xs k)).last∧d=[]∧h'=X h M h.clock) (fun k=>xs.length - 2 - k) ?_ (xs.length+1) 0 (by omega) ?_
  · rintro k f d h' ⟨hk,q7,q8,q4,q5,q6,rfl,rfl⟩
    by_cases hlt:k<xs.length - 2
    · obtain ⟨id,off,hix,hld⟩:=hM.at1 wfM (i:=k) hlt ik_25
      have hld':load1 id off (X h M h.clock)=some (ii (sd xs k)):=by
        have:=hld [] (X h M h.clock).w
        rw [X_self] at this
        rw [this]
        simp [sds,hlt]
      clear hld
      have hin:=rfold_in hx k hk
      have hst:=xSw xs k
      have hd:=sd_off hx hlt
      generalize hr:rfold (sds xs k)=t at *
      generalize hdd:sd xs k=d at *
      obtain ⟨tc,tb,tl⟩:=t
      dsimp only at hin q4 q5 q6
      (repeat' (first
  | (with_reducible first|refine zJz ?_|refine zGw ?_|refine zEw ?_|refine zEx ?_|refine zEv ?_|refine zJy ?_|refine zGv ?_|refine zBw ?_|refine zDx ?_|refine zBv ?_|refine zCx ?_|refine zEz ?_|refine zCw ?_|refine zCz ?_|refine zBz ?_|refine zDv ?_|refine zDy ?_|refine zAx ?_|refine zAv ?_)
  | refine zCv ?_|refine zEy rfl ?_|refine zIx ?_|refine zIv ?_
  | ((first|refine zGx rfl rfl rfl rfl rfl fun K_ hK_=>?_|refine zGy rfl rfl rfl rfl rfl fun K_ hK_=>?_);simp only [zAz,zDz,zFw,↓reduceIte,reduceCtorEq,Nat.reduceEqDiff,Bool.not_true,Bool.not_false];refine hK_ _ ?_;clear hK_ K_)
  | refine zDw (by decide) ?_
  | ((try first|refine zJx rfl rfl rfl ?_|refine zIy rfl rfl ?_|refine zJw rfl rfl rfl ?_|refine zIw rfl rfl ?_);(refine zIz fun Q_ hQ_=>?_;simp (disch:=first|omega|(simp only [List.length_cons,List.length_nil,List.length_append];omega)) only [bb,bp,zKx,↓reduceIte,reduceCtorEq,Nat.reduceEqDiff,Nat.reduceLT,Nat.reduceLeDiff,Nat.reduceAdd,Nat.reduceMul,Nat.reduceSub,Nat.reduceBEq,Int.reduceToNat,cond_true,cond_false,eq_self,beq_self_eq_true,q7,q8,q4,q5,q6,hix,hld',hlv,zHz wf,zHx wf,zFz wf,zHy wf,zBx wf,tEvR2,zHw,zAw wf];first|(refine zCy (Q:=Q_) (fun hp_=>?_) (fun hp_=>?_) <;> first|(exfalso;omega)|(refine hQ_ _ _ ?_;clear hQ_ Q_))|(refine zBy (Q:=Q_) (fun hp_=>?_) (fun hp_=>?_) <;> first|(exfalso;omega)|(refine hQ_ _ _ ?_;clear hQ_ Q_))|(refine hQ_ _ _ ?_;clear hQ_ Q_)|(refine xCz (amount _ (by omega) _ (wf.X (Nat.le_add_right _ _))) ?_;refine hQ_ _ _ ?_;clear hQ_ Q_)))
  | (refine zFv fun K_ hK_=>?_;simp (disch:=omega) only [zFx,zAz,zGz,↓reduceIte,reduceCtorEq,Nat.reduceEqDiff,Nat.reduceLT];refine hK_ _ ?_;clear hK_ K_)))
      all_goals (refine zKy (k+1) (by omega) ⟨by omega,by simp only [zAz,↓reduceIte,reduceCtorEq,Nat.reduceEqDiff];exact q7,by simp only [zAz,↓reduceIte,reduceCtorEq,Nat.reduceEqDiff];rfl,?_,by simp only [zAz,↓reduceIte,reduceCtorEq,Nat.reduceEqDiff];rw [hst];rfl,?_,rfl,rfl⟩)
      all_goals (simp only [zAz,↓reduceIte,reduceCtorEq,Nat.reduceEqDiff];rw [hst];simp only [q4,q6,rstep,turns];refine congrArg (AV.int .i64) ?_;repeat' split)
      all_goals omega
    · have hkl:k=xs.length - 2:=by omega
      subst hkl
      (repeat' (first
  | (with_reducible first|refine zJz ?_|refine zGw ?_|refine zEw ?_|refine zEx ?_|refine zEv ?_|refine zJy ?_|refine zGv ?_|refine zBw ?_|refine zDx ?_|refine zBv ?_|refine zCx ?_|refine zEz ?_|refine zCw ?_|refine zCz ?_|refine zBz ?_|refine zDv ?_|refine zDy ?_|refine zAx ?_|refine zAv ?_)
  | refine zCv ?_|refine zEy rfl ?_|refine zIx ?_|refine zIv ?_
  | ((first|refine zGx rfl rfl rfl rfl rfl fun K_ hK_=>?_|refine zGy rfl rfl rfl rfl rfl fun K_ hK_=>?_);simp only [zAz,zDz,zFw,↓reduceIte,reduceCtorEq,Nat.reduceEqDiff,Bool.not_true,Bool.not_false];refine hK_ _ ?_;clear hK_ K_)
  | refine zDw (by decide) ?_
  | ((try first|refine zJx rfl rfl rfl ?_|refine zIy rfl rfl ?_|refine zJw rfl rfl rfl ?_|refine zIw rfl rfl ?_);(refine zIz fun Q_ hQ_=>?_;simp (disch:=first|omega|(simp only [List.length_cons,List.length_nil,List.length_append];omega)) only [bb,bp,zKx,↓reduceIte,reduceCtorEq,Nat.reduceEqDiff,Nat.reduceLT,Nat.reduceLeDiff,Nat.reduceAdd,Nat.reduceMul,Nat.reduceSub,Nat.reduceBEq,Int.reduceToNat,cond_true,cond_false,eq_self,beq_self_eq_true,q7,q8,q4,q5,q6,hlv,zHz wf,zHx wf,zFz wf,zHy wf,zBx wf,tEvR2,zHw,zAw wf];first|(refine zCy (Q:=Q_) (fun hp_=>?_) (fun hp_=>?_) <;> first|(exfalso;omega)|(refine hQ_ _ _ ?_;clear hQ_ Q_))|(refine zBy (Q:=Q_) (fun hp_=>?_) (fun hp_=>?_) <;> first|(exfalso;omega)|(refine hQ_ _ _ ?_;clear hQ_ Q_))|(refine hQ_ _ _ ?_;clear hQ_ Q_)))
  | (refine zFv fun K_ hK_=>?_;simp (disch:=omega) only [zFx,zAz,zGz,↓reduceIte,reduceCtorEq,Nat.reduceEqDiff,Nat.reduceLT];refine hK_ _ ?_;clear hK_ K_)))
      (refine zJv _ _ rfl (ret2 (by decide) (by decide)) ?_;simp only [zAz,↓reduceIte,reduceCtorEq,Nat.reduceEqDiff];refine zMw rfl (by omega) ?_)
      exact ⟨rfl,rfl⟩
  · exact ⟨Nat.zero_le _,by simp only [zAz,↓reduceIte,reduceCtorEq,Nat.reduceEqDiff],by simp only [zAz,↓reduceIte,reduceCtorEq,Nat.reduceEqDiff];rfl,by simp only [zAz,↓reduceIte,reduceCtorEq,Nat.reduceEqDiff];rfl,by simp only [zAz,↓reduceIte,reduceCtorEq,Nat.reduceEqDiff];rfl,by simp only [zAz,↓reduceIte,reduceCtorEq,Nat.reduceEqDiff];rfl,rfl,rfl⟩
end Go.Proofs.YtkmdidplmfdikaaDoor
end

section
namespace Go.Proofs.YtkmdidplmfdikaaDoor
open Go.Ev
set_option maxRecDepth 100000
set_option linter.unusedSimpArgs false
set_option linter.unusedVariables false
set_option maxHeartbeats 2000000

theorem tEvR3 :type_of% (And.intro (And.intro (And.intro (And.intro (And.intro (@zSv) (@ia_2)) (And.intro (@sz_2) (@ia_3))) (And.intro (And.intro (@sz_3) (@zSy)) (And.intro (@zTx) (And.intro (@zRx) (@zVw))))) (And.intro (And.intro (And.intro (@zUv) (@zSx)) (And.intro (@zSz) (And.intro (@zSw) (@zUz)))) (And.intro (And.intro (@zOw) (@zOx)) (And.intro (@zOy) (And.intro (@zOz) (@zMy)))))) (And.intro (And.intro (And.intro (And.intro (@zMz) (@zLw)) (And.intro (@zLx) (@zVx))) (And.intro (And.intro (@zOv) (@xMv)) (And.intro (@yCy) (And.intro (@yEx) (@yKw))))) (And.intro (And.intro (And.intro (@xLx) (@xMw)) (And.intro (@xMx) (And.intro (@yKv) (@pb_62)))) (And.intro (And.intro (@pb_63) (@pb_35)) (And.intro (@yUx) (And.intro (@yZw) (@yUv))))))):=And.intro (And.intro (And.intro (And.intro (And.intro (@zSv) (@ia_2)) (And.intro (@sz_2) (@ia_3))) (And.intro (And.intro (@sz_3) (@zSy)) (And.intro (@zTx) (And.intro (@zRx) (@zVw))))) (And.intro (And.intro (And.intro (@zUv) (@zSx)) (And.intro (@zSz) (And.intro (@zSw) (@zUz)))) (And.intro (And.intro (@zOw) (@zOx)) (And.intro (@zOy) (And.intro (@zOz) (@zMy)))))) (And.intro (And.intro (And.intro (And.intro (@zMz) (@zLw)) (And.intro (@zLx) (@zVx))) (And.intro (And.intro (@zOv) (@xMv)) (And.intro (@yCy) (And.intro (@yEx) (@yKw))))) (And.intro (And.intro (And.intro (@xLx) (@xMw)) (And.intro (@xMx) (And.intro (@yKv) (@pb_62)))) (And.intro (And.intro (@pb_63) (@pb_35)) (And.intro (@yUx) (And.intro (@yZw) (@yUv))))))
theorem rCheckSpots (sp:List (Int × Int)) (turn:Int) (a:AV) (hn:sp.length≤1000000) (h:H) (wf:Wf h) (hs:Sl h a 2 sp.length (zLy sp)) :
    (om Tryd.prog KK).call (.fn 15 [.agg [a,ii turn]]) h = .ok (ii (spotsR sp turn)) h:=by
  refine zWv (zKv (fn:=Tryd.f15) Tryd.func15 rfl rfl rfl rfl rfl ?_)
  simp only [zKx]
  have hlen : ∀ h',lenE Tryd.prog 22 a h'=some (ii (sp.length:Int)):=fun h'=>hs.len yWv
  (repeat' (first
  | (with_reducible first|refine zJz ?_|refine zGw ?_|refine zEw ?_|refine zEx ?_|refine zEv ?_|refine zJy ?_|refine zGv ?_|refine zBw ?_|refine zDx ?_|refine zBv ?_|refine zCx ?_|refine zEz ?_|refine zCw ?_|refine zCz ?_|refine zBz ?_|refine zDv ?_|refine zDy ?_|refine zAx ?_|refine zAv ?_)
  | refine zCv ?_|refine zEy rfl ?_|refine zIx ?_|refine zIv ?_
  | ((first|refine zGx rfl rfl rfl rfl rfl fun K_ hK_=>?_|refine zGy rfl rfl rfl rfl rfl fun K_ hK_=>?_);simp only [zAz,zDz,zFw,↓reduceIte,reduceCtorEq,Nat.reduceEqDiff,Bool.not_true,Bool.not_false];refine hK_ _ ?_;clear hK_ K_)
  | refine zDw (by decide) ?_
  | ((try first|refine zJx rfl rfl rfl ?_|refine zIy rfl rfl ?_|refine zJw rfl rfl rfl ?_|refine zIw rfl rfl ?_);(refine zIz fun Q_ hQ_=>?_;simp (disch:=first|omega|(simp only [List.length_cons,List.length_nil,List.length_append];omega)) only [bb,bp,zKx,↓reduceIte,reduceCtorEq,Nat.reduceEqDiff,Nat.reduceLT,Nat.reduceLeDiff,Nat.reduceAdd,Nat.reduceMul,Nat.reduceSub,Nat.reduceBEq,Int.reduceToNat,cond_true,cond_false,eq_self,beq_self_eq_true,hlen,zHz wf,zHx wf,zFz wf,zHy wf,zBx wf,tEvR3,zHw,zAw wf];first|(refine zCy (Q:=Q_) (fun hp_=>?_) (fun hp_=>?_) <;> first|(exfalso;omega)|(refine hQ_ _ _ ?_;clear hQ_ Q_))|(refine zBy (Q:=Q_) (fun hp_=>?_) (fun hp_=>?_) <;> first|(exfalso;omega)|(refine hQ_ _ _ ?_;clear hQ_ Q_))|(refine hQ_ _ _ ?_;clear hQ_ Q_)))
  | (refine zFv fun K_ hK_=>?_;simp (disch:=omega) only [zFx,zAz,zGz,↓reduceIte,reduceCtorEq,Nat.reduceEqDiff,Nat.reduceLT];refine hK_ _ ?_;clear hK_ K_)))
  · (refine zJv _ _ rfl (ret1 (by decide)) ?_;simp only [zAz,↓reduceIte,reduceCtorEq,Nat.reduceEqDiff];refine zMw rfl (by omega) ?_)
    have e:spotsR sp turn=6:=if_pos (by omega)
    rw [e];exact ⟨rfl,rfl⟩
  · (refine zJv _ _ rfl (ret1 (by decide)) ?_;simp only [zAz,↓reduceIte,reduceCtorEq,Nat.reduceEqDiff];refine zMw rfl (by omega) ?_)
    have e:spotsR sp turn=6:=if_pos (by omega)
    rw [e];exact ⟨rfl,rfl⟩
  · have e1 : ¬ (sp.length=0∨24<sp.length):=by omega
    (refine zJv _ _ rfl (ret1 (by decide)) ?_;simp only [zAz,↓reduceIte,reduceCtorEq,Nat.reduceEqDiff];refine zMw rfl (by omega) ?_)
    have e:spotsR sp turn=2:=by unfold spotsR;rw [if_neg e1,if_neg (by omega)]
    rw [e];exact ⟨rfl,rfl⟩
  · have e1 : ¬ (sp.length=0∨24<sp.length):=by omega
    (refine zJv _ _ rfl (ret1 (by decide)) ?_;simp only [zAz,↓reduceIte,reduceCtorEq,Nat.reduceEqDiff];refine zMw rfl (by omega) ?_)
    have e:spotsR sp turn=2:=by unfold spotsR;rw [if_neg e1,if_neg (by omega)]
    rw [e];exact ⟨rfl,rfl⟩
  have e1 : ¬ (sp.length=0∨24<sp.length):=by omega
  have ht:0≤turn∧turn≤1000000:=by omega
  refine zTv (fun (k:Nat) f d h'=>k≤sp.length∧f 1 = .ptr (nx h 0) 0∧f 3=ii (k:Int)∧d=[]∧(∃ G,h'=X h (.cells (zAy [a,ii turn]) 24 :: G) h.clock) ∧ ∀ i (hi:i<sp.length),i<k→SpotOK sp[i]) (fun k=>sp.length - k) ?_ (sp.length+1) 0 (by omega) ?_
  · rintro k f d h' ⟨hk,h1,h3,rfl,⟨G,rfl⟩,hall⟩
    by_cases hlt:k<sp.length
    · obtain ⟨id,off,hix,hld⟩:=hs.at wf hlt yLz
      have hld' : ∀ l w,loadAgg id off (some 2) (X h l w)=some (.agg [ii sp[k].1,ii sp[k].2]):=fun l w=>by rw [(hld l w).2,zXx hlt]
      clear hld
      (repeat' (first
  | (with_reducible first|refine zJz ?_|refine zGw ?_|refine zEw ?_|refine zEx ?_|refine zEv ?_|refine zJy ?_|refine zGv ?_|refine zBw ?_|refine zDx ?_|refine zBv ?_|refine zCx ?_|refine zEz ?_|refine zCw ?_|refine zCz ?_|refine zBz ?_|refine zDv ?_|refine zDy ?_|refine zAx ?_|refine zAv ?_)
  | refine zCv ?_|refine zEy rfl ?_|refine zIx ?_|refine zIv ?_
  | ((first|refine zGx rfl rfl rfl rfl rfl fun K_ hK_=>?_|refine zGy rfl rfl rfl rfl rfl fun K_ hK_=>?_);simp only [zAz,zDz,zFw,↓reduceIte,reduceCtorEq,Nat.reduceEqDiff,Bool.not_true,Bool.not_false];refine hK_ _ ?_;clear hK_ K_)
  | refine zDw (by decide) ?_
  | ((try first|refine zJx rfl rfl rfl ?_|refine zIy rfl rfl ?_|refine zJw rfl rfl rfl ?_|refine zIw rfl rfl ?_);(refine zIz fun Q_ hQ_=>?_;simp (disch:=first|omega|(simp only [List.length_cons,List.length_nil,List.length_append];omega)) only [bb,bp,zKx,↓reduceIte,reduceCtorEq,Nat.reduceEqDiff,Nat.reduceLT,Nat.reduceLeDiff,Nat.reduceAdd,Nat.reduceMul,Nat.reduceSub,Nat.reduceBEq,Int.reduceToNat,cond_true,cond_false,eq_self,beq_self_eq_true,h1,h3,hlen,hix,hld',zHz wf,zHx wf,zFz wf,zHy wf,zBx wf,tEvR3,zHw,zAw wf];first|(refine zCy (Q:=Q_) (fun hp_=>?_) (fun hp_=>?_) <;> first|(exfalso;omega)|(refine hQ_ _ _ ?_;clear hQ_ Q_))|(refine zBy (Q:=Q_) (fun hp_=>?_) (fun hp_=>?_) <;> first|(exfalso;omega)|(refine hQ_ _ _ ?_;clear hQ_ Q_))|(refine hQ_ _ _ ?_;clear hQ_ Q_)))
  | (refine zFv fun K_ hK_=>?_;simp (disch:=omega) only [zFx,zAz,zGz,↓reduceIte,reduceCtorEq,Nat.reduceEqDiff,Nat.reduceLT];refine hK_ _ ?_;clear hK_ K_)))
      iterate 4
        · (refine zJv _ _ rfl (ret1 (by decide)) ?_;simp only [zAz,↓reduceIte,reduceCtorEq,Nat.reduceEqDiff];refine zMw rfl (by omega) ?_)
          have hno : ¬ SpotOK sp[k]:=by unfold SpotOK;omega
          have e:spotsR sp turn=2:=by unfold spotsR;rw [if_neg e1,if_neg (fun hh=>all_not (p:=SpotOK) hlt hno hh.1)]
          rw [e];exact ⟨rfl,rfl⟩
      · have hok:SpotOK sp[k]:=by unfold SpotOK;omega
        exact zKy (k+1) (by omega) ⟨hlt,by simp only [zAz,↓reduceIte,reduceCtorEq,Nat.reduceEqDiff];exact h1,by simp only [zAz,↓reduceIte,reduceCtorEq,Nat.reduceEqDiff];rfl,rfl,⟨_,rfl⟩,all_step hlt hall hok⟩
    · have hkl:k=sp.length:=by omega
      subst hkl
      have hx:=all_done hall
      (repeat' (first
  | (with_reducible first|refine zJz ?_|refine zGw ?_|refine zEw ?_|refine zEx ?_|refine zEv ?_|refine zJy ?_|refine zGv ?_|refine zBw ?_|refine zDx ?_|refine zBv ?_|refine zCx ?_|refine zEz ?_|refine zCw ?_|refine zCz ?_|refine zBz ?_|refine zDv ?_|refine zDy ?_|refine zAx ?_|refine zAv ?_)
  | refine zCv ?_|refine zEy rfl ?_|refine zIx ?_|refine zIv ?_
  | ((first|refine zGx rfl rfl rfl rfl rfl fun K_ hK_=>?_|refine zGy rfl rfl rfl rfl rfl fun K_ hK_=>?_);simp only [zAz,zDz,zFw,↓reduceIte,reduceCtorEq,Nat.reduceEqDiff,Bool.not_true,Bool.not_false];refine hK_ _ ?_;clear hK_ K_)
  | refine zDw (by decide) ?_
  | ((try first|refine zJx rfl rfl rfl ?_|refine zIy rfl rfl ?_|refine zJw rfl rfl rfl ?_|refine zIw rfl rfl ?_);(refine zIz fun Q_ hQ_=>?_;simp (disch:=first|omega|(simp only [List.length_cons,List.length_nil,List.length_append];omega)) only [bb,bp,zKx,↓reduceIte,reduceCtorEq,Nat.reduceEqDiff,Nat.reduceLT,Nat.reduceLeDiff,Nat.reduceAdd,Nat.reduceMul,Nat.reduceSub,Nat.reduceBEq,Int.reduceToNat,cond_true,cond_false,eq_self,beq_self_eq_true,h1,h3,hlen,zHz wf,zHx wf,zFz wf,zHy wf,zBx wf,tEvR3,zHw,zAw wf];first|(refine zCy (Q:=Q_) (fun hp_=>?_) (fun hp_=>?_) <;> first|(exfalso;omega)|(refine hQ_ _ _ ?_;clear hQ_ Q_))|(refine zBy (Q:=Q_) (fun hp_=>?_) (fun hp_=>?_) <;> first|(exfalso;omega)|(refine hQ_ _ _ ?_;clear hQ_ Q_))|(refine hQ_ _ _ ?_;clear hQ_ Q_)))
  | (refine zFv fun K_ hK_=>?_;simp (disch:=omega) only [zFx,zAz,zGz,↓reduceIte,reduceCtorEq,Nat.reduceEqDiff,Nat.reduceLT];refine hK_ _ ?_;clear hK_ K_)))
      (refine zJv _ _ rfl (ret1 (by decide)) ?_;simp only [zAz,↓reduceIte,reduceCtorEq,Nat.reduceEqDiff];refine zMw rfl (by omega) ?_)
      have e:spotsR sp turn=0:=by unfold spotsR;rw [if_neg e1,if_pos ⟨hx,ht⟩]
      rw [e];exact ⟨rfl,rfl⟩
  · refine ⟨Nat.zero_le _,by simp only [zAz,↓reduceIte,reduceCtorEq,Nat.reduceEqDiff],by simp only [zAz,↓reduceIte,reduceCtorEq,Nat.reduceEqDiff];rfl,rfl,⟨[],rfl⟩,fun i _ hi=>absurd hi (Nat.not_lt_zero i)⟩

end Go.Proofs.YtkmdidplmfdikaaDoor
end

section
namespace Go.Ev

def bstep {α : Type} (f : α → Int) (o:Option (α × Int)) (x : α):Option (α × Int):=
  match o with
  | none=>some (x,f x)
  | some (b,m)=>if f x<m then some (x,f x) else some (b,m)
def bst {α : Type} (f : α → Int) (xs:List α):Option (α × Int):=xs.foldl (bstep f) none
theorem bst_snoc {α : Type} (f : α → Int) (xs:List α) (x : α):bst f (xs++[x])=bstep f (bst f xs) x:=by unfold bst;rw [List.foldl_append];rfl
theorem bst_take {α : Type} (f : α → Int) (xs:List α) (k:Nat) (hk:k<xs.length):bst f (xs.take (k+1))=bstep f (bst f (xs.take k)) xs[k]:=by
  rw [List.take_succ_eq_append_getElem hk,bst_snoc]
structure First {α : Type} (f : α → Int) (xs:List α) (b : α):Prop where
  mem:b ∈ xs
  le : ∀ x ∈ xs,f b≤f x
  first : ∃ pre post,xs=pre++b :: post ∧ ∀ x ∈ pre,f b<f x
theorem bst_spec {α : Type} (f : α → Int) (xs:List α):xs≠[] → ∃ b,bst f xs=some (b,f b)∧First f xs b:=by
  have key : ∀ n (xs:List α),xs.length=n→xs≠[] → ∃ b,bst f xs=some (b,f b)∧First f xs b:=by
    intro n
    induction n with
    | zero=>intro xs hl hne;exact absurd (List.eq_nil_of_length_eq_zero hl) hne
    | succ n ih=>
      intro xs hl hne
      rcases xs.eq_nil_or_concat with h|⟨ys,x,h⟩
      · exact absurd h hne
      · rw [List.concat_eq_append] at h
        subst h
        have hy:ys.length=n:=by simpa using hl
        cases ys with
        | nil=>exact ⟨x,rfl,⟨by simp,fun y hy=>by simp at hy;rw [hy];exact Int.le_refl _,[],[],rfl,fun _ h=>by cases h⟩⟩
        | cons y ys=>
          obtain ⟨b,e,hf⟩:=ih _ hy (by simp)
          rw [bst_snoc,e]
          obtain ⟨pre,post,hp,hlt⟩:=hf.first
          by_cases hx:f x<f b
          · refine ⟨x,by simp [bstep,hx],⟨by simp,fun z hz=>?_,y :: ys,[],rfl,fun z hz=>?_⟩⟩
            · rcases List.mem_append.1 hz with h|h
              · have:=hf.le z h;omega
              · rw [List.mem_singleton.1 h];exact Int.le_refl _
            · have:=hf.le z hz;omega
          · refine ⟨b,by simp [bstep,hx],⟨List.mem_append.2 (.inl hf.mem),fun z hz=>?_,pre,post++[x],by rw [hp];simp,hlt⟩⟩
            rcases List.mem_append.1 hz with h|h
            · exact hf.le z h
            · rw [List.mem_singleton.1 h];omega
  exact key _ xs rfl
theorem bst_congr {α : Type} {f g : α → Int} {xs:List α} (h : ∀ x ∈ xs,f x=g x):bst f xs=bst g xs:=by
  have key : ∀ (xs:List α) (o:Option (α × Int)),(∀ x ∈ xs,f x=g x)→xs.foldl (bstep f) o=xs.foldl (bstep g) o:=by
    intro xs
    induction xs with
    | nil=>intro o _;rfl
    | cons x xs ih=>
      intro o h
      rw [List.foldl_cons,List.foldl_cons,show bstep f o x=bstep g o x from by unfold bstep;rw [h x (by simp)]]
      exact ih _ fun y hy=>h y (by simp [hy])
  exact key xs none h

def nsg (s d:Int):Int:=if 0<d then 1 else if d<0 then 2 else s
def chgI (s d:Int):Int:=if s≠0∧s≠nsg s d then 1 else 0
def payI (turn a b s c:Int):Int:=max (a - 2 * b+c) (0 - (a - 2 * b+c))+turn * chgI s (a - 2 * b+c)
def costL (turn:Int→Int→Int→Int→Int):Int→Int→Int→List Int→Int
  | _,_,_,[]=>0
  | a,b,s,c :: cs=>turn a b s c+costL turn b c (nsg s (a - 2 * b+c)) cs
def Cost (turn:Int→Int→Int→Int→Int):List Int→Int
  | a :: b :: cs=>costL turn a b 0 cs
  | _=>0
def offs (r:Int × Int):List Int:=(List.range (r.2 - r.1+1).toNat).map fun (k:Nat)=>r.1+(k:Int)
theorem zMv (r:Int × Int):(offs r).length=(r.2 - r.1+1).toNat:=by unfold offs;simp
theorem zWy {r:Int × Int} {y:Int} : y ∈ offs r ↔ r.1≤y∧y≤r.2:=by
  unfold offs
  simp only [List.mem_map,List.mem_range]
  constructor
  · rintro ⟨k,hk,rfl⟩;omega
  · intro h;exact ⟨(y - r.1).toNat,by omega,by omega⟩
theorem yEw {r:Int × Int} {k:Nat} (hk:k<(r.2 - r.1+1).toNat):(offs r)[k]? = some (r.1+(k:Int)):=by
  unfold offs;rw [List.getElem?_map,List.getElem?_range hk];rfl
theorem xUz (r:Int × Int):(offs r).Pairwise (· < ·):=by
  unfold offs
  rw [List.pairwise_map]
  exact List.Pairwise.imp (fun h=>by omega) List.pairwise_lt_range
def InR :List (Int × Int)→List Int→Prop
  | [],l=>l=[]
  | r :: R,l=>∃ c cs,l=c :: cs∧r.1≤c∧c≤r.2∧InR R cs
theorem InR.length : ∀ {R:List (Int × Int)} {l:List Int},InR R l→l.length=R.length
  | [],l,h=>by rw [show l=[] from h];rfl
  | r :: R,l,⟨c,cs,e,_,_,h⟩=>by rw [e,List.length_cons,List.length_cons,h.length]
def Bef :List Int→List Int→Prop
  | a :: l,b :: m=>a<b∨a=b∧Bef l m
  | _,_=>False
def Spots (R:List (Int × Int)):Prop:=∀ r ∈ R,r.1≤r.2
def onw (turn:Int→Int→Int→Int→Int):List (Int × Int)→Int→Int→Int→Int × Int
  | [],_,_,_=>(0,0)
  | r :: R,a,b,s=>(bst (fun c=>turn a b s c+(onw turn R b c (nsg s (a - 2 * b+c))).2) (offs r)).getD (0,0)
def dueI (turn:Int→Int→Int→Int→Int) (R:List (Int × Int)) (a b s:Int):Int:=(onw turn R a b s).2
theorem dueI_nil (turn:Int→Int→Int→Int→Int) (a b s:Int):dueI turn [] a b s=0:=rfl
def greedy (turn:Int→Int→Int→Int→Int):List (Int × Int)→Int→Int→Int→List Int
  | [],_,_,_=>[]
  | r :: R,a,b,s=>(onw turn (r :: R) a b s).1 :: greedy turn R b (onw turn (r :: R) a b s).1 (nsg s (a - 2 * b+(onw turn (r :: R) a b s).1))
theorem offs_ne {r:Int × Int} (h:r.1≤r.2):offs r≠[]:=fun e=>by
  have:=zMv r
  rw [e] at this
  simp at this;omega
theorem xNv {turn:Int→Int→Int→Int→Int} {r:Int × Int} {R:List (Int × Int)} (h:r.1≤r.2) (a b s:Int) :
    ∃ c,onw turn (r :: R) a b s=(c,turn a b s c+dueI turn R b c (nsg s (a - 2 * b+c)))∧First (fun c=>turn a b s c+dueI turn R b c (nsg s (a - 2 * b+c))) (offs r) c:=by
  obtain ⟨c,e,hf⟩:=bst_spec (fun c=>turn a b s c+dueI turn R b c (nsg s (a - 2 * b+c))) (offs r) (offs_ne h)
  refine ⟨c,?_,hf⟩
  show (bst (fun c=>turn a b s c+dueI turn R b c (nsg s (a - 2 * b+c))) (offs r)).getD (0,0)=_
  rw [e];rfl
theorem due_le {turn:Int→Int→Int→Int→Int} : ∀ {R:List (Int × Int)} {cs:List Int} (a b s:Int),Spots R→InR R cs→dueI turn R a b s≤costL turn a b s cs
  | [],cs,a,b,s,_,h=>by rw [show cs=[] from h];exact Int.le_refl _
  | r :: R,_,a,b,s,hs,⟨c,cs,rfl,h1,h2,h⟩=>by
    obtain ⟨c0,e,hf⟩:=xNv (turn:=turn) (R:=R) (hs r (by simp)) a b s
    have h3:=hf.le c (zWy.2 ⟨h1,h2⟩)
    have h4:=due_le (turn:=turn) b c (nsg s (a - 2 * b+c)) (fun r hr=>hs r (by simp [hr])) h
    show (onw turn (r :: R) a b s).2≤turn a b s c+costL turn b c (nsg s (a - 2 * b+c)) cs
    rw [e]
    dsimp only at h3 ⊢
    omega
theorem greedy_in {turn:Int→Int→Int→Int→Int} : ∀ {R:List (Int × Int)} (a b s:Int),Spots R→InR R (greedy turn R a b s)
  | [],_,_,_,_=>rfl
  | r :: R,a,b,s,hs=>by
    obtain ⟨c0,e,hf⟩:=xNv (turn:=turn) (R:=R) (hs r (by simp)) a b s
    have hm:=zWy.1 hf.mem
    refine ⟨_,_,rfl,?_,?_,greedy_in _ _ _ fun r hr=>hs r (by simp [hr])⟩
    · rw [e];exact hm.1
    · rw [e];exact hm.2
theorem xVv {turn:Int→Int→Int→Int→Int} : ∀ {R:List (Int × Int)} (a b s:Int),Spots R→costL turn a b s (greedy turn R a b s)=dueI turn R a b s
  | [],_,_,_,_=>rfl
  | r :: R,a,b,s,hs=>by
    obtain ⟨c0,e,hf⟩:=xNv (turn:=turn) (R:=R) (hs r (by simp)) a b s
    show turn a b s (onw turn (r :: R) a b s).1+costL turn b (onw turn (r :: R) a b s).1 _ (greedy turn R b (onw turn (r :: R) a b s).1 _)=(onw turn (r :: R) a b s).2
    rw [xVv _ _ _ fun r hr=>hs r (by simp [hr]),e]
def pairs2 (r0 r1:Int × Int):List (Int × Int):=(offs r0).flatMap fun a=>(offs r1).map fun b=>(a,b)
theorem mem_pairs2 {r0 r1 p:Int × Int} : p ∈ pairs2 r0 r1 ↔ (r0.1≤p.1∧p.1≤r0.2)∧r1.1≤p.2∧p.2≤r1.2:=by
  unfold pairs2
  simp only [List.mem_flatMap,List.mem_map,zWy]
  constructor
  · rintro ⟨a,ha,b,hb,rfl⟩;exact ⟨ha,hb⟩
  · intro h;exact ⟨p.1,h.1,p.2,h.2,rfl⟩
def plt (p q:Int × Int):Prop:=p.1<q.1∨p.1=q.1∧p.2<q.2
def begins (turn:Int→Int→Int→Int→Int) (r0 r1:Int × Int) (R:List (Int × Int)):(Int × Int) × Int:=(bst (fun p=>dueI turn R p.1 p.2 0) (pairs2 r0 r1)).getD ((0,0),0)
def fairL (turn:Int→Int→Int→Int→Int):List (Int × Int)→List Int × Int
  | r0 :: r1 :: R=>((begins turn r0 r1 R).1.1 :: (begins turn r0 r1 R).1.2 :: greedy turn R (begins turn r0 r1 R).1.1 (begins turn r0 r1 R).1.2 0,(begins turn r0 r1 R).2)
  | [r0]=>([r0.1],0)
  | []=>([],0)
structure Fairest (turn:Int→Int→Int→Int→Int) (sp:List (Int × Int)) (l:List Int) (n:Int):Prop where
  within:InR sp l
  cost:Cost turn l=n
  least : ∀ m,InR sp m→n≤Cost turn m
  first : ∀ m,InR sp m→Cost turn m=n → ¬ Bef m l
end Go.Ev
end

section
namespace Go.Ev
section
variable {P:Program} {K:List Con}
def YRC (lo c d:Nat) (hb:H) (J:List AO) (w:Nat) (I D:H→Prop):AV→H→Prop:=fun v h'=>∃ hb' J' w',h'=X hb' (J++J') w'∧Same hb hb'∧lo≤w'∧w'≤w∧(v = .bool true∧w'<c∧I hb'∨v = .bool false∧w'<d∧D hb')
def HandsC (P:Program) (K:List Con) (B:H→Prop) (fv:AV) (xs:List (List AV)):Prop:=
  ∀ (l:Pos) (hb0:H) (I:Nat→H→Prop) (D:H→Prop) (lo:Nat) (c:Nat→Nat) (d:Nat),lo≤hb0.w→hb0.w≤hb0.clock→(∀ k,c k≤hb0.clock)→d≤hb0.clock→(∀ i h,I i h→B h∧Same hb0 h)→(∀ h,D h→Wf h) →
    (∀ i x,xs[i]? = some x → ∀ hb J w,I i hb→lo≤w→w≤hb.clock+J.length→WV ((om P K).call (.yld l x) (X hb J w)) (YRC lo (c i) d hb J w (I (i+1)) D)) →
    I 0 hb0→WV (callV P (om P K) fv [.yld l] hb0) fun _ h'=>∃ hb J w,h'=X hb J w∧Same hb0 hb∧lo≤w∧w≤hb0.w∧(I xs.length hb∧(∀ k,k<xs.length→w<c k)∨D hb∧w<d)
theorem WV_yieldOC {l:Pos} {x:List AV} {hb:H} {J:List AO} {w lo c d:Nat} {I D:H→Prop} {Q:AV→H→Prop}
    (y:WV ((om P K).call (.yld l x) (X hb J w)) (YRC lo c d hb J w I D))
    (q : ∀ hb' J' w',Same hb hb'→lo≤w'→w'≤w→(w'<c→I hb'→Q (.bool true) (X hb' (J++J') w'))∧(w'<d→D hb'→Q (.bool false) (X hb' (J++J') w'))) :
    WV ((om P K).call (.yld l x) (X hb J w)) Q:=by
  refine y.mono fun v h' ⟨hb',J',w',e,s,hl',hle,hv⟩=>?_
  subst e
  have:=q hb' J' w' s hl' hle
  rcases hv with ⟨rfl,hw,hi⟩|⟨rfl,hw,hd⟩
  · exact this.1 hw hi
  · exact this.2 hw hd
def cmin (c:Nat→Nat) (b:Nat):Nat→Nat
  | 0=>c b
  | n+1=>min (cmin c b n) (c (b+(n+1)))
theorem xVz {c:Nat→Nat} {b w:Nat} : ∀ {n:Nat},w<cmin c b n ↔ ∀ j,j≤n→w<c (b+j)
  | 0=>⟨fun h j hj=>by rw [show j=0 from by omega];exact h,fun h=>h 0 (Nat.le_refl _)⟩
  | n+1=>by
    show w<min _ _ ↔ _
    rw [Nat.lt_min,xVz (n:=n)]
    exact ⟨fun h j hj=>by
      by_cases e:j=n+1
      · rw [e];exact h.2
      · exact h.1 j (by omega),fun h=>⟨fun j hj=>h j (by omega),h _ (Nat.le_refl _)⟩⟩
theorem cmin_le {c:Nat→Nat} {m:Nat} (h : ∀ k,c k≤m) (b:Nat) : ∀ n,cmin c b n≤m
  | 0=>h b
  | n+1=>Nat.le_trans (Nat.min_le_left _ _) (cmin_le h b n)
theorem wAz {x:Cx} {fo:Operand} {params:Array Tmp} {assign body:Code} {f:TF} {d:List Pos} {h:H} (wf:Wf h) {L:List AO} {w k:Nat} {o:AO} {Q:CQ} {fv:AV} {dd:Pos} {st0:LoopState} {pend0:J} {fn0 n0:Nat} {tm0:M AV} {ps0:Array Tmp} {as0 b0:Code}
    (hr:x.r=some (nx h k)) (hf:evT (mkM f) fo=some fv) (hk:L[k]? = some o) (ho:o = .loop st0 pend0 fn0 n0 tm0 ps0 as0 b0 dd)
    (q : ∀ o',o'=AO.loop .ready .norm x.g x.n (mkM f) params assign body dd→WV (callV x.P (om x.P x.K) fv [.yld (nx h L.length)] (X h (L++[o']) w)) (rangeQ (nx h L.length) f d Q)):WC x (.rangeFunc fo params assign body) f d (X h L w) Q:=
  WC_rangeIn (dd:=dd) (l:=nx h L.length) (l0:=nx h k) hr hf (by rw [zQx wf,hk,ho]) (yTz wf _ L w) (q _ rfl)
end
end Go.Ev
namespace Go.Ev
theorem Same.XX {h h2:H} (s:Same h h2) {G G2:List AO} {w w2:Nat} (e:G2.length=G.length):Same (Go.Ev.X h G w) (Go.Ev.X h2 G2 w2):=⟨by show nxP h2.next G2.length=nxP h.next G.length;rw [e,s.next],by rw [zQz,zQz,e,s.clock]⟩
end Go.Ev
end

section
namespace Go.Ev
def NotT (t:TypeId) (o:AO):Prop:=∀ m,o ≠ .cells m t
def Chg (t:TypeId) (J J2:List AO):Prop:=J2.length=J.length ∧ ∀ (k:Nat) (o:AO),J[k]? = some o→NotT t o→J2[k]? = some o
def Keep (t:TypeId) (J J2:List AO):Prop:=∀ (k:Nat) m,J[k]? = some (.cells m t)→J2[k]? = some (.cells m t)
theorem Chg.rfl' {t:TypeId} (J:List AO):Chg t J J:=⟨rfl,fun _ _ h _=>h⟩
theorem Chg.trans {t:TypeId} {A B C:List AO} (x:Chg t A B) (y:Chg t B C):Chg t A C:=⟨y.1.trans x.1,fun k o h n=>y.2 k o (x.2 k o h n) n⟩
theorem Keep.rfl' {t:TypeId} (J:List AO):Keep t J J:=fun _ _ h=>h
theorem Keep.trans {t:TypeId} {A B C:List AO} (x:Keep t A B) (y:Keep t B C):Keep t A C:=fun k m h=>y k m (x k m h)
theorem zUy {t e:TypeId} {m:M AV} (h:e≠t):NotT t (.cells m e):=fun m' e'=>by cases e';exact h rfl
theorem yIw {t:TypeId} : NotT t .dfr:=fun _ e=>by cases e
theorem zQw {t:TypeId} {st:LoopState} {pend:J} {g n:Nat} {tm:M AV} {ps:Array Tmp} {a b:Code} {dd:Pos} : NotT t (.loop st pend g n tm ps a b dd):=fun _ e=>by cases e
theorem Chg.cons {t:TypeId} {o:AO} {L Z:List AO} (x:Chg t (o :: L) Z) (hn:NotT t o) : ∃ Z',Z=o :: Z'∧Chg t L Z':=by
  obtain ⟨hl,hk⟩:=x
  have h0:=hk 0 o rfl hn
  match Z,h0,hl,hk with
  | z :: Z,h0,hl,hk=>
    simp only [List.getElem?_cons_zero,Option.some.injEq] at h0
    subst h0
    exact ⟨Z,rfl,by simpa using hl,fun k o' h n=>by have:=hk (k+1) o' (by simpa using h) n;simpa using this⟩
theorem Chg.app {t:TypeId} {A B Z:List AO} (x:Chg t (A++B) Z) : ∃ A' B',Z=A'++B'∧Chg t A A'∧Chg t B B':=by
  obtain ⟨hl,hk⟩:=x
  rw [List.length_append] at hl
  refine ⟨Z.take A.length,Z.drop A.length,(List.take_append_drop _ _).symm,⟨by rw [List.length_take];omega,fun k o h n=>?_⟩,⟨by rw [List.length_drop];omega,fun k o h n=>?_⟩⟩
  · have hlt:=zHv h
    rw [List.getElem?_take,if_pos hlt]
    exact hk k o (by rw [List.getElem?_append_left hlt];exact h) n
  · rw [List.getElem?_drop]
    exact hk _ o (by rw [List.getElem?_append_right (by omega),show A.length+k - A.length=k from by omega];exact h) n
theorem Keep.cons {t:TypeId} {o o':AO} {L L':List AO} (x:Keep t L L') (hn:NotT t o):Keep t (o :: L) (o' :: L'):=fun k m h=>by
  cases k with
  | zero=>simp only [List.getElem?_cons_zero,Option.some.injEq] at h;exact absurd h (hn m)
  | succ k=>simp only [List.getElem?_cons_succ] at h ⊢;exact x k m h
theorem Keep.cons' {t:TypeId} {o:AO} {L L':List AO} (x:Keep t L L'):Keep t (o :: L) (o :: L'):=fun k m h=>by
  cases k with
  | zero=>exact h
  | succ k=>simp only [List.getElem?_cons_succ] at h ⊢;exact x k m h
theorem Keep.app {t:TypeId} {A A' B B':List AO} (hl:A'.length=A.length) (x:Keep t A A') (y:Keep t B B'):Keep t (A++B) (A'++B'):=fun k m h=>by
  rcases Nat.lt_or_ge k A.length with hk|hk
  · rw [List.getElem?_append_left hk] at h
    rw [List.getElem?_append_left (by omega)]
    exact x k m h
  · rw [List.getElem?_append_right hk] at h
    rw [List.getElem?_append_right (by omega),hl]
    exact y _ m h
theorem Keep.more {t:TypeId} (J A:List AO):Keep t J (J++A):=fun k m h=>by rw [List.getElem?_append_left (zHv h)];exact h
theorem Keep.nil {t:TypeId} (A:List AO):Keep t [] A:=fun k m h=>by simp at h
theorem Keep.set {t:TypeId} {L:List AO} {k:Nat} {o o':AO} (h:L[k]? = some o) (hn:NotT t o):Keep t L (L.set k o'):=fun j m hj=>by
  by_cases e:k=j
  · subst e;rw [h] at hj;cases hj;exact absurd rfl (hn m)
  · rw [List.getElem?_set_ne e];exact hj
theorem yAw {h:H} (wf:Wf h) {lo:Nat} (hlo:lo≤h.clock) : ∀ (ks:List Nat) (L:List AO) (w:Nat),ks.Nodup→(∀ k ∈ ks,L[k]? = some .dfr)→lo≤w → ∃ L' w',takeAll (ks.map (nx h)) (X h L w)=some (X h L' w')∧L'.length=L.length∧w'≤w∧lo≤w' ∧ ∀ t,Keep t L L'
  | [],L,w,_,_,hw=>⟨L,w,rfl,rfl,Nat.le_refl _,hw,fun _=>Keep.rfl' _⟩
  | k :: ks,L,w,hn,hk,hw=>by
    have hk0:=hk k (by simp)
    rw [List.nodup_cons] at hn
    obtain ⟨L',w',e,hl,hw1,hw2,hkp⟩:=yAw wf hlo ks (L.set k .taken) (min (h.clock+k) w) hn.2 (fun j hj=>by
      rw [List.getElem?_set_ne (fun e=>hn.1 (by rw [e];exact hj))];exact hk j (by simp [hj])) (by omega)
    refine ⟨L',w',?_,by rw [hl,List.length_set],by omega,hw2,fun t=>(Keep.set hk0 yIw).trans (hkp t)⟩
    rw [List.map_cons,takeAll,zQx wf,hk0]
    dsimp only
    rw [zYx L w k _ (zHv hk0)]
    exact e
section
variable {P:Program} {K:List Con}
def YRJ (t:TypeId) (lo c d:Nat) (hb:H) (J:List AO) (w:Nat) (I D:H→List AO→Prop):AV→H→Prop:=fun v h'=>∃ hb' J2 J' w',h'=X hb' (J2++J') w'∧Same hb hb'∧Chg t J J2∧lo≤w'∧w'≤w∧(v = .bool true∧w'<c∧I hb' (J2++J')∨v = .bool false∧w'<d∧D hb' (J2++J'))
def HandsJ (P:Program) (K:List Con) (t:TypeId) (B:H→Prop) (fv:AV) (xs:List (List AV)):Prop:=
  ∀ (l:Pos) (hb0:H) (I:Nat→H→List AO→Prop) (D:H→List AO→Prop) (lo:Nat) (c:Nat→Nat) (d:Nat),lo≤hb0.w→hb0.w≤hb0.clock→(∀ k,c k≤hb0.clock)→d≤hb0.clock→(∀ i h J,I i h J→B h∧Same hb0 h)→(∀ h J,D h J→Wf h) →
    (∀ i h J J2,I i h J→Keep t J J2→I i h J2)→(∀ h J J2,D h J→Keep t J J2→D h J2) →
    (∀ i x,xs[i]? = some x → ∀ hb J w,I i hb J→lo≤w→w≤hb.clock+J.length→WV ((om P K).call (.yld l x) (X hb J w)) (YRJ t lo (c i) d hb J w (I (i+1)) D)) →
    I 0 hb0 []→WV (callV P (om P K) fv [.yld l] hb0) fun _ h'=>∃ hb J w,h'=X hb J w∧Same hb0 hb∧lo≤w∧w≤hb0.w∧(I xs.length hb J∧(∀ k,k<xs.length→w<c k)∨D hb J∧w<d)
theorem xZv {t:TypeId} {l:Pos} {x:List AV} {hb:H} {J:List AO} {w lo c d:Nat} {I D:H→List AO→Prop} {Q:AV→H→Prop}
    (y:WV ((om P K).call (.yld l x) (X hb J w)) (YRJ t lo c d hb J w I D))
    (q : ∀ hb' J2 J' w',Same hb hb'→Chg t J J2→lo≤w'→w'≤w→(w'<c→I hb' (J2++J')→Q (.bool true) (X hb' (J2++J') w'))∧(w'<d→D hb' (J2++J')→Q (.bool false) (X hb' (J2++J') w'))) :
    WV ((om P K).call (.yld l x) (X hb J w)) Q:=by
  refine y.mono fun v h' ⟨hb',J2,J',w',e,s,hch,hl',hle,hv⟩=>?_
  subst e
  have:=q hb' J2 J' w' s hch hl' hle
  rcases hv with ⟨rfl,hw,hi⟩|⟨rfl,hw,hd⟩
  · exact this.1 hw hi
  · exact this.2 hw hd
theorem HandsJ.plain {t:TypeId} {B:H→Prop} {fv:AV} {xs:List (List AV)} (hd:HandsJ P K t B fv xs):HandsC P K B fv xs:=
  fun l hb0 I D lo c d hlo hlw hc hdc hI hD hy h0=>hd l hb0 (fun i h _=>I i h) (fun h _=>D h) lo c d hlo hlw hc hdc (fun i h _ hi=>hI i h hi) (fun h _=>hD h) (fun _ _ _ _ h _=>h) (fun _ _ _ h _=>h)
    (fun i x hx hb J w hi hlo hw=>(hy i x hx hb J w hi hlo hw).mono fun v h' ⟨hb',J',w',e,s,h1,h2,hv⟩=>⟨hb',J,J',w',e,s,Chg.rfl' _,h1,h2,hv⟩) h0
end
end Go.Ev
namespace Go.Ev
section
variable {P:Program}
theorem Grow.keepK {h:H} {L0 G G':List AO} {v:AV} {sz e len:Nat} {cs:List AV} (g:Grow h L0 G v sz e len cs) (k:Keep e G G'):Grow h L0 G' v sz e len cs:=by
  obtain ⟨hl,⟨h0,rfl⟩|⟨idx,rfl,hg⟩⟩:=g
  · exact ⟨hl,.inl ⟨h0,rfl⟩⟩
  · exact ⟨hl,.inr ⟨idx,rfl,k _ _ hg⟩⟩
theorem Grow.appendC {h:H} (wf:Wf h) {L0 G:List AO} {v:AV} {sz e len bytes:Nat} {z:AV} {cs:List AV} (g:Grow h L0 G v sz e len cs) {t:TypeId} (hu:P.underlying t=some (.slice e)) (hz:sizeE P e=some sz) (E:El P e sz bytes z)
    {n:Nat} {new:List AV} {x:AV} (hn:len+n≤10000000) (hn0:n≠0) (hb:bytes≤100000) (hc:new.length=n * sz) (ho:allOne new=true) (hs : ∀ w,srcCells (X h (L0++G) w) sz x=some (n,new)) (w:Nat) (hw:h.clock≤w) :
    ∃ v' G2 o w',Chg e G G2∧Grow h L0 (G2++[o]) v' sz e (len+n) (cs++new)∧h.clock≤w'∧w'≤w∧appendE P t v x (X h (L0++G) w) = .ok v' (X h (L0++(G2++[o])) w'):=by
  obtain ⟨hl,⟨rfl,rfl⟩|⟨idx,rfl,hg⟩⟩:=g
  · have hcs:cs=[]:=List.length_eq_zero_iff.1 (by simpa using hl)
    subst hcs
    refine ⟨.sl (nx h (L0.length+G.length)) 0 n none sz,G,.cells (zAy new) e,w,Chg.rfl' _,⟨by simpa using hc,.inr ⟨G.length,by rw [Nat.zero_add],by simp⟩⟩,hw,Nat.le_refl w,?_⟩
    have:=xZy (P:=P) wf hu hz E (x:=x) (l:=L0++G) (w:=w) (by omega) hn0 hb (hs w) hc
    rw [List.length_append,List.append_assoc] at this
    exact this
  · have hi:=(List.getElem?_eq_some_iff.1 hg).1
    refine ⟨.sl (nx h (L0.length+G.length)) 0 (len+n) none sz,G.set idx .dead,.cells (zAy (cs++new)) e,min (h.clock+(L0.length+idx)) w,⟨by simp,fun k o hk hno=>?_⟩,⟨by rw [List.length_append,hl,hc,Nat.add_mul],.inr ⟨G.length,rfl,?_⟩⟩,by omega,Nat.min_le_right _ _,?_⟩
    · have hne:idx≠k:=fun e1=>by
        subst e1
        rw [hg] at hk
        cases hk
        exact hno _ rfl
      rw [List.getElem?_set_ne hne];exact hk
    · rw [List.getElem?_append_right (by simp)];simp
    · have:=yYz (P:=P) wf hu hz E (x:=x) (k:=L0.length+idx) (l:=L0++G) (w:=w) hn hn0 hb (by rw [zLv];exact hg) hl (hs w) hc ho
      rw [List.length_append,zNx,List.append_assoc] at this
      exact this
end
end Go.Ev
namespace Go.Ev
theorem Grow.front {h:H} {L0 L1 G:List AO} {v:AV} {sz e len:Nat} {cs:List AV} (g:Grow h L0 G v sz e len cs) (hl:L1.length=L0.length):Grow h L1 G v sz e len cs:=by
  obtain ⟨hc,⟨h0,rfl⟩|⟨idx,rfl,hg⟩⟩:=g
  · exact ⟨hc,.inl ⟨h0,rfl⟩⟩
  · exact ⟨hc,.inr ⟨idx,by rw [hl],hg⟩⟩
end Go.Ev
end

section
namespace Go.Ev
section
variable {P:Program}
theorem zerosE_rep (z:AV) (s:Nat) : ∀ n,zerosE (List.replicate s z) n=List.replicate (n * s) z
  | 0=>by rw [Nat.zero_mul];rfl
  | n+1=>by
    show List.replicate s z++zerosE (List.replicate s z) n=_
    rw [zerosE_rep z s n,List.replicate_append_replicate]
    congr 1
    rw [Nat.succ_mul];omega
theorem wBy {h0:H} (wf:Wf h0) {t e size bytes n s:Nat} {z z0:AV} {l:List AO} {w:Nat} (hu:P.underlying t=some (.slice e)) (hz:sizeE P e=some size) (E:El P e size bytes z) (hn:n≤1000) (hb:bytes≤100000) (h1:z.cells=List.replicate s z0) :
    makeSliceE P t (.int .i64 (n:Int)) (.int .i64 (n:Int)) (X h0 l w) = .ok (.sl (nx h0 l.length) 0 n (some n) size) (X h0 (l++[.cells (zAy (List.replicate (n * s) z0)) e]) w):=by
  obtain ⟨i,hi,rfl⟩:=Option.map_eq_some_iff.1 E.info
  have hs:i.size=size:=by
    unfold sizeE at hz
    rw [hi] at hz
    dsimp only at hz
    rw [zLz] at hz
    exact Option.some.inj hz
  unfold makeSliceE
  rw [hu]
  dsimp only
  rw [hi,E.zero]
  dsimp only
  rw [zTy]
  dsimp only
  have hc:(Nat.ble n n && Nat.ble n 1048576 && Nat.ble (i.bytes * n) 281474976710656 && Nat.beq z.cells.length i.size)=true:=by
    have h2:i.bytes * n≤100000 * 1000:=Nat.mul_le_mul hb hn
    rw [E.cells,hs,Nat.ble_eq_true_of_le (Nat.le_refl n),Nat.ble_eq_true_of_le (show n≤1048576 by omega),Nat.ble_eq_true_of_le (show i.bytes * n≤281474976710656 by omega)]
    simp
  rw [hc]
  dsimp only [cond]
  rw [zAw wf,h1,zerosE_rep,hs]
theorem slice_from {t e size:Nat} {id:Pos} {len m:Nat} (hu:P.underlying t=some (.slice e)) (hz:sizeE P e=some size) (hm:m<len):sliceE P t (.sl id 0 len (some len) size) (some m) none none=some (.sl id (m * size) (len - m) (some (len - m)) size):=by
  unfold sliceE
  rw [hu];dsimp only;rw [hz];dsimp only
  rw [show Nat.beq size size=true from Nat.beq_refl size]
  show sliceOf id 0 size (bif Nat.ble len len && Nat.ble m len then some (m,len,some len) else none)=_
  rw [Nat.ble_eq_true_of_le (Nat.le_refl len),Nat.ble_eq_true_of_le (Nat.le_of_lt hm)]
  show some (AV.sl id (bif Nat.beq len m then 0 else 0+m * size) (len - m) (some (len - m)) size)=_
  rw [show Nat.beq len m=false from by cases hb:Nat.beq len m with|false=>rfl|true=>have:=Nat.eq_of_beq_eq_true hb;omega]
  show some (AV.sl id (0+m * size) _ _ _)=_
  rw [Nat.zero_add]
theorem slice_to {t e size:Nat} {id:Pos} {len m:Nat} (hu:P.underlying t=some (.slice e)) (hz:sizeE P e=some size) (hm:m≤len) (h0:0<len):sliceE P t (.sl id 0 len (some len) size) none (some m) none=some (.sl id 0 m (some len) size):=by
  unfold sliceE
  rw [hu];dsimp only;rw [hz];dsimp only
  rw [show Nat.beq size size=true from Nat.beq_refl size]
  show sliceOf id 0 size (bif Nat.ble m len && Nat.ble 0 m then some (0,m,some len) else none)=_
  rw [Nat.ble_eq_true_of_le hm,Nat.ble_eq_true_of_le (Nat.zero_le m)]
  show some (AV.sl id (bif Nat.beq len 0 then 0 else 0+0 * size) (m - 0) (some (len - 0)) size)=_
  rw [show Nat.beq len 0=false from by cases hb:Nat.beq len 0 with|false=>rfl|true=>have:=Nat.eq_of_beq_eq_true hb;omega]
  show some (AV.sl id (0+0 * size) _ _ _)=_
  rw [Nat.zero_mul,Nat.zero_add,Nat.sub_zero,Nat.sub_zero]
end
end Go.Ev
end

section
namespace Go.Proofs.YtkmdidplmfdikaaDoor
open Go.Ev
set_option maxRecDepth 100000
set_option linter.unusedSimpArgs false
set_option linter.unusedVariables false
set_option maxHeartbeats 2000000

theorem tEvT1 :type_of% (And.intro (And.intro (And.intro (And.intro (And.intro (@zSv) (@ia_2)) (And.intro (@sz_2) (@ze_2))) (And.intro (And.intro (@ia_3) (@sz_3)) (And.intro (@zSy) (And.intro (@zTx) (@zRx))))) (And.intro (And.intro (And.intro (@zOv) (@zVw)) (And.intro (@zUv) (@zVx))) (And.intro (And.intro (@zZv) (@zZw)) (And.intro (@zSx) (And.intro (@zSz) (@zSw)))))) (And.intro (And.intro (And.intro (And.intro (@zXv) (@zUz)) (And.intro (@zOw) (@zOx))) (And.intro (And.intro (@zOy) (@zOz)) (And.intro (@zMy) (And.intro (@zMz) (@zRz))))) (And.intro (And.intro (And.intro (@zLw) (@zLx)) (And.intro (@zOv) (@yBw))) (And.intro (And.intro (@yAv) (@xLw)) (And.intro (@pb_82) (And.intro (@pb_68) (@pb_81))))))):=And.intro (And.intro (And.intro (And.intro (And.intro (@zSv) (@ia_2)) (And.intro (@sz_2) (@ze_2))) (And.intro (And.intro (@ia_3) (@sz_3)) (And.intro (@zSy) (And.intro (@zTx) (@zRx))))) (And.intro (And.intro (And.intro (@zOv) (@zVw)) (And.intro (@zUv) (@zVx))) (And.intro (And.intro (@zZv) (@zZw)) (And.intro (@zSx) (And.intro (@zSz) (@zSw)))))) (And.intro (And.intro (And.intro (And.intro (@zXv) (@zUz)) (And.intro (@zOw) (@zOx))) (And.intro (And.intro (@zOy) (@zOz)) (And.intro (@zMy) (And.intro (@zMz) (@zRz))))) (And.intro (And.intro (And.intro (@zLw) (@zLx)) (And.intro (@zOv) (@yBw))) (And.intro (And.intro (@yAv) (@xLw)) (And.intro (@pb_82) (And.intro (@pb_68) (@pb_81))))))
theorem offsets (lo hi:Int) (h:H) (wf:Wf h) (J:List AO) (w:Nat) (hw:w≤h.clock+J.length) :
    (om Tryd.prog KK).call (.fn 70 [.agg [ii lo,ii hi]]) (X h J w) = .ok (.fn 82 [] [.ptr (nx h J.length) 0]) (X h (J++[.cells (zAy [ii lo,ii hi]) 51]) w):=by
  have wf':=wf.X hw
  have key : ∀ hb,Wf hb→(om Tryd.prog KK).call (.fn 70 [.agg [ii lo,ii hi]]) hb = .ok (.fn 82 [] [.ptr (nx hb 0) 0]) (X hb [.cells (zAy [ii lo,ii hi]) 51] hb.w):=by
    clear wf wf'
    intro hb wf
    refine zWv (zKv (fn:=Tryd.f70) Tryd.func70 rfl rfl rfl rfl rfl ?_)
    simp only [zKx]
    (repeat' (first
  | (with_reducible first|refine zJz ?_|refine zGw ?_|refine zEw ?_|refine zEx ?_|refine zEv ?_|refine zJy ?_|refine zGv ?_|refine zBw ?_|refine zDx ?_|refine zBv ?_|refine zCx ?_|refine zEz ?_|refine zCw ?_|refine zCz ?_|refine zBz ?_|refine zDv ?_|refine zDy ?_|refine zAx ?_|refine zAv ?_)
  | refine zCv ?_|refine zEy rfl ?_|refine zIx ?_|refine zIv ?_
  | ((first|refine zGx rfl rfl rfl rfl rfl fun K_ hK_=>?_|refine zGy rfl rfl rfl rfl rfl fun K_ hK_=>?_);simp only [zAz,zDz,zFw,↓reduceIte,reduceCtorEq,Nat.reduceEqDiff,Bool.not_true,Bool.not_false];refine hK_ _ ?_;clear hK_ K_)
  | refine zDw (by decide) ?_
  | ((try first|refine zJx rfl rfl rfl ?_|refine zIy rfl rfl ?_|refine zJw rfl rfl rfl ?_|refine zIw rfl rfl ?_);(refine zIz fun Q_ hQ_=>?_;simp (disch:=first|omega|(simp only [List.length_cons,List.length_nil,List.length_append];omega)) only [bb,bp,zKx,↓reduceIte,reduceCtorEq,Nat.reduceEqDiff,Nat.reduceLT,Nat.reduceLeDiff,Nat.reduceAdd,Nat.reduceMul,Nat.reduceSub,Nat.reduceBEq,Int.reduceToNat,cond_true,cond_false,eq_self,beq_self_eq_true,zHz wf,zHx wf,zFz wf,zHy wf,zBx wf,zFy,tEvT1,zHw,zAw wf];first|(refine zCy (Q:=Q_) (fun hp_=>?_) (fun hp_=>?_) <;> first|(exfalso;omega)|(refine hQ_ _ _ ?_;clear hQ_ Q_))|(refine zBy (Q:=Q_) (fun hp_=>?_) (fun hp_=>?_) <;> first|(exfalso;omega)|(refine hQ_ _ _ ?_;clear hQ_ Q_))|(refine hQ_ _ _ ?_;clear hQ_ Q_)))
  | (refine zFv fun K_ hK_=>?_;simp (disch:=omega) only [zFx,zAz,zGz,↓reduceIte,reduceCtorEq,Nat.reduceEqDiff,Nat.reduceLT];refine hK_ _ ?_;clear hK_ K_)))
    refine zJv _ _ rfl (ret1 (by decide)) ?_
    simp only [zAz,↓reduceIte,reduceCtorEq,Nat.reduceEqDiff]
    refine yCz (by
      show (_ && flat (.fn 82 [] [.ptr _ 0]))=false
      exact Bool.and_false _) ?_
    refine ⟨rfl,?_⟩
    rw [Nat.min_eq_left wf.wle]
  rw [key _ wf',X_X,nx_X,X_w]
  rfl

structure RangeIn (hb:H) (p:Pos) (r:Int × Int):Prop where
  wf:Wf hb
  l0 : ∀ J w,load1 p 0 (X hb J w)=some (ii r.1)
  l1 : ∀ J w,load1 p 1 (X hb J w)=some (ii r.2)
theorem RangeIn.of {h:H} (wf:Wf h) {L:List AO} {w k:Nat} {r:Int × Int} (hw:w≤h.clock+L.length) (hk:L[k]? = some (.cells (zAy [ii r.1,ii r.2]) 51)):RangeIn (X h L w) (nx h k) r:=by
  have hk' : ∀ J:List AO,(L++J)[k]? = some (.cells (zAy [ii r.1,ii r.2]) 51):=fun J=>by rw [List.getElem?_append_left (zHv hk),hk]
  exact ⟨wf.X hw,fun J w'=>by rw [X_X,zHx wf,hk'];rfl,fun J w'=>by rw [X_X,zHx wf,hk'];rfl⟩

theorem offsets1 {t:TypeId} (p:Pos) (r:Int × Int) (hr:Off r.1∧Off r.2∧r.1≤r.2):HandsJ Tryd.prog KK t (fun hb=>RangeIn hb p r) (.fn 82 [] [.ptr p 0]) ((offs r).map fun y=>[ii y]):=by
  intro l hb0 I D lo c d0 hlo0 hlow hc0 hd0 hI hD mI mD hy h0
  have hB:=(hI 0 hb0 _ h0).1
  have wf:=hB.wf
  rw [yNw,pb_82]
  show WV ((om Tryd.prog KK).call (.fn 82 [.yld l,.ptr p 0]) hb0) _
  refine zKv (fn:=Tryd.f82) Tryd.func82 rfl rfl rfl rfl rfl ?_
  simp only [zKx]
  have hl0:=hB.l0
  have hl1:=hB.l1
  have hlen:=zMv r
  have same0:=(hI 0 hb0 _ h0).2
  (repeat' (first
  | (with_reducible first|refine zJz ?_|refine zGw ?_|refine zEw ?_|refine zEx ?_|refine zEv ?_|refine zJy ?_|refine zGv ?_|refine zBw ?_|refine zDx ?_|refine zBv ?_|refine zCx ?_|refine zEz ?_|refine zCw ?_|refine zCz ?_|refine zBz ?_|refine zDv ?_|refine zDy ?_|refine zAx ?_|refine zAv ?_)
  | refine zCv ?_|refine zEy rfl ?_|refine zIx ?_|refine zIv ?_
  | ((first|refine zGx rfl rfl rfl rfl rfl fun K_ hK_=>?_|refine zGy rfl rfl rfl rfl rfl fun K_ hK_=>?_);simp only [zAz,zDz,zFw,↓reduceIte,reduceCtorEq,Nat.reduceEqDiff,Bool.not_true,Bool.not_false];refine hK_ _ ?_;clear hK_ K_)
  | refine zDw (by decide) ?_
  | ((try first|refine zJx rfl rfl rfl ?_|refine zIy rfl rfl ?_|refine zJw rfl rfl rfl ?_|refine zIw rfl rfl ?_);(refine zIz fun Q_ hQ_=>?_;simp (disch:=first|omega|(simp only [List.length_cons,List.length_nil,List.length_append];omega)) only [bb,bp,zKx,↓reduceIte,reduceCtorEq,Nat.reduceEqDiff,Nat.reduceLT,Nat.reduceLeDiff,Nat.reduceAdd,Nat.reduceMul,Nat.reduceSub,Nat.reduceBEq,Int.reduceToNat,cond_true,cond_false,eq_self,beq_self_eq_true,hl0,hl1,zHz wf,zHx wf,zFz wf,zHy wf,zBx wf,zFy,tEvT1,zHw,zAw wf];first|(refine zCy (Q:=Q_) (fun hp_=>?_) (fun hp_=>?_) <;> first|(exfalso;omega)|(refine hQ_ _ _ ?_;clear hQ_ Q_))|(refine zBy (Q:=Q_) (fun hp_=>?_) (fun hp_=>?_) <;> first|(exfalso;omega)|(refine hQ_ _ _ ?_;clear hQ_ Q_))|(refine hQ_ _ _ ?_;clear hQ_ Q_)))
  | (refine zFv fun K_ hK_=>?_;simp (disch:=omega) only [zFx,zAz,zGz,↓reduceIte,reduceCtorEq,Nat.reduceEqDiff,Nat.reduceLT];refine hK_ _ ?_;clear hK_ K_)))
  refine zTv (fun (k:Nat) f d h'=>k≤(offs r).length∧f 0 = .yld l∧f 1 = .ptr p 0∧f 3=ii (r.1+(k:Int))∧d=[] ∧ ∃ hb J w,h'=X hb J w∧I k hb J∧lo≤w∧w≤hb.clock∧(∀ j,j<k→w<c j)) (fun k=>(offs r).length - k) ?_ ((offs r).length+1) 0 (by omega) ?_
  · clear wf hB hl0 hl1
    rintro k f d h' ⟨hk,g0,g1,g3,rfl,hb,J,w,rfl,hIk,hlo,hw,hw0⟩
    have hsc:=(hI _ hb _ hIk).2.clock
    have hB:=(hI _ hb _ hIk).1
    have hs:=(hI _ hb _ hIk).2
    have wf:=hB.wf
    have hl0:=hB.l0
    have hl1:=hB.l1
    by_cases hlt:k<(offs r).length
    · have hget:((offs r).map fun y=>[ii y])[k]? = some [ii (r.1+(k:Int))]:=by rw [List.getElem?_map,yEw (by omega)];rfl
      (repeat' (first
  | (with_reducible first|refine zJz ?_|refine zGw ?_|refine zEw ?_|refine zEx ?_|refine zEv ?_|refine zJy ?_|refine zGv ?_|refine zBw ?_|refine zDx ?_|refine zBv ?_|refine zCx ?_|refine zEz ?_|refine zCw ?_|refine zCz ?_|refine zBz ?_|refine zDv ?_|refine zDy ?_|refine zAx ?_|refine zAv ?_)
  | refine zCv ?_|refine zEy rfl ?_|refine zIx ?_|refine zIv ?_
  | ((first|refine zGx rfl rfl rfl rfl rfl fun K_ hK_=>?_|refine zGy rfl rfl rfl rfl rfl fun K_ hK_=>?_);simp only [zAz,zDz,zFw,↓reduceIte,reduceCtorEq,Nat.reduceEqDiff,Bool.not_true,Bool.not_false];refine hK_ _ ?_;clear hK_ K_)
  | refine zDw (by decide) ?_
  | ((try first|refine zJx rfl rfl rfl ?_|refine zIy rfl rfl ?_|refine zJw rfl rfl rfl ?_|refine zIw rfl rfl ?_);(refine zIz fun Q_ hQ_=>?_;simp (disch:=first|omega|(simp only [List.length_cons,List.length_nil,List.length_append];omega)) only [bb,bp,zKx,↓reduceIte,reduceCtorEq,Nat.reduceEqDiff,Nat.reduceLT,Nat.reduceLeDiff,Nat.reduceAdd,Nat.reduceMul,Nat.reduceSub,Nat.reduceBEq,Int.reduceToNat,cond_true,cond_false,eq_self,beq_self_eq_true,g0,g1,g3,hl0,hl1,zHz wf,zHx wf,zFz wf,zHy wf,zBx wf,zFy,tEvT1,zHw,zAw wf];first|(refine zCy (Q:=Q_) (fun hp_=>?_) (fun hp_=>?_) <;> first|(exfalso;omega)|(refine hQ_ _ _ ?_;clear hQ_ Q_))|(refine zBy (Q:=Q_) (fun hp_=>?_) (fun hp_=>?_) <;> first|(exfalso;omega)|(refine hQ_ _ _ ?_;clear hQ_ Q_))|(refine hQ_ _ _ ?_;clear hQ_ Q_)))
  | (refine zFv fun K_ hK_=>?_;simp (disch:=omega) only [zFx,zAz,zGz,↓reduceIte,reduceCtorEq,Nat.reduceEqDiff,Nat.reduceLT];refine hK_ _ ?_;clear hK_ K_)))
      refine zJx rfl rfl rfl ?_
      refine zIz fun Q_ hQ_=>?_
      simp (disch:=first|omega|(simp only [List.length_cons,List.length_nil,List.length_append];omega)) only [bb,bp,zKx,↓reduceIte,reduceCtorEq,Nat.reduceEqDiff,Nat.reduceLT,Nat.reduceLeDiff,Nat.reduceAdd,Nat.reduceMul,Nat.reduceSub,Nat.reduceBEq,Int.reduceToNat,cond_true,cond_false,eq_self,beq_self_eq_true,yRx,tEvT1,zHw,zAw wf]
      refine xZv (hy k _ hget hb _ w hIk hlo (by omega)) (fun hb' J2 J' w' s hch hl' hle'=>⟨fun hw' hI'=>hQ_ _ _ ?_,fun hw' hD'=>hQ_ _ _ ?_⟩)
      · clear hQ_ Q_
        have sc:=s.clock
        (repeat' (first
  | (with_reducible first|refine zJz ?_|refine zGw ?_|refine zEw ?_|refine zEx ?_|refine zEv ?_|refine zJy ?_|refine zGv ?_|refine zBw ?_|refine zDx ?_|refine zBv ?_|refine zCx ?_|refine zEz ?_|refine zCw ?_|refine zCz ?_|refine zBz ?_|refine zDv ?_|refine zDy ?_|refine zAx ?_|refine zAv ?_)
  | refine zCv ?_|refine zEy rfl ?_|refine zIx ?_|refine zIv ?_
  | ((first|refine zGx rfl rfl rfl rfl rfl fun K_ hK_=>?_|refine zGy rfl rfl rfl rfl rfl fun K_ hK_=>?_);simp only [zAz,zDz,zFw,↓reduceIte,reduceCtorEq,Nat.reduceEqDiff,Bool.not_true,Bool.not_false];refine hK_ _ ?_;clear hK_ K_)
  | refine zDw (by decide) ?_
  | ((try first|refine zJx rfl rfl rfl ?_|refine zIy rfl rfl ?_|refine zJw rfl rfl rfl ?_|refine zIw rfl rfl ?_);(refine zIz fun Q_ hQ_=>?_;simp (disch:=first|omega|(simp only [List.length_cons,List.length_nil,List.length_append];omega)) only [bb,bp,zKx,↓reduceIte,reduceCtorEq,Nat.reduceEqDiff,Nat.reduceLT,Nat.reduceLeDiff,Nat.reduceAdd,Nat.reduceMul,Nat.reduceSub,Nat.reduceBEq,Int.reduceToNat,cond_true,cond_false,eq_self,beq_self_eq_true,g3,tEvT1,zHw,zAw wf];first|(refine zCy (Q:=Q_) (fun hp_=>?_) (fun hp_=>?_) <;> first|(exfalso;omega)|(refine hQ_ _ _ ?_;clear hQ_ Q_))|(refine zBy (Q:=Q_) (fun hp_=>?_) (fun hp_=>?_) <;> first|(exfalso;omega)|(refine hQ_ _ _ ?_;clear hQ_ Q_))|(refine hQ_ _ _ ?_;clear hQ_ Q_)))
  | (refine zFv fun K_ hK_=>?_;simp (disch:=omega) only [zFx,zAz,zGz,↓reduceIte,reduceCtorEq,Nat.reduceEqDiff,Nat.reduceLT];refine hK_ _ ?_;clear hK_ K_)))
        refine zKy (k+1) (by omega) ⟨hlt,by simp only [zAz,↓reduceIte,reduceCtorEq,Nat.reduceEqDiff];exact g0,by simp only [zAz,↓reduceIte,reduceCtorEq,Nat.reduceEqDiff];exact g1,by simp only [zAz,↓reduceIte,reduceCtorEq,Nat.reduceEqDiff];rw [Int.natCast_succ,Int.add_assoc],rfl,hb',_,_,rfl,hI',by omega,by omega,fun j hj=>by
          by_cases e:j=k
          · rw [e];exact hw'
          · have:=hw0 j (by omega);omega⟩
      · clear hQ_ Q_
        have sc:=s.clock
        (repeat' (first
  | (with_reducible first|refine zJz ?_|refine zGw ?_|refine zEw ?_|refine zEx ?_|refine zEv ?_|refine zJy ?_|refine zGv ?_|refine zBw ?_|refine zDx ?_|refine zBv ?_|refine zCx ?_|refine zEz ?_|refine zCw ?_|refine zCz ?_|refine zBz ?_|refine zDv ?_|refine zDy ?_|refine zAx ?_|refine zAv ?_)
  | refine zCv ?_|refine zEy rfl ?_|refine zIx ?_|refine zIv ?_
  | ((first|refine zGx rfl rfl rfl rfl rfl fun K_ hK_=>?_|refine zGy rfl rfl rfl rfl rfl fun K_ hK_=>?_);simp only [zAz,zDz,zFw,↓reduceIte,reduceCtorEq,Nat.reduceEqDiff,Bool.not_true,Bool.not_false];refine hK_ _ ?_;clear hK_ K_)
  | refine zDw (by decide) ?_
  | ((try first|refine zJx rfl rfl rfl ?_|refine zIy rfl rfl ?_|refine zJw rfl rfl rfl ?_|refine zIw rfl rfl ?_);(refine zIz fun Q_ hQ_=>?_;simp (disch:=first|omega|(simp only [List.length_cons,List.length_nil,List.length_append];omega)) only [bb,bp,zKx,↓reduceIte,reduceCtorEq,Nat.reduceEqDiff,Nat.reduceLT,Nat.reduceLeDiff,Nat.reduceAdd,Nat.reduceMul,Nat.reduceSub,Nat.reduceBEq,Int.reduceToNat,cond_true,cond_false,eq_self,beq_self_eq_true,g3,tEvT1,zHw,zAw wf];first|(refine zCy (Q:=Q_) (fun hp_=>?_) (fun hp_=>?_) <;> first|(exfalso;omega)|(refine hQ_ _ _ ?_;clear hQ_ Q_))|(refine zBy (Q:=Q_) (fun hp_=>?_) (fun hp_=>?_) <;> first|(exfalso;omega)|(refine hQ_ _ _ ?_;clear hQ_ Q_))|(refine hQ_ _ _ ?_;clear hQ_ Q_)))
  | (refine zFv fun K_ hK_=>?_;simp (disch:=omega) only [zFx,zAz,zGz,↓reduceIte,reduceCtorEq,Nat.reduceEqDiff,Nat.reduceLT];refine hK_ _ ?_;clear hK_ K_)))
        have hs':=hs.trans s
        exact zJv _ (.tup []) rfl rfl (yOy (by omega) ⟨hb',_,_,rfl,hs',by omega,Nat.min_le_left _ _,.inr ⟨hD',by omega⟩⟩)
    · have hke:k=(offs r).length:=by omega
      subst hke
      (repeat' (first
  | (with_reducible first|refine zJz ?_|refine zGw ?_|refine zEw ?_|refine zEx ?_|refine zEv ?_|refine zJy ?_|refine zGv ?_|refine zBw ?_|refine zDx ?_|refine zBv ?_|refine zCx ?_|refine zEz ?_|refine zCw ?_|refine zCz ?_|refine zBz ?_|refine zDv ?_|refine zDy ?_|refine zAx ?_|refine zAv ?_)
  | refine zCv ?_|refine zEy rfl ?_|refine zIx ?_|refine zIv ?_
  | ((first|refine zGx rfl rfl rfl rfl rfl fun K_ hK_=>?_|refine zGy rfl rfl rfl rfl rfl fun K_ hK_=>?_);simp only [zAz,zDz,zFw,↓reduceIte,reduceCtorEq,Nat.reduceEqDiff,Bool.not_true,Bool.not_false];refine hK_ _ ?_;clear hK_ K_)
  | refine zDw (by decide) ?_
  | ((try first|refine zJx rfl rfl rfl ?_|refine zIy rfl rfl ?_|refine zJw rfl rfl rfl ?_|refine zIw rfl rfl ?_);(refine zIz fun Q_ hQ_=>?_;simp (disch:=first|omega|(simp only [List.length_cons,List.length_nil,List.length_append];omega)) only [bb,bp,zKx,↓reduceIte,reduceCtorEq,Nat.reduceEqDiff,Nat.reduceLT,Nat.reduceLeDiff,Nat.reduceAdd,Nat.reduceMul,Nat.reduceSub,Nat.reduceBEq,Int.reduceToNat,cond_true,cond_false,eq_self,beq_self_eq_true,g0,g1,g3,hl0,hl1,zHz wf,zHx wf,zFz wf,zHy wf,zBx wf,zFy,tEvT1,zHw,zAw wf];first|(refine zCy (Q:=Q_) (fun hp_=>?_) (fun hp_=>?_) <;> first|(exfalso;omega)|(refine hQ_ _ _ ?_;clear hQ_ Q_))|(refine zBy (Q:=Q_) (fun hp_=>?_) (fun hp_=>?_) <;> first|(exfalso;omega)|(refine hQ_ _ _ ?_;clear hQ_ Q_))|(refine hQ_ _ _ ?_;clear hQ_ Q_)))
  | (refine zFv fun K_ hK_=>?_;simp (disch:=omega) only [zFx,zAz,zGz,↓reduceIte,reduceCtorEq,Nat.reduceEqDiff,Nat.reduceLT];refine hK_ _ ?_;clear hK_ K_)))
      have hlast:=hw0 ((offs r).length - 1) (by omega)
      have hck:=hc0 ((offs r).length - 1)
      exact zJv _ (.tup []) rfl rfl (yOy (by omega) ⟨hb,_,_,rfl,hs,by omega,Nat.min_le_left _ _,.inl ⟨by rw [List.length_map];exact hIk,fun j hj=>by rw [List.length_map] at hj;have:=hw0 j hj;omega⟩⟩)
  · exact ⟨Nat.zero_le _,by simp only [zAz,↓reduceIte,reduceCtorEq,Nat.reduceEqDiff],by simp only [zAz,↓reduceIte,reduceCtorEq,Nat.reduceEqDiff],by simp only [zAz,↓reduceIte,reduceCtorEq,Nat.reduceEqDiff];simp,rfl,hb0,[],_,rfl,h0,Nat.le_trans hlo0 hlow,Nat.le_refl _,fun j h=>absurd h (Nat.not_lt_zero _)⟩
end Go.Proofs.YtkmdidplmfdikaaDoor
end

section
namespace Go.Ev
theorem yNx {α β : Type} {f : α → List β} {m:Nat} : ∀ (xs:List α),(∀ x ∈ xs,(f x).length=m) → ∀ (k j:Nat),j<m→(xs.flatMap f)[k * m+j]? = xs[k]?.bind fun x=>(f x)[j]?
  | [],_,k,j,_=>by simp
  | x :: xs,hf,0,j,hj=>by
    rw [List.flatMap_cons,Nat.zero_mul,Nat.zero_add,List.getElem?_append_left (by rw [hf x (by simp)];exact hj)];rfl
  | x :: xs,hf,k+1,j,hj=>by
    rw [List.flatMap_cons,List.getElem?_append_right (by rw [hf x (by simp),Nat.succ_mul];omega),hf x (by simp),show (k+1) * m+j - m=k * m+j from by rw [Nat.succ_mul];omega,yNx xs (fun x hx=>hf x (by simp [hx])) k j hj]
    rfl
theorem zXw {α β : Type} {f : α → List β} {m:Nat} : ∀ (xs:List α),(∀ x ∈ xs,(f x).length=m)→(xs.flatMap f).length=xs.length * m
  | [],_=>by simp
  | x :: xs,hf=>by rw [List.flatMap_cons,List.length_append,hf x (by simp),zXw xs (fun x hx=>hf x (by simp [hx])),List.length_cons,Nat.succ_mul,Nat.add_comm]
structure Stt where
  i:Nat
  a:Int
  b:Int
  s:Nat
def spot (sp:List (Int × Int)) (i:Nat):Int × Int:=sp.getD i (0,0)
theorem zQy {sp:List (Int × Int)} {i:Nat} (h:i<sp.length):sp[i]=spot sp i:=by simp [spot,h]
def sts1 (i:Nat) (a b:Int):List Stt:=[⟨i,a,b,0⟩,⟨i,a,b,1⟩,⟨i,a,b,2⟩]
def sts2 (sp:List (Int × Int)) (i:Nat) (a:Int):List Stt:=(offs (spot sp i)).flatMap fun b=>sts1 i a b
def stsOf (sp:List (Int × Int)) (i:Nat):List Stt:=(offs (spot sp (i - 1))).flatMap fun a=>sts2 sp i a
theorem sts2_len (sp:List (Int × Int)) (i:Nat) (a:Int):(sts2 sp i a).length=(offs (spot sp i)).length * 3:=zXw _ fun _ _=>rfl
theorem yYw (sp:List (Int × Int)) (i:Nat):(stsOf sp i).length=(offs (spot sp (i - 1))).length * ((offs (spot sp i)).length * 3):=zXw _ fun _ _=>sts2_len _ _ _
theorem stsOf_get {sp:List (Int × Int)} {i ka kb s:Nat} (ha:ka<(offs (spot sp (i - 1))).length) (hb:kb<(offs (spot sp i)).length) (hs:s<3) :
    (stsOf sp i)[ka * ((offs (spot sp i)).length * 3)+(kb * 3+s)]? = some ⟨i,(spot sp (i - 1)).1+(ka:Int),(spot sp i).1+(kb:Int),s⟩:=by
  have hm:(kb+1) * 3≤(offs (spot sp i)).length * 3:=Nat.mul_le_mul_right 3 hb
  unfold stsOf
  rw [yNx _ (fun a _=>sts2_len sp i a) ka _ (by omega),yEw (by rwa [zMv] at ha)]
  show (sts2 sp i _)[kb * 3+s]? = _
  unfold sts2
  rw [yNx (m:=3) _ (fun _ _=>rfl) kb s hs,yEw (by rwa [zMv] at hb)]
  match s,hs with
  | 0,_=>rfl
  | 1,_=>rfl
  | 2,_=>rfl
theorem yZv {sp:List (Int × Int)} {i:Nat} {x:Stt} : x ∈ stsOf sp i ↔ x.i=i∧((spot sp (i - 1)).1≤x.a∧x.a≤(spot sp (i - 1)).2)∧((spot sp i).1≤x.b∧x.b≤(spot sp i).2)∧x.s<3:=by
  obtain ⟨xi,xa,xb,xs⟩:=x
  unfold stsOf sts2 sts1
  simp only [List.mem_flatMap,zWy,List.mem_cons,List.not_mem_nil,or_false,Stt.mk.injEq]
  constructor
  · rintro ⟨a,ha,b,hb,h⟩
    rcases h with ⟨rfl,rfl,rfl,rfl⟩|⟨rfl,rfl,rfl,rfl⟩|⟨rfl,rfl,rfl,rfl⟩ <;> exact ⟨rfl,ha,hb,by omega⟩
  · rintro ⟨rfl,ha,hb,hs⟩
    refine ⟨xa,ha,xb,hb,?_⟩
    match xs,hs with
    | 0,_=>exact .inl ⟨rfl,rfl,rfl,rfl⟩
    | 1,_=>exact .inr (.inl ⟨rfl,rfl,rfl,rfl⟩)
    | 2,_=>exact .inr (.inr ⟨rfl,rfl,rfl,rfl⟩)
def stsTo (sp:List (Int × Int)) (k:Nat):List Stt:=(List.range k).flatMap fun i=>stsOf sp (i+1)
theorem yCx (sp:List (Int × Int)) (k:Nat):stsTo sp (k+1)=stsTo sp k++stsOf sp (k+1):=by unfold stsTo;rw [List.range_succ,List.flatMap_append];simp
def sts (sp:List (Int × Int)):List Stt:=stsTo sp (sp.length - 1)
theorem yPy (sp:List (Int × Int)) : ∀ {k m:Nat},k≤m → ∃ post,stsTo sp m=stsTo sp k++post
  | k,0,h=>⟨[],by rw [show k=0 from by omega];simp⟩
  | k,m+1,h=>by
    by_cases hk:k=m+1
    · exact ⟨[],by rw [hk];simp⟩
    · obtain ⟨post,e⟩:=yPy sp (k:=k) (m:=m) (by omega)
      exact ⟨post++stsOf sp (m+1),by rw [yCx,e,List.append_assoc]⟩
theorem sts_get {sp:List (Int × Int)} {k j:Nat} (hk:k+1<sp.length) (hj:j<(stsOf sp (k+1)).length):(sts sp)[(stsTo sp k).length+j]? = (stsOf sp (k+1))[j]?:=by
  obtain ⟨post,e⟩:=yPy sp (k:=k+1) (m:=sp.length - 1) (by omega)
  unfold sts
  rw [e,yCx,List.append_assoc,List.getElem?_append_right (by omega),List.getElem?_append_left (by omega)]
  congr 1;omega
def Stt.Ok (sp:List (Int × Int)) (x:Stt):Prop:=(1≤x.i∧x.i<sp.length)∧((spot sp (x.i - 1)).1≤x.a∧x.a≤(spot sp (x.i - 1)).2)∧((spot sp x.i).1≤x.b∧x.b≤(spot sp x.i).2)∧x.s<3
theorem mem_sts {sp:List (Int × Int)} {x:Stt} : x ∈ sts sp ↔ x.Ok sp:=by
  unfold sts stsTo Stt.Ok
  simp only [List.mem_flatMap,List.mem_range]
  constructor
  · rintro ⟨i,hi,hx⟩
    obtain ⟨h1,h2,h3,h4⟩:=yZv.1 hx
    rw [h1]
    exact ⟨by omega,h2,h3,h4⟩
  · rintro ⟨h1,h2,h3,h4⟩
    refine ⟨x.i - 1,by omega,yZv.2 ⟨by omega,?_⟩⟩
    rw [show x.i - 1+1=x.i from by omega]
    exact ⟨h2,h3,h4⟩
def Stt.ix (sp:List (Int × Int)) (x:Stt):Nat:=(x.i - 1) * 75+(x.a - (spot sp (x.i - 1)).1).toNat * 15+(x.b - (spot sp x.i).1).toNat * 3+x.s
def Narrow (sp:List (Int × Int)):Prop:=∀ i,i<sp.length→(spot sp i).1≤(spot sp i).2∧(spot sp i).2 - (spot sp i).1≤4
theorem Stt.Ok.lt {sp:List (Int × Int)} {x:Stt} (hn:Narrow sp) (hx:x.Ok sp):x.ix sp<(sp.length - 1) * 75∧(x.i - 1) * 75≤x.ix sp∧x.ix sp<x.i * 75:=by
  obtain ⟨⟨h1,h2⟩,h3,h4,h5⟩:=hx
  have n1:=hn (x.i - 1) (by omega)
  have n2:=hn x.i h2
  unfold Stt.ix
  omega
theorem Stt.Ok.inj {sp:List (Int × Int)} {x y:Stt} (hn:Narrow sp) (hx:x.Ok sp) (hy:y.Ok sp) (h:x.ix sp=y.ix sp):x=y:=by
  have l1:=hx.lt hn
  have l2:=hy.lt hn
  obtain ⟨xi,xa,xb,xs⟩:=x
  obtain ⟨yi,ya,yb,ys⟩:=y
  have hi:xi=yi:=by dsimp only at l1 l2 h;omega
  subst hi
  obtain ⟨⟨h1,h2⟩,h3,h4,h5⟩:=hx
  obtain ⟨_,k3,k4,k5⟩:=hy
  have n1:=hn (xi - 1) (by dsimp only at h1 h2;omega)
  have n2:=hn xi h2
  unfold Stt.ix at h
  dsimp only at h h3 h4 h5 k3 k4 k5
  have e1:xs=ys:=by omega
  have e2:xb=yb:=by omega
  have e3:xa=ya:=by omega
  rw [e1,e2,e3]
theorem yCw {α β : Type} {f : α → List β} {R : β → β → Prop} {xs:List α} (h1 : ∀ x ∈ xs,(f x).Pairwise R) (h2:xs.Pairwise fun x y=>∀ a ∈ f x,∀ b ∈ f y,R a b):(xs.flatMap f).Pairwise R:=by
  rw [List.pairwise_flatMap];exact ⟨h1,h2⟩
theorem sts_sorted {sp:List (Int × Int)} (hn:Narrow sp):(sts sp).Pairwise fun x y=>x.ix sp<y.ix sp:=by
  unfold sts stsTo
  refine yCw (fun k hk=>?_) ?_
  · rw [List.mem_range] at hk
    have n1:=hn k (by omega)
    have n2:=hn (k+1) (by omega)
    unfold stsOf sts2 sts1
    refine yCw (fun a ha=>yCw (fun b hb=>?_) ?_) ?_
    · refine List.pairwise_cons.2 ⟨?_,List.pairwise_cons.2 ⟨?_,List.pairwise_cons.2 ⟨?_,List.Pairwise.nil⟩⟩⟩
      · simp only [List.mem_cons,List.not_mem_nil,or_false]
        rintro x (rfl|rfl) <;> (unfold Stt.ix;dsimp only;omega)
      · simp only [List.mem_cons,List.not_mem_nil,or_false]
        rintro x rfl;unfold Stt.ix;dsimp only;omega
      · intro x hx;cases hx
    · refine List.Pairwise.imp_of_mem (fun {b b'} hb hb' hlt=>?_) (xUz _)
      have:=zWy.1 hb
      have:=zWy.1 hb'
      simp only [List.mem_cons,List.not_mem_nil,or_false]
      rintro x (rfl|rfl|rfl) y (rfl|rfl|rfl) <;> (unfold Stt.ix;dsimp only;omega)
    · refine List.Pairwise.imp_of_mem (fun {a a'} ha ha' hlt=>?_) (xUz _)
      have q1:=zWy.1 ha
      have q2:=zWy.1 ha'
      rw [Nat.add_sub_cancel] at q1 q2
      simp only [List.mem_flatMap,List.mem_cons,List.not_mem_nil,or_false]
      rintro x ⟨b,hb,(rfl|rfl|rfl)⟩ y ⟨b',hb',(rfl|rfl|rfl)⟩ <;> (have q3:=zWy.1 hb;have q4:=zWy.1 hb';unfold Stt.ix;dsimp only;rw [Nat.add_sub_cancel];omega)
  · refine List.Pairwise.imp_of_mem (fun {k m} hk hm hlt=>?_) List.pairwise_lt_range
    rw [List.mem_range] at hk hm
    intro x hx y hy
    obtain ⟨x1,x2,x3,x4⟩:=yZv.1 hx
    obtain ⟨y1,y2,y3,y4⟩:=yZv.1 hy
    have lx:=Stt.Ok.lt hn (x:=x) ⟨by omega,by rw [x1];exact x2,by rw [x1];exact x3,x4⟩
    have ly:=Stt.Ok.lt hn (x:=y) ⟨by omega,by rw [y1];exact y2,by rw [y1];exact y3,y4⟩
    omega
end Go.Ev
namespace Go.Ev
theorem xRw (sp:List (Int × Int)) (i:Nat):stsOf sp i=(pairs2 (spot sp (i - 1)) (spot sp i)).flatMap fun p=>sts1 i p.1 p.2:=by
  unfold stsOf sts2 pairs2
  rw [List.flatMap_assoc]
  congr 1;funext a
  rw [List.flatMap_map]
def startsL (sp:List (Int × Int)):List Stt:=(pairs2 (spot sp 0) (spot sp 1)).map fun p=>⟨1,p.1,p.2,0⟩
theorem starts_len (sp:List (Int × Int)):(stsOf sp 1).length=(startsL sp).length * 3:=by
  rw [xRw,zXw (m:=3) _ (fun _ _=>rfl)];unfold startsL;rw [List.length_map]
theorem starts_get {sp:List (Int × Int)} {q:Nat} {x:Stt} (h:(stsOf sp 1)[q]? = some x):x.s=q % 3∧(x.s=0→(startsL sp)[q / 3]? = some x):=by
  rw [xRw,show q=q / 3 * 3+q % 3 from by omega,yNx (m:=3) _ (fun _ _=>rfl) _ _ (Nat.mod_lt _ (by decide))] at h
  unfold startsL
  rw [List.getElem?_map]
  cases hp:(pairs2 (spot sp (1 - 1)) (spot sp 1))[q / 3]? with
  | none=>rw [hp] at h;cases h
  | some p=>
    rw [hp] at h
    have h':(sts1 1 p.1 p.2)[q % 3]? = some x:=h
    have hp':(pairs2 (spot sp 0) (spot sp 1))[q / 3]? = some p:=hp
    unfold sts1 at h'
    have hm:q % 3<3:=Nat.mod_lt _ (by decide)
    match hq:q % 3,hm with
    | 0,_=>rw [hq] at h';cases h';exact ⟨rfl,fun _=>rfl⟩
    | 1,_=>rw [hq] at h';cases h';exact ⟨rfl,fun e=>by cases e⟩
    | 2,_=>rw [hq] at h';cases h';exact ⟨rfl,fun e=>by cases e⟩
end Go.Ev
namespace Go.Ev
theorem yQw {α β : Type} {f : α → List β} {m:Nat} : ∀ (xs:List α),(∀ x ∈ xs,(f x).length=m) → ∀ (k:Nat) (x : α),xs[k]? = some x→((xs.flatMap f).drop (k * m)).take m=f x
  | [],_,k,x,h=>by simp at h
  | y :: xs,hf,0,x,h=>by
    simp only [List.getElem?_cons_zero,Option.some.injEq] at h
    subst h
    rw [Nat.zero_mul,List.drop_zero,List.flatMap_cons,List.take_append_of_le_length (by rw [hf y (by simp)];exact Nat.le_refl _),List.take_of_length_le (by rw [hf y (by simp)];exact Nat.le_refl _)]
  | y :: xs,hf,k+1,x,h=>by
    rw [List.flatMap_cons,List.drop_append,hf y (by simp),List.drop_of_length_le (by rw [hf y (by simp),Nat.succ_mul];omega),List.nil_append,show (k+1) * m - m=k * m from by rw [Nat.succ_mul];omega]
    exact yQw xs (fun x hx=>hf x (by simp [hx])) k x (by simpa using h)
theorem xWw {α β : Type} {f : α → List β} {m:Nat} : ∀ (xs:List α),(∀ x ∈ xs,(f x).length=m) → ∀ (k:Nat) (y : α),k<xs.length→(xs.flatMap f).take (k * m)++f y++(xs.flatMap f).drop (k * m+m)=(xs.set k y).flatMap f
  | [],_,k,y,h=>by simp at h
  | x :: xs,hf,0,y,h=>by
    rw [Nat.zero_mul,List.take_zero,List.nil_append,Nat.zero_add,List.flatMap_cons,List.drop_append,hf x (by simp),List.drop_of_length_le (by rw [hf x (by simp)];exact Nat.le_refl _),Nat.sub_self,List.drop_zero,List.nil_append]
    rfl
  | x :: xs,hf,k+1,y,h=>by
    have hx:=hf x (by simp)
    rw [List.flatMap_cons,List.take_append,hx,List.take_of_length_le (by rw [hx,Nat.succ_mul];omega),List.drop_append,hx,List.drop_of_length_le (by rw [hx,Nat.succ_mul];omega),List.nil_append,
      show (k+1) * m - m=k * m from by rw [Nat.succ_mul];omega,show (k+1) * m+m - m=k * m+m from by rw [Nat.succ_mul];omega,List.append_assoc,List.append_assoc,← List.append_assoc (List.take _ _),xWw xs (fun x hx=>hf x (by simp [hx])) k y (by simpa using h),List.set_cons_succ,List.flatMap_cons]
def dS :Stt:=⟨0,0,0,0⟩
def pr (ys:List Stt) (j:Nat):List Stt:=(List.range ys.length).map fun i=>if i<j∨ys.length≤i+j then ys.getD (ys.length - 1 - i) dS else ys.getD i dS
theorem xTx (ys:List Stt) (j:Nat):(pr ys j).length=ys.length:=by unfold pr;simp
theorem pr_get (ys:List Stt) (j:Nat) {i:Nat} (hi:i<ys.length):(pr ys j)[i]? = some (if i<j∨ys.length≤i+j then ys.getD (ys.length - 1 - i) dS else ys.getD i dS):=by
  unfold pr;rw [List.getElem?_map,List.getElem?_range hi];rfl
theorem pr_zero (ys:List Stt):pr ys 0=ys:=by
  refine List.ext_getElem? fun i=>?_
  by_cases hi:i<ys.length
  · rw [pr_get _ _ hi,if_neg (by omega)];simp [hi]
  · rw [List.getElem?_eq_none (by rw [xTx];omega),List.getElem?_eq_none (by omega)]
theorem pr_swap (ys:List Stt) {j:Nat} (hj:j+j+1<ys.length):((pr ys j).set j (ys.getD (ys.length - 1 - j) dS)).set (ys.length - 1 - j) (ys.getD j dS)=pr ys (j+1):=by
  refine List.ext_getElem? fun i=>?_
  by_cases hi:i<ys.length
  · rw [pr_get _ _ hi,List.getElem?_set,List.getElem?_set,pr_get _ _ hi,List.length_set,xTx]
    by_cases h1:ys.length - 1 - j=i
    · rw [if_pos h1,if_pos (by omega),if_pos (by omega),show ys.length - 1 - i=j from by omega]
    · rw [if_neg h1]
      by_cases h2:j=i
      · rw [if_pos h2,if_pos (by omega),if_pos (by omega),h2]
      · rw [if_neg h2]
        by_cases h3:i<j∨ys.length≤i+j
        · rw [if_pos h3,if_pos (by omega)]
        · rw [if_neg h3,if_neg (by omega)]
  · rw [List.getElem?_eq_none (by rw [List.length_set,List.length_set,xTx];omega),List.getElem?_eq_none (by rw [xTx];omega)]
theorem pr_done (ys:List Stt) {j:Nat} (hj:ys.length≤j+j+1):pr ys j=ys.reverse:=by
  refine List.ext_getElem? fun i=>?_
  by_cases hi:i<ys.length
  · rw [pr_get _ _ hi,List.getElem?_reverse hi]
    have hg:ys[ys.length - 1 - i]? = some (ys.getD (ys.length - 1 - i) dS):=by simp [List.getD,show ys.length - 1 - i<ys.length from by omega]
    rw [hg]
    by_cases h3:i<j∨ys.length≤i+j
    · rw [if_pos h3]
    · rw [if_neg h3,show ys.length - 1 - i=i from by omega]
  · rw [List.getElem?_eq_none (by rw [xTx];omega),List.getElem?_eq_none (by rw [List.length_reverse];omega)]
end Go.Ev
end
