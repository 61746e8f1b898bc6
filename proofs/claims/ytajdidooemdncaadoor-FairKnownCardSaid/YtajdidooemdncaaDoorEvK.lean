/-
  THE CLOSED STATEMENT OF LAYER 1: the examples of the chapter.
-/
import Derived.Test.YtajdidooemdncaaDoorCards
import Derived.Test.YtajdidooemdncaaDoorTie
import Derived.WalkKit
import Derived.ProofKit
import Derived.OpenShut
import Derived.Deep.DeepHandedRow
import Derived.Lib.LaidTab
import Derived.Test.YtajdidooemdncaaDoorEvKr
namespace Go.Proofs.YtajdidooemdncaaDoor.fairKnown
open Go.ChangeShapes Go.WideShapes Go.ChangeAt Go.RowKit Go.Ev
set_option maxRecDepth 100000
set_option maxHeartbeats 0

theorem own : ownKnob Tryd.prog.godebug = none := by kernel_rfl
theorem gTab : Tryd.prog.globalNamed "tumblehome/fair.none" = some 0 := by kernel_rfl
theorem gTabType : (Tryd.prog.globals[0]?).map (·.type) = some 114 := by kernel_rfl
theorem cells114 : Tryd.prog.cellsOf 114 = 3 := by kernel_rfl
theorem cells2 : Tryd.prog.cellsOf 2 = 1 := by kernel_rfl

/-- What the row's list gives. -/
theorem table {W : World} (h : laidMetH Tryd.prog Rows.fairKnownRow.laid W) : Lib.TabIs Tryd.prog W "tumblehome/fair.none" .i64 [1099511627776, 1099511627776, 1099511627776] :=
  Lib.tabIs_of_head (rest := []) gTab gTabType Tryd.underlying114 Tryd.underlying2 cells2 cells114 h

theorem cell_some {W : World} {i : Nat} {v : Value} (h : W.cell? ⟨0, i, none⟩ = some v) : ∃ c e f, W.heap[0]? = some (.cells c e f) ∧ c[i]? = some v := by
  unfold World.cell? at h
  dsimp only at h
  split at h
  · rename_i c e f hb
    exact ⟨_, _, _, hb, h⟩
  · cases h

theorem tab {W : World} (h : laidMetH Tryd.prog Rows.fairKnownRow.laid W) : Table [far, far, far] W := by
  have t := table h
  have c0 : W.cell? ⟨0, 0, none⟩ = some (.int .i64 1099511627776) := t.cell gTab 0 (by decide)
  have c1 : W.cell? ⟨0, 1, none⟩ = some (.int .i64 1099511627776) := t.cell gTab 1 (by decide)
  have c2 : W.cell? ⟨0, 2, none⟩ = some (.int .i64 1099511627776) := t.cell gTab 2 (by decide)
  obtain ⟨c, e, f, h0, g0⟩ := cell_some c0
  obtain ⟨_, _, _, h1, g1⟩ := cell_some c1
  obtain ⟨_, _, _, h2, g2⟩ := cell_some c2
  rw [h0] at h1 h2
  cases h1
  cases h2
  refine ⟨c, e, f, h0, fun i v hv => ?_⟩
  match i, hv with
  | 0, hv => cases hv; exact ⟨_, g0, .int _ _⟩
  | 1, hv => cases hv; exact ⟨_, g1, .int _ _⟩
  | 2, hv => cases hv; exact ⟨_, g2, .int _ _⟩
  | i + 3, hv => simp at hv

theorem walk {W : World} (h : Table [far, far, far] W) : Calls Tryd.prog 12 #[] W fun e w' => e = .returned (.bool true) ∧ Grown W w' :=
  startc_true (P := Tryd.prog) mixed (cons := [cS1, cF0, cC0, cW]) (fun _ h => by
    simp only [List.mem_cons, List.not_mem_nil, or_false] at h
    rcases h with rfl | rfl | rfl | rfl
    · exact cS1_ok
    · exact cF0_ok
    · exact cC0_ok
    · exact cW_ok) (n := 100000) (g := 12) (cs := [far, far, far]) (args := []) run h (args' := #[]) .nil

theorem contract (H : Type) (enc : TypeId × Value → H) (W : World) (args : Array Value) (ds gs : List (DataW H)) (before : List MemPlace)
    (hW : DataW.Whole enc Tryd.prog Tryd.f12.params.toList Rows.fairKnownSpec.vars false W args.toList ds gs before) (hL : laidMetH Tryd.prog Rows.fairKnownRow.laid W) :
    Calls Tryd.prog 12 args W fun e W' => ∃ v, e = .returned v ∧ Rows.fairKnownSpec.post enc Tryd.prog Tryd.f12 false true false false W args v W' := by
  have hW' := hW
  obtain ⟨p, q, hA0, hV, rfl, hfz, hnd⟩ := hW
  have hA : DataW.TrodAll enc Tryd.prog W 0 (fun _ => true) true Tryd.f12.params.toList args.toList ds p := hA0
  rw [Tryd.params12] at hA
  obtain ⟨hargs, rfl, rfl⟩ := trodAll_nil hA
  obtain rfl : args = #[] := by cases args; simp_all
  obtain ⟨rfl, rfl⟩ := trodVars_none hV
  clear hA0
  simp only [List.append_nil] at hW'
  refine (walk (tab hL)).mono fun e W' ⟨he, hg⟩ => ?_
  subst he
  exact ⟨_, rfl, post_of_same (pa := []) (pv := []) hW' (fun _ _ _ => trodAll_cons_mk (shut_bool Tryd.underlying4 _) trodAll_mk0) (fun _ _ => trodAll_mk0) (fun _ _ => rfl) rfl
    (hg.frame _) hg.2.1 (ok_one (by kernel_rfl) rfl (okWide_bool_mk Tryd.underlying4 _))⟩

/-- A world for the witness. -/
noncomputable def laidWorld (os : Os) : World :=
  { World.holding Tryd.prog os ⟨#[], #[], []⟩ with heap := (World.holding Tryd.prog os ⟨#[], #[], []⟩).heap.modify 0 fun
      | .cells _ t frozen => .cells #[.int .i64 1099511627776, .int .i64 1099511627776, .int .i64 1099511627776] t frozen
      | o => o }
theorem laid_met (os : Os) : laidMet Tryd.prog Rows.fairKnownRow.laid ((laidWorld os).forCall (fun _ _ => 0) ⟨#[], #[], []⟩).memory :=
  laidMet_of_run' 8 (by kernel_rfl) (by kernel_rfl)
theorem reads (os : Os) {H : Type} (enc : TypeId × Value → H) : ∃ places, DataW.whole enc Tryd.prog ((laidWorld os).forCall (fun _ _ => 0) ⟨#[], #[], []⟩).memory Tryd.f12.params.toList Rows.fairKnownSpec.vars false (#[] : Array Value).toList 8 = some ([], [], places) :=
  ⟨[], by kernel_rfl⟩

theorem lifted (os : Os) (started : os.Started) (H : Type) (enc : TypeId × Value → H) (F : Stop.Interp) :
    ReturnsInHanded {} Tryd.checked os 12 .any ((OpenSpec.ofChange Rows.fairKnownSpec).preRow enc Tryd.prog Tryd.f12 Rows.fairKnownRow.domain false Rows.fairKnownRow.laid) (((OpenSpec.ofChange Rows.fairKnownSpec).at F).post enc Tryd.prog Tryd.f12 false true false false) := by
  obtain ⟨places, hx⟩ := reads os enc
  refine returnsInHanded_of_row (C := Tryd.checked) (s := OpenSpec.ofChange Rows.fairKnownSpec) own started (by kernel_rfl) Tryd.func12
    (witness_row_at (enc := enc) (C := Tryd.checked) false (laidWorld os) #[] rfl (by kernel_rfl) (by kernel_rfl) (by kernel_rfl)
      (OpenSpec.preRow_of_cond 8 hx (by kernel_rfl) (fun k hk => by cases hk) (by kernel_rfl) (laid_met os))) ?_
  intro W base args ds gs before hval hW _ _ _ hL _ _
  exact contract H enc W args ds gs before hW hL

theorem said : Rows.FairKnownSaid :=
  OpenClaim.holds_of_cond 12 Tryd.f12 rfl rfl rfl rfl rfl rfl rfl ⟨rfl, rfl, rfl, rfl, rfl⟩ rfl rfl rfl rfl rfl (by kernel_rfl) Tryd.func12 (by kernel_rfl)
    (of_decide_eq_true (by kernel_rfl)) (by unfold Func.isWrapper; first | (rw [if_pos (by decide +kernel)]; kernel_rfl) | (rw [if_neg (by decide +kernel)]; exact ⟨rfl, rfl⟩))
    (fun os started H enc _ F => by rw [OpenClaim.pre_eq_preRow]; exact lifted os started H enc F)

theorem plain (f : FuncId) (fn : Func) (hf : Tryd.pinned.checked.prog.funcNamed "tumblehome/tumblehomelaw01.FairKnown" = some f) (hfn : Tryd.pinned.checked.prog.funcs[f]? = some fn) :
    false = Tryd.pinned.checked.prog.looks [] ∧ ∀ (j : Nat) t, fn.params[j]? = some t → Tryd.pinned.checked.prog.wantsStandIn t = false := by
  obtain rfl : f = 12 := Option.some.inj ((show Tryd.prog.funcNamed "tumblehome/tumblehomelaw01.FairKnown" = some 12 by kernel_rfl).symm.trans hf) |>.symm
  obtain rfl : fn = Tryd.f12 := (Option.some.inj (Tryd.func12.symm.trans hfn)).symm
  refine ⟨by kernel_rfl, fun j t ht => ?_⟩
  rw [Tryd.params12] at ht
  simp at ht

/-- ████ THE CARD ████ -/
theorem card : Rows.FairKnownCardSaid :=
  Claim7.holds_tied_plain_at .later [] _ _ _ _ said (fun _ h => by cases h) (by kernel_rfl) (fun _ h => by cases h) fairKnown_row_tie rfl ⟨rfl, rfl⟩ (by kernel_rfl) rfl plain (by kernel_rfl)
end Go.Proofs.YtajdidooemdncaaDoor.fairKnown
