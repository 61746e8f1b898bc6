/-
  THE EVALUATOR'S SOUNDNESS, 18: calls and code, by induction.
-/
import Derived.Test.YthaleckfgcgegaaEvS17
namespace Go.Ev

theorem retE_some {P : Program} {rs : List ResultVar} {tm : M AV} {h h' : H} {v : AV} (e : retE P rs tm h = .ok v h') : h' = h ∧ ∃ vs, resultsE P tm h rs = some vs ∧ ((∃ u, vs = [u] ∧ v = u) ∨ (vs.length ≠ 1 ∧ v = .tup vs)) := by
  unfold retE at e
  cases hr : resultsE P tm h rs with
  | none => rw [hr] at e; cases e
  | some vs =>
    rw [hr] at e
    cases vs with
    | nil => cases e; exact ⟨rfl, [], rfl, .inr ⟨by simp, rfl⟩⟩
    | cons a l => cases l with
      | nil => cases e; exact ⟨rfl, [v], rfl, .inl ⟨v, rfl, rfl⟩⟩
      | cons b l => cases e; exact ⟨rfl, _, rfl, .inr ⟨by simp, rfl⟩⟩

theorem resultsE_run {P : Program} {ρ : R} {n : Nat} {tm : M AV} {tmps : Array Value} {h : H} {w : World} (ht : TR ρ n tm tmps) (hr : HR ρ h w) : ∀ {rs : List ResultVar} {vs : List AV}, resultsE P tm h rs = some vs →
    ∃ vs', (rs.mapM (fun | .tmp t => pure (tmps.getD t undef) | .cell a t => do loadVar t (← asAddr (tmps.getD a undef)) : ResultVar → Sem Value)).run P w = .ok vs' w ∧ VL ρ vs vs'
  | [], vs, e => by cases e; exact ⟨[], rfl, .nil⟩
  | r :: rs, vs, e => by
    unfold resultsE at e
    cases h1 : resultE P tm h r with
    | none => rw [h1] at e; cases e
    | some v =>
      rw [h1] at e
      dsimp only at e
      cases h2 : resultsE P tm h rs with
      | none => rw [h2] at e; cases e
      | some us =>
        rw [h2] at e
        cases e
        obtain ⟨us', g1, g2⟩ := resultsE_run ht hr h2
        have one : ∃ v', ((fun | .tmp t => pure (tmps.getD t undef) | .cell a t => do loadVar t (← asAddr (tmps.getD a undef)) : ResultVar → Sem Value) r).run P w = .ok v' w ∧ VR ρ v v' := by
          cases r with
          | tmp t => exact ⟨_, rfl, ht.2 t v h1⟩
          | cell a t =>
            unfold resultE at h1
            dsimp only at h1
            cases h3 : tm.get a with
            | none => rw [h3] at h1; cases h1
            | some p =>
              rw [h3] at h1
              obtain ⟨b, off, e1, v', e2, e3⟩ := loadE_var (P := P) hr (ht.2 a p h3) h1
              refine ⟨v', ?_, e3⟩
              show (asAddr (tmps.getD a undef) >>= fun x => loadVar t x).run P w = _
              rw [e1]
              exact (step_ok (a := ⟨b, off, none⟩) (w1 := w) rfl).trans e2
        obtain ⟨v', e1, e2⟩ := one
        refine ⟨v' :: us', ?_, .cons _ _ _ _ e2 g2⟩
        rw [List.mapM_cons]
        refine (step_ok e1).trans ?_
        refine (step_ok g1).trans ?_
        rfl

theorem results_run {P : Program} {ρ : R} {n : Nat} {tm : M AV} {tmps : Array Value} {h h' : H} {w : World} {fn : Func} {v : AV} (ht : TR ρ n tm tmps) (hr : HR ρ h w) (e : retE P fn.results.toList tm h = .ok v h') :
    ∃ v', (results fn tmps).run P w = .ok v' w ∧ VR ρ v v' := by
  obtain ⟨_, vs, e1, e2⟩ := retE_some e
  obtain ⟨vs', g1, g2⟩ := resultsE_run (P := P) ht hr e1
  have hm : (fn.results.mapM (fun | .tmp t => pure (tmps.getD t undef) | .cell a t => do loadVar t (← asAddr (tmps.getD a undef)) : ResultVar → Sem Value)).run P w = .ok vs'.toArray w := by
    rw [Array.mapM_eq_mapM_toList, Sem.run_map, g1]; rfl
  have hrun : (results fn tmps).run P w = .ok (if h : vs'.toArray.size = 1 then vs'.toArray[0] else .tuple vs'.toArray) w := by
    unfold results
    exact (step_ok hm).trans rfl
  refine ⟨_, hrun, ?_⟩
  have hl := g2.length
  rcases e2 with ⟨u, rfl, rfl⟩ | ⟨hne, rfl⟩
  · cases g2 with
    | cons _ _ u' _ hu hn => cases hn; simpa using hu
  · have : ¬ vs'.toArray.size = 1 := by simp; omega
    rw [dif_neg this]
    exact .tup _ _ (by simpa using g2)

/-- The marks of a frame's loops are taken. -/
theorem takeAll_run {P : Program} {ρ : R} {fn : FuncId} {tm : Array Value} {todo : List Item} {cs : List Frame} : ∀ {ds : List Pos} {dfs : List Deferred} {h h' : H} {w : World}, DR ρ ds dfs → HR ρ h w → takeAll ds h = some h' →
    ∃ w', HR ρ h' w' ∧ Ext ρ h w ρ h' w' ∧ Steps P (lone { Fr fn none tm dfs todo with mode := .returning } cs w) (lone { Fr fn none tm [] todo with mode := .returning } cs w')
  | [], _, h, h', w, hd, hr, e => by cases hd; cases e; exact ⟨w, hr, .refl, .refl _ _⟩
  | d :: ds, _, h, h', w, hd, hr, e => by
    cases hd with
    | cons _ _ b dfs x hx hp hds =>
      unfold takeAll at e
      cases hg : Ev.getObj d h with
      | none => rw [hg] at e; cases e
      | some o =>
        rw [hg] at e
        cases o with
        | dfr =>
          dsimp only at e
          cases hs : Ev.setObj d .taken h with
          | none => rw [hs] at e; cases e
          | some h1 =>
            rw [hs] at e
            dsimp only at e
            obtain ⟨k, born, o', e1, e2, e3, e4⟩ := hr.at hx hp hg (fun e => by cases e)
            have hk : k = 0 ∧ o' = .deferred (some []) := by cases e4; exact ⟨rfl, rfl⟩
            obtain ⟨rfl, rfl⟩ := hk
            obtain ⟨w1, r1, r2, r3, _⟩ := setLoop_run (P := P) hr (hx.trans (by rw [e1])) e2 (fun m e => by cases e) (fun _ _ _ e => by cases e) e3 hs (c2 := .deferred none) OR.taken (fun _ _ _ e => by cases e)
            obtain ⟨w2, q1, q2, q3⟩ := takeAll_run hds r2 e
            refine ⟨w2, q1, r3.trans q2, (s_take ?_).trans q3⟩
            refine (step_ok (a := .deferred (some [])) (w1 := w) (by simp [Go.getObj, Sem.run, e3])).trans ?_
            refine (step_ok r1).trans ?_
            rfl
        | _ => cases e

theorem undefRows (i : Nat) (v : AV) (h : baseRows.get i = some v) : v = .tup [] := by
  rw [M.get_eq] at h
  cases hr : baseRows[i / 8]? with
  | none => rw [hr] at h; cases h
  | some row =>
    rw [hr] at h
    have hrow : row = undefRow := by
      have hm := List.mem_of_getElem? hr
      have : ∀ r ∈ baseRows, r = undefRow := by
        intro r hr
        simp [baseRows] at hr
        exact hr
      exact this row hm
    subst hrow
    have hm := List.mem_of_getElem? (show undefRow[i % 8]? = some v from h)
    simp [undefRow] at hm
    exact hm

theorem fillM_run {ρ : R} {n : Nat} : ∀ {args : List AV} {args' : List Value}, VL ρ args args' → ∀ {i : Nat} {m m' : M AV} {tmps : Array Value}, fillM m i args = some m' → i + args'.length ≤ n → TR ρ n m tmps →
    TR ρ n m' ((args'.zipIdx i).foldl (fun (t : Array Value) (p : Value × Nat) => t.setIfInBounds p.2 p.1) tmps)
  | _, _, .nil, i, m, m', tmps, h, _, ht => by cases h; exact ht
  | _, _, .cons v vs v' vs' hv hvs, i, m, m', tmps, h, hl, ht => by
    simp only [List.length_cons] at hl
    unfold fillM at h
    cases hs : m.set i v with
    | none => rw [hs] at h; cases h
    | some m1 =>
      rw [hs] at h
      simp only [List.zipIdx_cons, List.foldl_cons]
      have hi : i < n := by omega
      have hi2 : i + 1 + vs'.length ≤ n := by omega
      exact fillM_run hvs (i := i + 1) h hi2 (ht.put (R.le_refl ρ) hi hs hv)

theorem fold_args (vs : List Value) : ∀ (i : Nat) (a : List Value) (n : Nat), a.length = i → ((vs.zipIdx i).foldl (fun (t : Array Value) (p : Value × Nat) => t.setIfInBounds p.2 p.1) (a ++ List.replicate (vs.length + n) undef).toArray) = (a ++ vs ++ List.replicate n undef).toArray := by
  induction vs with
  | nil => intro i a n _; simp
  | cons v vs ih =>
    intro i a n hi
    simp only [List.zipIdx_cons, List.foldl_cons]
    have e : ((a ++ List.replicate ((v :: vs).length + n) undef).toArray.setIfInBounds i v) = ((a ++ [v]) ++ List.replicate (vs.length + n) undef).toArray := by
      simp only [List.setIfInBounds_toArray, List.length_cons]
      congr 1
      rw [show vs.length + 1 + n = (vs.length + n) + 1 from by omega, List.replicate_succ, ← hi]
      simp [List.set_append]
    rw [e, ih (i + 1) (a ++ [v]) n (by simp [hi])]
    simp

/-- The frame that a call enters. -/
theorem enter_run {P : Program} {ρ : R} {g : FuncId} {fn : Func} {body : Code} (hfn : P.funcs[g]? = some fn) (hb : fn.body = some body) {args : List AV} {args' : Array Value} (ha : VL ρ args args'.toList) (hl : args.length ≤ fn.ntmps)
    {m : M AV} (hm : fillM baseRows 0 args = some m) : ∃ tmps, Frame.enter P g args' .normal = Fr g none tmps [] [.code body] ∧ TR ρ fn.ntmps m tmps := by
  have hlen := ha.length
  simp at hlen
  refine ⟨args' ++ Array.replicate (fn.ntmps - args'.size) undef, by simp [Frame.enter, Fr, hfn, hb], ?_⟩
  have h0 : TR ρ fn.ntmps baseRows (Array.replicate fn.ntmps undef) := ⟨by simp, fun i v hv => by
    have := undefRows i v hv
    subst this
    have : (Array.replicate fn.ntmps undef).getD i undef = undef := by
      by_cases h : i < fn.ntmps <;> simp [Array.getD, h]
    rw [this]
    exact .tup [] #[] .nil⟩
  have h1 := fillM_run ha hm (by simp; omega) h0
  have e := fold_args args'.toList 0 [] (fn.ntmps - args'.size) rfl
  have e2 : (Array.replicate fn.ntmps undef) = ([] ++ List.replicate (args'.toList.length + (fn.ntmps - args'.size)) undef).toArray := by
    simp; congr 1; omega
  rw [e2, e] at h1
  have e3 : ([] ++ args'.toList ++ List.replicate (fn.ntmps - args'.size) undef).toArray = args' ++ Array.replicate (fn.ntmps - args'.size) undef := by
    simp
  rw [e3] at h1
  exact h1

theorem leaveE_some {P : Program} {rs : List ResultVar} {r : RJ} {v : AV} {h' : H} (e : leaveE P rs r = .ok v h') : ∃ j fs h1 h2, r = .ok j fs h1 ∧ (∀ id, j ≠ .exit id) ∧ takeAll fs.defs h1 = some h2 ∧ retE P rs fs.tm h2 = .ok v h' := by
  cases r with
  | no => cases e
  | ok j fs h1 =>
    obtain ⟨fn, n, tm, defs, round⟩ := fs
    have main : (match takeAll defs h1 with | some h => retE P rs tm h | none => .no) = .ok v h' → ∃ h2, takeAll defs h1 = some h2 ∧ retE P rs tm h2 = .ok v h' := by
      intro e
      cases ht : takeAll defs h1 with
      | none => rw [ht] at e; cases e
      | some h2 => rw [ht] at e; exact ⟨h2, rfl, e⟩
    cases j with
    | exit id => cases e
    | norm => obtain ⟨h2, a, b⟩ := main e; exact ⟨_, _, _, h2, rfl, (fun id e => by cases e), a, b⟩
    | ret => obtain ⟨h2, a, b⟩ := main e; exact ⟨_, _, _, h2, rfl, (fun id e => by cases e), a, b⟩

theorem callFnE_run {P : Program} {ih : Evs} (hc : CodeOK P ih) {g : FuncId} {args : List AV} {h h' : H} {v : AV} (e : callFnE P ih g args h = .ok v h') : TgtOK P (.fn g args) h v h' := by
  intro ρ args' w hg hr ha cs
  unfold callFnE at e
  cases hfn : P.funcs[g]? with
  | none => rw [hfn] at e; cases e
  | some fn =>
    rw [hfn] at e
    dsimp only at e
    cases hb : fn.body with
    | none => rw [hb] at e; cases e
    | some body =>
      rw [hb] at e
      dsimp only at e
      cases hl : (Nat.ble args.length fn.ntmps && Nat.ble fn.ntmps 384) with
      | false => rw [hl] at e; cases e
      | true =>
        rw [hl] at e
        dsimp only [cond] at e
        rw [Bool.and_eq_true] at hl
        cases hm : fillM baseRows 0 args with
        | none => rw [hm] at e; cases e
        | some m =>
          rw [hm] at e
          dsimp only at e
          rw [forceNat_eq] at e
          obtain ⟨j, fs, h1, h2, e1, e2, e3, e4⟩ := leaveE_some e
          obtain ⟨tmps, t1, t2⟩ := enter_run hfn hb ha (Nat.le_of_ble_eq_true hl.1) hm
          obtain ⟨kp, main⟩ := hc _ _ _ _ _ _ e1
          obtain ⟨ρ1, tm1, df1, w1, s1, ex1, en⟩ := main ρ none tmps [] w ⟨hg, t2, hr, .nil, .none⟩ [.code body] [] cs (.inl rfl)
          rw [t1]
          -- the frame stands at its end
          have stop : ∃ todo, Steps P (lone (Fr g none tmps [] [.code body]) cs w) (lone { Fr g none tm1 df1 todo with mode := .returning } cs w1) := by
            cases j with
            | norm => exact ⟨[], Steps.trans en s_end⟩
            | ret => obtain ⟨k', st⟩ := en; exact ⟨_, st.trans s_ret⟩
            | exit id => exact absurd rfl (e2 id)
          obtain ⟨todo, st⟩ := stop
          obtain ⟨w2, q1, q2, q3⟩ := takeAll_run (P := P) (fn := g) (tm := tm1) (todo := todo) (cs := cs) s1.dr s1.hr e3
          obtain ⟨v', r1, r2⟩ := results_run (P := P) s1.tr q1 e4
          have hh : h' = h2 := (retE_some e4).1
          subst hh
          exact ⟨ρ1, v', w2, _, r2, q1, ex1.trans q2, st.trans q3, rfl, rfl, rfl, rfl, fn, hfn, r1⟩

theorem callYldE_run {P : Program} {ih : Evs} (hc : CodeOK P ih) {l : Pos} {args : List AV} {h h' : H} {v : AV} (e : callYldE ih l args h = .ok v h') : TgtOK P (.yld l args) h v h' := by
  intro ρ args' w b x hg hr ha hx hp
  unfold callYldE at e
  cases hgl : Ev.getObj l h with
  | none => rw [hgl] at e; cases e
  | some o =>
    rw [hgl] at e
    cases o with
    | loop st pend fn n tm params asg body d =>
      dsimp only at e
      cases hsp : setParams n params.toList args tm with
      | none => rw [hsp] at e; cases e
      | some tm2 =>
        rw [hsp] at e
        dsimp only at e
        obtain ⟨born, tmps, db, y, q1, q2, q3, q4, q5, q6, q7⟩ := getLoop_run (P := P) hr hx hp hgl
        obtain ⟨p1, p2⟩ := setParams_run params.toList args args'.toList tm tm2 tmps ha q3 hsp
        refine ⟨fn, (params.zip args').foldl (fun tmps (x : Tmp × Value) => match x with | (t, a) => tmps.setIfInBounds t a) tmps, asg, body, ?_, fun c cs => ?_⟩
        · refine (step_ok q7).trans ?_
          have hsz : ¬ (args'.size ≠ params.size) := by simp at p1; simp [p1]
          rw [if_neg hsz]
          rfl
        · have hfold : ((params.zip args').foldl (fun tmps (x : Tmp × Value) => match x with | (t, a) => tmps.setIfInBounds t a) tmps) = ((params.toList.zip args'.toList).foldl (fun (t : Array Value) (p : Tmp × Value) => t.setIfInBounds p.1 p.2) tmps) := by
            rw [← Array.foldl_toList, Array.toList_zip]
          show ∃ ρ' v' w', VR ρ' v v' ∧ HR ρ' h' w' ∧ Ext ρ h w ρ' h' w' ∧ Steps P (lone (Fr fn (some b) ((params.zip args').foldl (fun tmps (x : Tmp × Value) => match x with | (t, a) => tmps.setIfInBounds t a) tmps) [] [.code asg, .beginRound, .code body]) (c :: cs) w) (lone (c.finish v') cs w')
          rw [hfold]
          generalize ((params.toList.zip args'.toList).foldl (fun (t : Array Value) (p : Tmp × Value) => t.setIfInBounds p.1 p.2) tmps) = tmps2 at p2
          -- the assignment
          cases he1 : ih.code asg ⟨fn, n, tm2, [], some l⟩ h with
          | no => rw [he1] at e; cases e
          | ok j1 fs1 h1 =>
            rw [he1] at e
            cases j1 with
            | exit id => cases e
            | ret => cases e
            | norm =>
              obtain ⟨kp1, main1⟩ := hc _ _ _ _ _ _ he1
              obtain ⟨ρ1, tm1, df1, w1, s1, ex1, en1⟩ := main1 ρ (some b) tmps2 [] w ⟨hg, p2, hr, .nil, .some l b x hx hp⟩ [.code asg, .beginRound, .code body] [.beginRound, .code body] (c :: cs) (.inl rfl)
              have hdf1 : df1 = [] := by have := s1.dr; rw [kp1.defs rfl] at this; cases this; rfl
              subst hdf1
              have e' : (match Ev.getObj l h1 with
                  | some (.loop .ready pend fn n tm params assign body' d) => match Ev.setObj l (.loop .busy pend fn n tm params assign body' d) h1 with
                    | some h => endRoundE l (ih.code body fs1 h)
                    | none => .no
                  | _ => .no) = RV.ok v h' := e
              cases hg1 : Ev.getObj l h1 with
              | none => rw [hg1] at e'; cases e'
              | some o1 =>
                rw [hg1] at e'
                cases o1 with
                | loop st1 pend1 fn1 n1 tmA params1 asg1 body1 d1 =>
                  cases st1 with
                  | ready =>
                    dsimp only at e'
                    cases hs1 : Ev.setObj l (.loop .busy pend1 fn1 n1 tmA params1 asg1 body1 d1) h1 with
                    | none => rw [hs1] at e'; cases e'
                    | some h2 =>
                      rw [hs1] at e'
                      dsimp only at e'
                      obtain ⟨y1, hy1, hyp1⟩ := up1 (p := fun c _ => c = b) ex1.le hx hp
                      obtain ⟨born1, tmps1, db1, z1, a1, a2, a3, a4, a5, a6, a7⟩ := getLoop_run (P := P) s1.hr hy1 hyp1 hg1
                      obtain ⟨w2, r1, r2, r3, r4⟩ := setLoop_run (P := P) s1.hr (hy1.trans (by rw [a1])) a2 (fun m e => by cases e) (fun _ _ _ e => by cases e) a6 hs1 (OR.loop .busy pend1 fn1 n1 tmA tmps1 params1 asg1 body1 d1 db1 z1 a3 a4 a5) (fun _ _ _ e => by cases e)
                      have begin : (Instr.beginRound b).run P w1 = .ok () w2 := by
                        refine (step_ok a7).trans ?_
                        refine (step_ok r1).trans ?_
                        rfl
                      -- the body
                      cases he2 : ih.code body fs1 h2 with
                      | no => rw [he2] at e'; cases e'
                      | ok j2 fs2 h3 =>
                        rw [he2] at e'
                        obtain ⟨kp2, main2⟩ := hc _ _ _ _ _ _ he2
                        have hfn : fs1.fn = fn := kp1.fn
                        obtain ⟨ρ3, tm3, df3, w3, s3, ex3, en3⟩ := main2 ρ1 (some b) tm1 [] w2 (s1.mono (R.le_refl _) r2) [.code body] [] (c :: cs) (.inl rfl)
                        rw [hfn] at en3
                        have hr1 : fs1.round = some l := kp1.round
                        have hdf3 : df3 = [] := by
                          have := s3.dr
                          rw [kp2.defs (by rw [hr1]; rfl), kp1.defs rfl] at this
                          cases this
                          rfl
                        subst hdf3
                        obtain ⟨y3, hy3, hyp3⟩ := up1 (p := fun c _ => c = b) ex3.le hy1 hyp1
                        -- the round's end
                        have e3 : ∃ st3 pend3 fn3 n3 tmB params3 asg3 body3 d3, Ev.getObj l h3 = some (.loop st3 pend3 fn3 n3 tmB params3 asg3 body3 d3) ∧
                            Ev.setObj l (.loop (if j2.code.isNone then .ready else .done) j2 fn3 n3 tmB params3 asg3 body3 d3) h3 = some h' ∧ v = .bool j2.code.isNone := by
                          have e4 : endRoundE l (.ok j2 fs2 h3) = .ok v h' := e'
                          unfold endRoundE at e4
                          dsimp only at e4
                          cases hg3 : Ev.getObj l h3 with
                          | none => rw [hg3] at e4; cases e4
                          | some o3 =>
                            rw [hg3] at e4
                            cases o3 with
                            | loop st3 pend3 fn3 n3 tmB params3 asg3 body3 d3 =>
                              refine ⟨st3, pend3, fn3, n3, tmB, params3, asg3, body3, d3, rfl, ?_⟩
                              cases j2 with
                              | norm =>
                                dsimp only at e4
                                cases hs3 : Ev.setObj l (.loop .ready .norm fn3 n3 tmB params3 asg3 body3 d3) h3 with
                                | none => rw [hs3] at e4; cases e4
                                | some h4 => rw [hs3] at e4; cases e4; exact ⟨hs3, rfl⟩
                              | exit id =>
                                dsimp only at e4
                                cases hs3 : Ev.setObj l (.loop .done (.exit id) fn3 n3 tmB params3 asg3 body3 d3) h3 with
                                | none => rw [hs3] at e4; cases e4
                                | some h4 => rw [hs3] at e4; cases e4; exact ⟨hs3, rfl⟩
                              | ret =>
                                dsimp only at e4
                                cases hs3 : Ev.setObj l (.loop .done .ret fn3 n3 tmB params3 asg3 body3 d3) h3 with
                                | none => rw [hs3] at e4; cases e4
                                | some h4 => rw [hs3] at e4; cases e4; exact ⟨hs3, rfl⟩
                            | _ => cases e4
                        obtain ⟨st3, pend3, fn3, n3, tmB, params3, asg3, body3, d3, hg3, hs3, rfl⟩ := e3
                        obtain ⟨born3, tmps3, db3, z3, b1, b2, b3, b4, b5, b6, b7⟩ := getLoop_run (P := P) s3.hr hy3 hyp3 hg3
                        obtain ⟨w4, c1, c2, c3, c4⟩ := setLoop_run (P := P) s3.hr (hy3.trans (by rw [b1])) b2 (fun m e => by cases e) (fun _ _ _ e => by cases e) b6 hs3 (OR.loop (if j2.code.isNone then .ready else .done) j2 fn3 n3 tmB tmps3 params3 asg3 body3 d3 db3 z3 b3 b4 b5) (fun _ _ _ e => by cases e)
                        have endR : (Instr.endRound b j2.code).run P w3 = .ok (.bool j2.code.isNone) w4 := by
                          refine (step_ok b7).trans ?_
                          refine (step_ok c1).trans ?_
                          rfl
                        have pre : Steps P (lone (Fr fn (some b) tmps2 [] [.code asg, .beginRound, .code body]) (c :: cs) w) (lone (Fr fn (some b) tm1 [] [.code body]) (c :: cs) w2) := Steps.trans en1 (s_beginRound begin)
                        refine ⟨ρ3, .bool j2.code.isNone, w4, .bool _, c2, ((ex1.trans r3).trans ex3).trans c3, pre.trans ?_⟩
                        cases j2 with
                        | norm => exact Steps.trans en3 (s_roundEnd (k := []) (.inl ⟨rfl, rfl⟩) endR)
                        | ret => obtain ⟨k', st⟩ := en3; exact st.trans (s_roundEnd (.inr (.inl ⟨rfl, rfl⟩)) endR)
                        | exit id => obtain ⟨k', hk, st⟩ := en3; exact st.trans (s_roundEnd (.inr (.inr ⟨id, rfl, hk, rfl⟩)) endR)
                  | _ => cases e'
                | _ => cases e'
    | _ => cases e


theorem thenE_some {k : FS → H → RJ} {r : RJ} {j : J} {fs' : FS} {h' : H} (e : thenE k r = .ok j fs' h') : (∃ fs h, r = .ok .norm fs h ∧ k fs h = .ok j fs' h') ∨ (j ≠ .norm ∧ r = .ok j fs' h') := by
  cases r with
  | no => cases e
  | ok j1 fs1 h1 =>
    cases j1 with
    | norm => exact .inl ⟨fs1, h1, rfl, e⟩
    | exit id =>
      have e' : RJ.ok (.exit id) fs1 h1 = .ok j fs' h' := e
      cases e'; exact .inr ⟨(fun e => by cases e), rfl⟩
    | ret =>
      have e' : RJ.ok .ret fs1 h1 = .ok j fs' h' := e
      cases e'; exact .inr ⟨(fun e => by cases e), rfl⟩

/-- What passes an item that is no block of its own. -/
theorem Ends.pass {P : Program} {m : Machine} {fn : FuncId} {rd : Option Nat} {x : Item} {k : List Item} {cs : List Frame} {j : J} {tm : Array Value} {df : List Deferred} {w : World} (hx : ∀ id, exitTo id (x :: k) = exitTo id k) (hj : j ≠ .norm)
    (e : Ends P m fn rd (x :: k) cs j tm df w) : Ends P m fn rd k cs j tm df w := by
  cases j with
  | norm => exact absurd rfl hj
  | exit id => obtain ⟨k', e1, e2⟩ := e; exact ⟨k', e1.trans (hx id), e2⟩
  | ret => exact e

theorem codeE_run {P : Program} {ih : Evs} (hm : P.follows .mixedOrders = true) (hc : CodeOK P ih) (hi : CallOK P ih) : CodeOK P ⟨codeE P ih, tgtE P ih⟩ := by
  intro c fs h j fs' h' he
  have he' : codeE P ih c fs h = .ok j fs' h' := he
  -- every start but a loop's is the code itself
  have plain : (∀ b, c ≠ .loop b) → (Keeps fs fs' ∧ ∀ ρ rd tm df w, St ρ fs h rd tm df w → ∀ k cs, ∃ ρ' tm' df' w', St ρ' fs' h' rd tm' df' w' ∧ Ext ρ h w ρ' h' w' ∧ Ends P (lone (Fr fs.fn rd tm df (.code c :: k)) cs w) fs.fn rd k cs j tm' df' w') →
      (Keeps fs fs' ∧ ∀ ρ rd tm df w, St ρ fs h rd tm df w → ∀ todo k cs, Start c todo k → ∃ ρ' tm' df' w', St ρ' fs' h' rd tm' df' w' ∧ Ext ρ h w ρ' h' w' ∧ Ends P (lone (Fr fs.fn rd tm df todo) cs w) fs.fn rd k cs j tm' df' w') := by
    intro hnl ⟨a, b⟩
    refine ⟨a, fun ρ rd tm df w s todo k cs st => ?_⟩
    rcases st with rfl | ⟨b', hb, _⟩
    · exact b ρ rd tm df w s k cs
    · exact absurd hb (hnl b')
  cases c with
  | skip =>
    have e : RJ.ok .norm fs h = .ok j fs' h' := he'
    cases e
    exact plain (fun b e => by cases e) ⟨.refl _, fun ρ rd tm df w s k cs => ⟨ρ, tm, df, w, s, .refl, s_skip⟩⟩
  | label l =>
    have e : RJ.ok .norm fs h = .ok j fs' h' := he'
    cases e
    exact plain (fun b e => by cases e) ⟨.refl _, fun ρ rd tm df w s k cs => ⟨ρ, tm, df, w, s, .refl, s_label⟩⟩
  | region id ops draw =>
    have e : normE (regionE P ih ops draw fs h) = .ok j fs' h' := he'
    cases hr : regionE P ih ops draw fs h with
    | no => rw [hr] at e; cases e
    | ok fs1 h1 =>
      rw [hr] at e
      cases e
      obtain ⟨a, b⟩ := regionE_run (id := id) hm hi hr
      refine plain (fun b e => by cases e) ⟨a, fun ρ rd tm df w s k cs => ?_⟩
      obtain ⟨ρ', tm', w', q1, q2, q3⟩ := b ρ rd tm df w s k cs
      exact ⟨ρ', tm', df, w', q1, q2, q3⟩
  | seq a b =>
    have e : thenE (ih.code b) (ih.code a fs h) = .ok j fs' h' := he'
    refine plain (fun b e => by cases e) ?_
    rcases thenE_some e with ⟨fs1, h1, e1, e2⟩ | ⟨hj, e1⟩
    · obtain ⟨k1, m1⟩ := hc _ _ _ _ _ _ e1
      obtain ⟨k2, m2⟩ := hc _ _ _ _ _ _ e2
      refine ⟨k1.trans k2, fun ρ rd tm df w s k cs => ?_⟩
      obtain ⟨ρ1, tm1, df1, w1, s1, x1, n1⟩ := m1 ρ rd tm df w s _ (.code b :: k) cs (.inl rfl)
      obtain ⟨ρ2, tm2, df2, w2, s2, x2, n2⟩ := m2 ρ1 rd tm1 df1 w1 s1 _ k cs (.inl rfl)
      rw [k1.fn] at n2
      exact ⟨ρ2, tm2, df2, w2, s2, x1.trans x2, Ends.of (s_seq.trans n1) n2⟩
    · obtain ⟨k1, m1⟩ := hc _ _ _ _ _ _ e1
      refine ⟨k1, fun ρ rd tm df w s k cs => ?_⟩
      obtain ⟨ρ1, tm1, df1, w1, s1, x1, n1⟩ := m1 ρ rd tm df w s _ (.code b :: k) cs (.inl rfl)
      exact ⟨ρ1, tm1, df1, w1, s1, x1, Ends.of s_seq (n1.pass (fun id => rfl) hj)⟩
  | cond x a b =>
    have e : condE ih x a b fs h = .ok j fs' h' := he'
    unfold condE at e
    cases hx : evT fs.tm x with
    | none => rw [hx] at e; cases e
    | some v =>
      rw [hx] at e
      dsimp only at e
      cases hb : asB v with
      | none => rw [hb] at e; cases e
      | some t =>
        rw [hb] at e
        obtain rfl := asB_some hb
        obtain ⟨k1, m1⟩ := hc _ _ _ _ _ _ e
        refine plain (fun b e => by cases e) ⟨k1, fun ρ rd tm df w s k cs => ?_⟩
        obtain ⟨ρ1, tm1, df1, w1, s1, x1, n1⟩ := m1 ρ rd tm df w s _ k cs (.inl rfl)
        have hv := evT_vr (a := ⟨tm, df⟩) s.gr s.tr hx
        have hev : (⟨tm, df⟩ : Act).eval x = .bool t := by
          cases hq : (⟨tm, df⟩ : Act).eval x with
          | bool t' => rw [hq] at hv; cases hv; rfl
          | _ => rw [hq] at hv; cases hv
        exact ⟨ρ1, tm1, df1, w1, s1, x1, Ends.of (s_cond hev) n1⟩
  | block id b =>
    have e : outE id (ih.code b fs h) = .ok j fs' h' := he'
    cases hr : ih.code b fs h with
    | no => rw [hr] at e; cases e
    | ok j1 fs1 h1 =>
      rw [hr] at e
      obtain ⟨k1, m1⟩ := hc _ _ _ _ _ _ hr
      refine plain (fun b e => by cases e) ?_
      cases j1 with
      | norm =>
        have e' : RJ.ok .norm fs1 h1 = .ok j fs' h' := e
        cases e'
        refine ⟨k1, fun ρ rd tm df w s k cs => ?_⟩
        obtain ⟨ρ1, tm1, df1, w1, s1, x1, n1⟩ := m1 ρ rd tm df w s _ (.inBlock id :: k) cs (.inl rfl)
        exact ⟨ρ1, tm1, df1, w1, s1, x1, (s_block.trans n1).trans s_inBlock⟩
      | ret =>
        have e' : RJ.ok .ret fs1 h1 = .ok j fs' h' := e
        cases e'
        refine ⟨k1, fun ρ rd tm df w s k cs => ?_⟩
        obtain ⟨ρ1, tm1, df1, w1, s1, x1, n1⟩ := m1 ρ rd tm df w s _ (.inBlock id :: k) cs (.inl rfl)
        obtain ⟨k', n1⟩ := n1
        exact ⟨ρ1, tm1, df1, w1, s1, x1, k', s_block.trans n1⟩
      | exit id' =>
        have e' : RJ.ok (bif Nat.beq id' id then .norm else .exit id') fs1 h1 = .ok j fs' h' := e
        cases hq : Nat.beq id' id with
        | true =>
          rw [hq] at e'
          cases e'
          obtain rfl := Nat.eq_of_beq_eq_true hq
          refine ⟨k1, fun ρ rd tm df w s k cs => ?_⟩
          obtain ⟨ρ1, tm1, df1, w1, s1, x1, n1⟩ := m1 ρ rd tm df w s _ (.inBlock id' :: k) cs (.inl rfl)
          obtain ⟨k', e1, n1⟩ := n1
          exact ⟨ρ1, tm1, df1, w1, s1, x1, (s_block.trans n1).trans (s_exit (e1.trans (by simp [exitTo])))⟩
        | false =>
          rw [hq] at e'
          cases e'
          refine ⟨k1, fun ρ rd tm df w s k cs => ?_⟩
          obtain ⟨ρ1, tm1, df1, w1, s1, x1, n1⟩ := m1 ρ rd tm df w s _ (.inBlock id :: k) cs (.inl rfl)
          obtain ⟨k', e1, n1⟩ := n1
          have hne : (id == id') = false := by
            cases hz : (id == id') with
            | false => rfl
            | true => rw [beq_iff_eq] at hz; subst hz; rw [show Nat.beq id id = true from Nat.beq_refl id] at hq; cases hq
          exact ⟨ρ1, tm1, df1, w1, s1, x1, k', e1.trans (by simp [exitTo, hne]), s_block.trans n1⟩
  | loop b =>
    have e : thenE (ih.code (.loop b)) (ih.code b fs h) = .ok j fs' h' := he'
    have first : ∀ {rd tm df w todo k cs}, Start (.loop b) todo k → Steps P (lone (Fr fs.fn rd tm df todo) cs w) (lone (Fr fs.fn rd tm df (.code b :: .inLoop b :: k)) cs w) := by
      intro rd tm df w todo k cs st
      rcases st with rfl | ⟨b', hb, rfl⟩
      · exact s_loop
      · cases hb; exact s_inLoop
    rcases thenE_some e with ⟨fs1, h1, e1, e2⟩ | ⟨hj, e1⟩
    · obtain ⟨k1, m1⟩ := hc _ _ _ _ _ _ e1
      obtain ⟨k2, m2⟩ := hc _ _ _ _ _ _ e2
      refine ⟨k1.trans k2, fun ρ rd tm df w s todo k cs st => ?_⟩
      obtain ⟨ρ1, tm1, df1, w1, s1, x1, n1⟩ := m1 ρ rd tm df w s _ (.inLoop b :: k) cs (.inl rfl)
      obtain ⟨ρ2, tm2, df2, w2, s2, x2, n2⟩ := m2 ρ1 rd tm1 df1 w1 s1 (.inLoop b :: k) k cs (.inr ⟨b, rfl, rfl⟩)
      rw [k1.fn] at n2
      exact ⟨ρ2, tm2, df2, w2, s2, x1.trans x2, Ends.of ((first st).trans n1) n2⟩
    · obtain ⟨k1, m1⟩ := hc _ _ _ _ _ _ e1
      refine ⟨k1, fun ρ rd tm df w s todo k cs st => ?_⟩
      obtain ⟨ρ1, tm1, df1, w1, s1, x1, n1⟩ := m1 ρ rd tm df w s _ (.inLoop b :: k) cs (.inl rfl)
      exact ⟨ρ1, tm1, df1, w1, s1, x1, Ends.of (first st) (n1.pass (fun id => rfl) hj)⟩
  | rangeFunc f params asg body =>
    have e : rangeE P ih f params asg body fs h = .ok j fs' h' := he'
    obtain ⟨a, b⟩ := rangeE_run hi e
    refine plain (fun b e => by cases e) ⟨a, fun ρ rd tm df w s k cs => ?_⟩
    obtain ⟨ρ', df', w', q1, q2, q3⟩ := b ρ rd tm df w s k cs
    refine ⟨ρ', tm, df', w', q1, q2, ?_⟩
    cases j with
    | norm => exact q3
    | exit id => exact ⟨k, rfl, q3⟩
    | ret => exact ⟨k, q3⟩
  | exit id =>
    have e : RJ.ok (.exit id) fs h = .ok j fs' h' := he'
    cases e
    exact plain (fun b e => by cases e) ⟨.refl _, fun ρ rd tm df w s k cs => ⟨ρ, tm, df, w, s, .refl, k, rfl, .refl _ _⟩⟩
  | scope b =>
    have e : ih.code b fs h = .ok j fs' h' := he'
    obtain ⟨k1, m1⟩ := hc _ _ _ _ _ _ e
    refine plain (fun b e => by cases e) ⟨k1, fun ρ rd tm df w s k cs => ?_⟩
    obtain ⟨ρ1, tm1, df1, w1, s1, x1, n1⟩ := m1 ρ rd tm df w s _ (.inScope b :: k) cs (.inl rfl)
    refine ⟨ρ1, tm1, df1, w1, s1, x1, ?_⟩
    cases j with
    | norm => exact (s_scope.trans n1).trans s_inScope
    | exit id => exact Ends.of s_scope (n1.pass (fun id => rfl) (fun e => by cases e))
    | ret => exact Ends.of s_scope (n1.pass (fun id => rfl) (fun e => by cases e))
  | ret =>
    have e : RJ.ok .ret fs h = .ok j fs' h' := he'
    cases e
    exact plain (fun b e => by cases e) ⟨.refl _, fun ρ rd tm df w s k cs => ⟨ρ, tm, df, w, s, .refl, k, .refl _ _⟩⟩
  | goto l => cases he
  | refuse why => cases he

theorem HR.markedH {ρ : R} {h : H} {w : World} (hr : HR ρ h w) : HR ρ (Ev.marked h) w := hr.marked

theorem tgtE_run {P : Program} {ih : Evs} (hc : CodeOK P ih) : CallOK P ⟨codeE P ih, tgtE P ih⟩ := by
  intro t h v h' he
  have he' : tgtE P ih t h = .ok v h' := he
  cases t with
  | yld l args => exact callYldE_run hc he'
  | fn g args =>
    have e : pureCall h (callFnE P ih g args (Ev.marked h)) = .ok v h' := he'
    cases hr : callFnE P ih g args (Ev.marked h) with
    | no => rw [hr] at e; cases e
    | ok u h1 =>
      rw [hr] at e
      have ok := callFnE_run hc hr
      intro ρ args' w hg hh ha cs
      obtain ⟨ρ1, v', w1, fr, e1, e2, e3, e4, e5, e6⟩ := ok ρ args' w hg hh.marked ha cs
      obtain ⟨ρ2, rfl, q2, q3, q4⟩ := pureCall_run hh e2 e3 e1 e
      exact ⟨ρ2, v', w1, fr, q2, q3, q4, e4, e5, e6⟩

/-- ████ WHAT THE EVALUATOR FINDS IS WHAT THE MODEL's PROGRAM DOES ████ -/
theorem ev_ok {P : Program} (hm : P.follows .mixedOrders = true) : ∀ n, CodeOK P (ev P n) ∧ CallOK P (ev P n)
  | 0 => ⟨(fun _ _ _ _ _ _ e => by cases e), (fun _ _ _ _ e => by cases e)⟩
  | n + 1 => ⟨codeE_run hm (ev_ok hm n).1 (ev_ok hm n).2, tgtE_run (ev_ok hm n).1⟩

end Go.Ev
