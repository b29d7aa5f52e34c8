/-
  A CLOSED RUN, HELD AGAINST THE MODEL (16): the theorem. Where the abstract run of a function gives a value, the model's call returns it, and all memory that was there is as it was.
-/
import Derived.Test.YtnkpjkomokkhcaaGreatDoorEngQ
import Derived.Below
namespace Go.Eng
noncomputable section
set_option linter.unusedVariables false
set_option linter.unusedSimpArgs false

section
variable {P : Program} {base : Nat} {w0 : World} {ng : Nat}

def RunOK (P : Program) (base : Nat) (w0 : World) (ng n : Nat) : Prop :=
  ∀ (β : Map) (E : EM) (w : World) (f : EF) (fr : Frame) (v : Value) (E1 : EM), Good P base w0 β E w → Glob ng β → FR β f fr → runF P ng n f E = some (v, E1) →
    ∃ β1 v' w1, Ext β β1 ∧ VR β1 v v' ∧ Good P base w0 β1 E1 w1 ∧ Ret P fr w v' w1 ∧
      (f.roundOf = none → fr.kind = .normal → ∃ frE, frE.fn = f.fn ∧ frE.leaving P w1 (.returned v') ∧ ∀ cs, Steps P (lone fr cs w) (lone frE cs w1))

/-- No function of the program is the one whose call the model answers by itself. -/
def plainNames (P : Program) : Bool := P.funcs.toList.all fun fn => !(fn.name == "runtime.NumGoroutine")

theorem run_callFunc (hn : plainNames P = true) {g : FuncId} {fn : Func} {b : Code} (hf : P.funcs[g]? = some fn) (hb : fn.body = some b) (args : Array Value) (w : World) : (callFunc g args).run P w = .ok (.enter g args) w := by
  have hname : (fn.name == "runtime.NumGoroutine") = false := by
    have hm : fn ∈ P.funcs.toList := by
      have := Array.mem_of_getElem? hf
      simpa using this
    have := List.all_eq_true.1 hn fn hm
    simpa using this
  unfold callFunc
  simp only [Sem.run_bind, run_program, Result.andThen_ok, hf]
  rw [hname, hb]
  simp

theorem roundTs_ok {β : Map} : ∀ {ps : List Tmp} {args args' ts ts' : List Value}, VRs β args args' → VRs β ts ts' → VRs β (roundTs ps args ts) (roundTs ps args' ts')
  | [], _, _, _, _, _, ht => by simpa [roundTs] using ht
  | p :: r, _, _, ts, ts', .nil, ht => by simpa [roundTs] using ht
  | p :: r, _, _, ts, ts', .cons hv ha, ht => by
    have := roundTs_ok (ps := r) ha (ht.set p hv)
    simpa [roundTs] using this
theorem round_arr (ps : Array Tmp) (args tmps : Array Value) : ((ps.zip args).foldl (fun tmps (t, a) => tmps.setIfInBounds t a) tmps).toList = roundTs ps.toList args.toList tmps.toList := by
  rw [← Array.foldl_toList, Array.toList_zip]
  unfold roundTs
  generalize ps.toList.zip args.toList = l
  induction l generalizing tmps with
  | nil => rfl
  | cons a r ih =>
    simp only [List.foldl_cons]
    rw [ih]
    simp

theorem VRs.replicate {β : Map} (n : Nat) : VRs β (List.replicate n undef) (List.replicate n undef) := by
  induction n with
  | zero => exact .nil
  | succ n ih => exact .cons (undefR β) ih

theorem eng_ok (hmix : P.follows .mixedOrders = true) (hrec : P.follows .rangeFuncRecover = true) (hn : plainNames P = true) : ∀ n, RunOK P base w0 ng n ∧ CallOK P base w0 ng (callE P ng n)
  | 0 => ⟨fun β E w f fr v E1 g hg hf h => by simp [runF] at h, fun β E w fv fv' args args' v E1 g hg hv ha h => by simp [callE] at h⟩
  | n + 1 => by
    obtain ⟨ihr, ihc⟩ := eng_ok hmix hrec hn n
    refine ⟨?_, ?_⟩
    · intro β E w f fr v E1 g hg hf h
      have hs := stepF_ok ihc hmix hrec g hg hf
      simp only [runF] at h
      split at h
      · rename_i f1 E2 hst
        obtain ⟨β1, fr1, w1, x1, hf1, g1, e1, e2, e3, s1⟩ := hs.1 _ _ hst
        obtain ⟨β2, v', w2, x2, hv, g2, hret, hend⟩ := ihr _ _ _ _ _ _ _ g1 (hg.ext x1) hf1 h
        refine ⟨β2, v', w2, x1.trans x2, hv, g2, fun c cs hu => (s1 _ hu).trans ?_, fun hr hk => ?_⟩
        · have h9 := hret c cs (hu.same e3)
          rw [e3] at h9
          exact h9
        · obtain ⟨frE, h1, h2, h3⟩ := hend (by rw [e2]; exact hr) (by rw [e3]; exact hk)
          exact ⟨frE, by rw [h1, e1], h2, fun cs => (s1 cs (Under.normal hk)).trans (h3 cs)⟩
      · rename_i v1 E2 hst
        cases h
        obtain ⟨v', w1, hv, g1, hret, hend⟩ := hs.2 _ _ hst
        refine ⟨β, v', w1, Ext.refl β, hv, g1, hret, fun hr hk => ?_⟩
        obtain ⟨h1, rfl⟩ := hend hr hk
        exact ⟨fr, hf.fn, h1, fun cs => .refl P _⟩
      · cases h
    · intro β E w fv fv' args args' v E1 g hg hv ha h kind hkind
      cases fv with
      | func f0 first captured =>
        cases f0 with
        | func gid =>
          simp only [callE] at h
          obtain ⟨f', first', captured', rfl, hfn, h1, h2⟩ := hv.funcInv
          cases hfn
          split at h
          · rename_i fn hfn
            split at h
            · rename_i b hb
              have hargs : VRs β (first.toList ++ args ++ captured.toList) (first' ++ args'.toArray ++ captured').toList := by
                simpa using (h1.append ha).append h2
              have hframe : FR β (⟨gid, Slots.ofL (first.toList ++ args ++ captured.toList) (fn.ntmps - (first.toList ++ args ++ captured.toList).length), [.code b], [], false, none⟩ : EF)
                  (Frame.enter P gid (first' ++ args'.toArray ++ captured') kind) := by
                refine ⟨rfl, ?_, ?_, .nil, rfl, hkind.imp (fun h => h) (fun h => ⟨h.1, rfl⟩), .none⟩
                · unfold Frame.enter
                  simp only [hfn, Option.map_some, Option.getD_some]
                  have hl : (first' ++ args'.toArray ++ captured').size = (first.toList ++ args ++ captured.toList).length := by
                    rw [hargs.length]; simp
                  show VRs β (Slots.ofL _ _).toL _
                  rw [Slots.toL_ofL, hl, Array.toList_append]
                  refine hargs.append ?_
                  rw [Array.toList_replicate]
                  exact VRs.replicate _
                · unfold Frame.enter
                  simp only [hfn, hb, Option.bind_some, Option.getD_some]
                  exact .cons (.code b) .nil
              obtain ⟨β1, v', w1, hx, hvv, g1, hret, _⟩ := ihr _ _ _ _ _ _ _ g hg hframe h
              refine ⟨β1, v', w1, .enter gid (first' ++ args'.toArray ++ captured'), _, hx, hvv, g1, ?_, ?_, hret⟩
              rotate_left
              · rcases hkind with rfl | ⟨rfl, _⟩
                · exact .normal (.enter _ _) rfl
                · exact .deferred _ _
              simp only [Deferred.ofValue, Sem.run_bind, Sem.run_pure, Result.andThen_ok, invoke]
              exact run_callFunc hn hfn hb _ w
            · cases h
          · cases h
        | yield l =>
          simp only [callE] at h
          obtain ⟨f', first', captured', rfl, hfn, h1, h2⟩ := hv.funcInv
          cases hfn with
          | yield hl =>
          rename_i ll
          split at h
          · rename_i r he
            split at h
            · rename_i hsz
              obtain ⟨r', hb, e1, e2, e3, e4, e5, e6, hts, _, _, _⟩ := loop_at g hl he
              have hargs : VRs β (first.toList ++ args) (first' ++ args'.toArray).toList := by simpa using h1.append ha
              have hsz' : (first' ++ args'.toArray).size = r'.params.size := by
                rw [e4, ← hsz, hargs.length]; simp
              have hframe : FR β (⟨r.fn, Slots.ofL (roundTs r.params.toList (first.toList ++ args) r.tmps.toList) 0, [.code r.assign, .beginRound, .code r.body], [], false, some l⟩ : EF)
                  (Frame.round ll.blk r'.fn ((r'.params.zip (first' ++ args'.toArray)).foldl (fun tmps (t, a) => tmps.setIfInBounds t a) r'.tmps) r'.assign r'.body .normal) := by
                refine ⟨e3, ?_, ?_, .nil, rfl, .inl rfl, .some hl⟩
                · show VRs β (Slots.ofL _ _).toL ((r'.params.zip (first' ++ args'.toArray)).foldl (fun tmps (t, a) => tmps.setIfInBounds t a) r'.tmps).toList
                  rw [Slots.toL_ofL, round_arr, e4]
                  simp only [List.replicate_zero, List.append_nil]
                  exact roundTs_ok hargs hts
                · show TR β _ [.code r'.assign, .beginRound, .code r'.body]
                  rw [e5, e6]
                  exact .cons (.code _) (.cons .beginRound (.cons (.code _) .nil))
              obtain ⟨β1, v', w1, hx, hvv, g1, hret, _⟩ := ihr _ _ _ _ _ _ _ g hg hframe h
              have hkn : kind = .normal := by
                rcases hkind with h | h
                · exact h
                · exact absurd h.2 (by simp [isFuncV])
              subst hkn
              refine ⟨β1, v', w1, _, _, hx, hvv, g1, ?_, .normal (.round _ _ _ _ _) rfl, hret⟩
              simp only [Deferred.ofValue, Sem.run_bind, Sem.run_pure, Result.andThen_ok, invoke]
              exact run_yield hb hsz'
            · cases h
          · cases h
        | _ => simp [callE] at h
      | _ => simp [callE] at h

/-- THE THEOREM: a call of a function with the arguments that the abstract run was given returns what it gave. -/
theorem calls_of_run (hmix : P.follows .mixedOrders = true) (hrec : P.follows .rangeFuncRecover = true) (hn : plainNames P = true) {β : Map} {E E1 : EM} {w : World} (g : Good P base w0 β E w) (hg : Glob ng β) {f : FuncId} {fn : Func} {b : Code}
    (hf : P.funcs[f]? = some fn) (hb : fn.body = some b) {args : List Value} {args' : Array Value} (ha : VRs β args args'.toList) {n : Nat} {v : Value}
    (h : runF P ng n ⟨f, Slots.ofL args (fn.ntmps - args.length), [.code b], [], false, none⟩ E = some (v, E1)) :
    Calls P f args' w fun e w1 => ∃ β1 v', e = .returned v' ∧ VR β1 v v' ∧ Ext β β1 ∧ Good P base w0 β1 E1 w1 := by
  have hframe : FR β (⟨f, Slots.ofL args (fn.ntmps - args.length), [.code b], [], false, none⟩ : EF) (Frame.enter P f args' .normal) := by
    refine ⟨rfl, ?_, ?_, .nil, rfl, .inl rfl, .none⟩
    · unfold Frame.enter
      simp only [hf, Option.map_some, Option.getD_some]
      have hl : args'.size = args.length := by rw [ha.length]; simp
      show VRs β (Slots.ofL _ _).toL _
      rw [Slots.toL_ofL, hl, Array.toList_append]
      refine ha.append ?_
      rw [Array.toList_replicate]
      exact VRs.replicate _
    · unfold Frame.enter
      simp only [hf, hb, Option.bind_some, Option.getD_some]
      exact .cons (.code b) .nil
  obtain ⟨β1, v', w1, hx, hv, g1, _, hend⟩ := (eng_ok (ng := ng) hmix hrec hn n).1 _ _ _ _ _ _ _ g hg hframe h
  obtain ⟨frE, h1, h2, h3⟩ := hend rfl rfl
  intro cs
  exact ⟨.returned v', w1, frE, ⟨β1, v', rfl, hv, hx, g1⟩, h3 cs, h1, h2⟩

end
end
end Go.Eng
