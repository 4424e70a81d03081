/-
  PLAIN GROUND: the document's Apply at a store, its contract in one: it answers what store.Apply answers. Condition: the state's rows can be copied.
-/
import Derived.Test.YtienhcmkjejdaaaStoreC
import Derived.Test.YtienhcmkjejdaaaRefStB
namespace Go.Proofs.Ytienhcmkjejdaaa
open Go.RowKit

theorem refStore (v : Value) (s : St) (c r a er : Int) (w : World) (hx : HasS w v s) (hf : Fit s) :
    Calls Try.prog 10 #[.int .i64 0, v, opV c r a, .int .i64 er] w fun e w' => ∃ v', e = .returned (.tuple #[v', .int .i64 (stoS s c r a er).2.1, .int .i64 (stoS s c r a er).2.2]) ∧ OwnS w' w.heap.size v' (stoS s c r a er).1 ∧ Le w w' := by
  cases h : s.all rowMay1 && opMay c r a
  · rw [stoS_no h]
    exact (refStoreNo v s c r a er w hx hf h).mono fun e w' ⟨he, hl⟩ => ⟨stZ, he, OwnS.zero _ _, hl⟩
  · obtain ⟨hm, ho⟩ := Bool.and_eq_true_iff.mp h
    rcases opMay_cases ho with ⟨k, hk, rfl, rfl, ha⟩ | ⟨k, hk, rfl, rfl, ha⟩ | ⟨k, hk, rfl, rfl, rfl⟩ | ⟨rfl, rfl, rfl⟩
    · rw [stoS_first hm hk ha]; exact refStoreFirst v s k a er w hx hf hm hk ha
    · rw [stoS_second hm hk ha]; exact refStoreSecond v s k a er w hx hf hm hk ha
    · rw [stoS_look hm hk]; exact refStoreLook v s k er w hx hf hm hk
    · rw [stoS_scan hm]; exact refStoreScan v s er w hx hf hm

end Go.Proofs.Ytienhcmkjejdaaa
