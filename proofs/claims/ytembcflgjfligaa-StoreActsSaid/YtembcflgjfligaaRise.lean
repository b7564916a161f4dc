/- Keys that rise still do when one comes or goes. -/
import Derived.Test.YtembcflgjfligaaSdel
namespace Go.Proofs.Ytembcflgjfligaa
open Go.Conc Go.RowKit

theorem keys_insAt (os : List Ob) (i : Nat) (p : Ob) : (insAt os i p).map Ob.key = (os.map Ob.key).take i ++ p.key :: (os.map Ob.key).drop i := by
  simp [insAt]
theorem rises_insAt {os : List Ob} (h : Rises (os.map Ob.key)) (p : Ob) (hp : p.key ∉ os.map Ob.key) : Rises ((insAt os (keyPlace (os.map Ob.key) p.key) p).map Ob.key) := by
  rw [keys_insAt]
  exact h.insert p.key hp
theorem keys_delAt (os : List Ob) (i : Nat) : (delAt os i).map Ob.key = (os.map Ob.key).take i ++ (os.map Ob.key).drop (i + 1) := by simp [delAt]
theorem rises_delAt {os : List Ob} (h : Rises (os.map Ob.key)) (i : Nat) : Rises ((delAt os i).map Ob.key) := by rw [keys_delAt]; exact h.erase i
end Go.Proofs.Ytembcflgjfligaa
